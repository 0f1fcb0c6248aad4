/-
  A slice of slices that came in, and what the laws' helper on sizes says of it. No condition.
-/
import Derived.Test.YtcfnklpbiodhjaaLists
import Derived.Test.YtcfnklpbiodhjaaRowK
namespace Go.Proofs.Ytcfnklpbiodhjaa
open Go.RowKit

/-- What is known of a slice of slices that came in. -/
def IsRowsI (w : World) (a : Option Addr) (len cap : Nat) : Prop :=
  (a = none ∧ len = 0 ∧ cap = 0) ∨
  ∃ (x : Addr) (A : Nat → Option Addr) (L C : Nat → Nat) (Z : Nat → List Int), a = some x ∧ len ≤ cap ∧ cap ≤ maxLen ∧ ∀ r, r < cap → w.cell? (x.add r) = some (.slice (A r) (L r) (C r)) ∧ IsRowK .i64 w (A r) (L r) (C r) (Z r)

theorem IsRowsI.mk {w : World} {x : Addr} {len cap : Nat} {A : Nat → Option Addr} {L C : Nat → Nat} {Z : Nat → List Int} (hl : len ≤ cap) (hm : cap ≤ maxLen)
    (h : ∀ r, r < cap → w.cell? (x.add r) = some (.slice (A r) (L r) (C r)) ∧ L r ≤ C r ∧ C r ≤ maxLen ∧ (Z r).length = C r ∧ (∀ n ∈ Z r, (Lit.int .i64 n).wf = true) ∧ (A r = none → C r = 0) ∧ ∀ a', A r = some a' → ∀ c, c < C r → w.cell? (a'.add c) = some (.int .i64 ((Z r).getD c 0))) :
    IsRowsI w (some x) len cap := by
  refine .inr ⟨x, A, L, C, Z, rfl, hl, hm, fun r hr => ?_⟩
  obtain ⟨h1, h2, h3, h4, h5, h6, h7⟩ := h r hr
  refine ⟨h1, ?_⟩
  cases e : A r with
  | none =>
    have hc := h6 e
    exact .inl ⟨rfl, by omega, hc, List.eq_nil_of_length_eq_zero (by omega)⟩
  | some a' => exact .inr ⟨a', rfl, h2, h3, h4, fun i hi => h7 a' e i (by omega), h5⟩

/-- A slice of slices whose lengths are small can be read as a list of lists. -/
def SmallTo (w : World) (a : Option Addr) (len k : Nat) : Prop := ∀ r, r < k → r < len → ∀ x A n C, a = some x → w.cell? (x.add r) = some (.slice A n C) → n ≤ 1048576

theorem lists_of_rows {w : World} {a : Option Addr} {len cap : Nat} (h : IsRowsI w a len cap) (hl : len ≤ 1048576) (hs : SmallTo w a len len) : ∃ xss, Lists w (.slice a len cap) xss := by
  rcases h with ⟨rfl, rfl, rfl⟩ | ⟨x, A, L, C, Z, rfl, h1, h2, hr⟩
  · exact ⟨[], none, 0, rfl, by simp, .inl rfl⟩
  · refine ⟨(List.range len).map fun r => (Z r).take (L r), some x, cap, by simp, ⟨by simpa using hl, by simpa using h1⟩, ?_⟩
    by_cases h0 : len = 0
    · subst h0; exact .inl (by simp)
    · obtain ⟨b, off, spot⟩ := x
      have hspot : spot = none := by simpa [Addr.add] using World.cell?_spot (hr 0 (by omega)).1
      subst hspot
      refine .inr ⟨b, off, rfl, World.block_lt_of_cell? w _ (hr 0 (by omega)).1, fun i hi => ?_⟩
      have hi' : i < len := by simpa using hi
      obtain ⟨hc, hk⟩ := hr i (by omega)
      have hn := hs i hi' hi' _ _ _ _ rfl hc
      have ea : (⟨b, off, none⟩ : Addr).add i = ⟨b, off + i, none⟩ := by unfold Addr.add; split <;> simp_all
      rw [ea] at hc
      refine ⟨_, hc, ?_⟩
      have := ints_of_rowK hk hn
      simpa [hi'] using this

/-- What the helper on sizes hands back: a number that is not negative only where all lengths are small. -/
def SzRes (w : World) (a : Option Addr) (len : Nat) (e : Ending) (w' : World) : Prop :=
  ∃ n : Int, e = .returned (.int .i64 n) ∧ (0 ≤ n → len ≤ 1048576 ∧ SmallTo w a len len) ∧ w = w'

set_option maxHeartbeats 400000 in
theorem szInts {w : World} {a : Option Addr} {n cap : Nat} {m : Int} (hn : n ≤ maxLen) (h0 : 0 ≤ m) (h1 : m ≤ 1048576) :
    Calls Try.prog 31 #[.slice a n cap, .int .i64 m] w fun e w' => e = .returned (.int .i64 (if m < n then -1 else m - n)) ∧ w = w' := by
  unfold maxLen at hn
  by_cases hlt : m < (n : Int)
  · go_enter Try.func31, Try.ntmps31
    go_wp2_with fail
    go_ret
    exact ⟨rfl, rfl⟩
  · have hge : (n : Int) ≤ m := by omega
    clear hlt
    go_enter Try.func31, Try.ntmps31
    go_wp2_with fail
    go_ret
    exact ⟨rfl, rfl⟩

set_option maxHeartbeats 1000000 in
theorem szLists {w : World} {a : Option Addr} {len cap : Nat} (h : IsRowsI w a len cap) :
    Calls Try.prog 11 #[.slice a len cap, .int .i64 1048576] w (SzRes w a len) := by
  rcases h with ⟨rfl, rfl, rfl⟩ | ⟨x, A, L, C, Z, rfl, hl, hm, hr⟩
  · go_enter Try.func11, Try.ntmps11
    go_wp2_with fail
    refine wp_loop_rounds 1 ?_
    rw [rounds_succ]
    go_wp2_with fail
    go_ret
    exact ⟨_, rfl, fun _ => ⟨by omega, fun r h1 h2 => by omega⟩, rfl⟩
  · have hm' : (len : Int) ≤ 9223372036854775807 := by unfold maxLen at hm; omega
    rcases Nat.lt_or_ge 1048576 len with hbig | hsm
    · have hb : (1048576 : Int) < (len : Int) := by omega
      go_enter Try.func11, Try.ntmps11
      go_wp2_with fail
      go_ret
      exact ⟨_, rfl, fun q => absurd q (by decide), rfl⟩
    · have hb : (len : Int) ≤ 1048576 := by omega
      by_cases h0 : len = 0
      · subst h0
        go_enter Try.func11, Try.ntmps11
        go_wp2_with fail
        refine wp_loop_rounds 1 ?_
        rw [rounds_succ]
        go_wp2_with fail
        go_ret
        exact ⟨_, rfl, fun _ => ⟨by omega, fun r h1 h2 => by omega⟩, rfl⟩
      · obtain ⟨b, off, spot⟩ := x
        have hspot : spot = none := by simpa [Addr.add] using World.cell?_spot (hr 0 (by omega)).1
        subst hspot
        have ea : ∀ i, (⟨b, off, none⟩ : Addr).add i = ⟨b, off + i, none⟩ := fun i => by unfold Addr.add; split <;> simp_all
        have HA := Lib.hid ea
        have HR := Lib.hid hr
        clear hr ea h0 hsm
        go_enter Try.func11, Try.ntmps11
        go_wp2_with fail
        go_loop [1, 5] (fun m i => ∃ (k : Nat) (n : Int), k ≤ len ∧ i = .int .i64 k ∧ m = .int .i64 n ∧ 0 ≤ n ∧ n ≤ 1048576 ∧ SmallTo w (some ⟨b, off, none⟩) len k) (fun _ i => len - (intOf i).toNat)
        case atStart => exact ⟨0, _, by omega, rfl, rfl, by omega, by omega, fun r h1 _ => by omega⟩
        case round =>
          obtain ⟨k, n, hk, rfl, rfl, hn0, hn1, hst⟩ := hrel
          by_cases hlt : k < len
          · obtain ⟨hc, hz⟩ := HR.out k (by omega)
            rw [HA.out] at hc
            have hLm : L k ≤ maxLen := by
              rcases hz with ⟨_, e, _⟩ | ⟨_, _, q1, q2, _⟩
              · rw [e]; simp
              · omega
            have hki : (k : Int) < (len : Int) := by omega
            have hsz := szInts (w := w) (a := A k) (cap := C k) hLm hn0 hn1
            by_cases hbad : n < (L k : Int)
            · rw [if_pos hbad] at hsz
              have HS := Lib.hid hsz
              clear hsz hz hbad
              go_wp2_with (go_at_call 31; refine HS.out.mono ?_; rintro e w' ⟨rfl, rfl⟩)
              go_ret
              exact ⟨_, rfl, fun q => absurd q (by decide), rfl⟩
            · rw [if_neg hbad] at hsz
              have HS := Lib.hid hsz
              have hge : (L k : Int) ≤ n := by omega
              have HN := Lib.hid (show SmallTo w (some ⟨b, off, none⟩) len (k + 1) by
                intro r h1 h2 x' A' n' C' e hcell
                by_cases q : r = k
                · subst q
                  simp only [Option.some.injEq] at e
                  subst e
                  rw [HA.out, hc] at hcell
                  simp only [Option.some.injEq, Value.slice.injEq] at hcell
                  omega
                · exact hst r (by omega) h2 x' A' n' C' e hcell)
              clear hsz hz hbad hst
              go_wp2_with (go_at_call 31; refine HS.out.mono ?_; rintro e w' ⟨rfl, rfl⟩)
              go_round
              case rel => exact ⟨k + 1, _, by omega, by go_num, rfl, by omega, by omega, HN.out⟩
              case measure => simp [intOf]; omega
          · obtain rfl : k = len := by omega
            go_wp2_with fail
            go_ret
            exact ⟨_, rfl, fun _ => ⟨by omega, hst⟩, rfl⟩

end Go.Proofs.Ytcfnklpbiodhjaa
