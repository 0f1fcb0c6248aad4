/-
  Slices of strings: what the library's looks into them return. For at most 1048576 strings.
-/
import Derived.Test.YtcfnklpbiodhjaaFirst
import Derived.Test.YtcfnklpbiodhjaaKit
import Derived.WalkLawsBesides
import Derived.Lib.Hide
namespace Go.Proofs.Ytcfnklpbiodhjaa
open Go.RowKit

/-- The value v can be read in w as a list of strings. -/
def Strs (w : World) (v : Value) (ss : List ByteArray) : Prop :=
  ∃ a cap, v = .slice a ss.length cap ∧ (ss.length ≤ 1048576 ∧ ss.length ≤ cap) ∧
    (ss = [] ∨ ∃ b o, a = some ⟨b, o, none⟩ ∧ b < w.heap.size ∧ ∀ i, i < ss.length → w.cell? ⟨b, o + i, none⟩ = some (.string (ss.getD i ByteArray.empty)))

theorem Strs.below {w w' : World} {v : Value} {ss : List ByteArray} (h : Strs w v ss) (hb : Below w.heap.size w w') : Strs w' v ss := by
  obtain ⟨a, cap, rfl, hl, hc⟩ := h
  refine ⟨a, cap, rfl, hl, ?_⟩
  rcases hc with rfl | ⟨b, o, rfl, hlt, hcell⟩
  · exact .inl rfl
  · exact .inr ⟨b, o, rfl, Nat.lt_of_lt_of_le hlt hb.size, fun i hi => (hb.cell (p := ⟨b, o + i, none⟩) hlt).trans (hcell i hi)⟩

/-- Is the string at a place this one? -/
def isAt (ss : List ByteArray) (s : ByteArray) (i : Nat) : Bool := decide (ss.getD i ByteArray.empty = s)
/-- It is none of the first k. -/
def NotAt (ss : List ByteArray) (s : ByteArray) (k : Nat) : Prop := ∀ l, l < k → isAt ss s l = false

set_option maxHeartbeats 400000 in
theorem indexStr {w : World} {v : Value} {ss : List ByteArray} {s : ByteArray} (h : Strs w v ss) :
    Calls Try.prog 48 #[v, .string s] w fun e w' => e = .returned (.int .i64 (firstIdx (isAt ss s) 0 ss.length)) ∧ w = w' := by
  obtain ⟨a, cap, rfl, hl, hc⟩ := h
  have hl' : (ss.length : Int) ≤ 1048576 := by omega
  rcases hc with rfl | ⟨b, o, rfl, hb, hcell⟩
  · go_enter Try.func48, Try.ntmps48
    go_wp2_with fail
    refine wp_loop_rounds 1 ?_
    rw [rounds_succ]
    go_wp2_with fail
    go_ret
    exact ⟨rfl, rfl⟩
  · have HC := Lib.hid hcell
    clear hcell
    go_enter Try.func48, Try.ntmps48
    go_wp2_with fail
    go_loop [5, 8] (fun _ i => ∃ k : Nat, k ≤ ss.length ∧ i = .int .i64 k ∧ NotAt ss s k) (fun _ i => ss.length - (intOf i).toNat)
    case atStart => exact ⟨0, by omega, rfl, fun l hl => by omega⟩
    case round =>
      obtain ⟨k, hk, rfl, hn⟩ := hrel
      by_cases hlt : k < ss.length
      · obtain ⟨t, ht⟩ : ∃ t, t = ss.getD k ByteArray.empty := ⟨_, rfl⟩
        have hc1 : w.cell? ⟨b, o + k, none⟩ = some (.string t) := by rw [ht]; exact HC.out k hlt
        have hki : (k : Int) < (ss.length : Int) := by omega
        have HT := Lib.hid ht
        clear ht
        by_cases e : t = s
        · have HF := Lib.hid (firstIdx_hit hn (by unfold isAt; rw [← HT.out]; simp [e]) hlt)
          subst e
          go_wp2_with fail
          go_ret
          exact ⟨ret_int HF.out.symm, rfl⟩
        · have HF := Lib.hid (show NotAt ss s (k + 1) by
            intro l hl
            by_cases q : l = k
            · subst q; unfold isAt; rw [← HT.out]; simp [e]
            · exact hn l (by omega))
          have e1 : (s.toList == t.toList) = false := by
            rw [ByteArray.toList_eq, ByteArray.toList_eq, beq_eq_false_iff_ne]
            exact fun q => e (by rw [ByteArray.ext_iff, ← Array.toList_inj]; exact q.symm)
          clear e hn
          go_wp2_with fail
          go_round
          case rel => exact ⟨k + 1, by omega, by go_num, HF.out⟩
          case measure => simp [intOf]; omega
      · obtain rfl : k = ss.length := by omega
        have HF := Lib.hid (firstIdx_none hn)
        go_wp2_with fail
        go_ret
        exact ⟨ret_int HF.out.symm, rfl⟩

/-- The list has the string. -/
def hasStr (ss : List ByteArray) (s : ByteArray) : Bool := decide (0 ≤ firstIdx (isAt ss s) 0 ss.length)

set_option maxHeartbeats 400000 in
theorem containsStr {w : World} {v : Value} {ss : List ByteArray} {s : ByteArray} (h : Strs w v ss) :
    Calls Try.prog 38 #[v, .string s] w fun e w' => e = .returned (.bool (hasStr ss s)) ∧ w = w' := by
  cases hv : hasStr ss s
  · have h0 : decide (0 ≤ firstIdx (isAt ss s) 0 ss.length) = false := hv
    clear hv
    go_enter Try.func38, Try.ntmps38
    go_wp2_with (go_at_call 48; refine (indexStr h).mono ?_; rintro e w' ⟨rfl, rfl⟩)
    go_ret
    exact ⟨rfl, rfl⟩
  · have h0 : 0 ≤ firstIdx (isAt ss s) 0 ss.length := of_decide_eq_true hv
    clear hv
    go_enter Try.func38, Try.ntmps38
    go_wp2_with (go_at_call 48; refine (indexStr h).mono ?_; rintro e w' ⟨rfl, rfl⟩)
    go_ret
    exact ⟨rfl, rfl⟩

end Go.Proofs.Ytcfnklpbiodhjaa
