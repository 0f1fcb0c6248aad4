/-
  The reader of the drawn codes: a pick is a number below its bound. For codes of at most 1048576 bytes.
-/
import Derived.Test.YtpofkfcjnhoamaaKit
import Derived.WalkLawsBesides
import Derived.Lib.Hide
import Derived.Deep.QuietTactic
import Derived.BigQuiet
namespace Go.Proofs.Ytpofkfcjnhoamaa
open Go.RowKit

/-- The value v can be read in w as a list of at most 2000 bytes. -/
def Bytes (w : World) (v : Value) (n : Nat) : Prop :=
  ∃ a cap, v = .slice a n cap ∧ n ≤ 2000 ∧ (n = 0 ∨ ∃ b o, a = some ⟨b, o, none⟩ ∧ b < w.heap.size ∧ ∀ i, i < n → ∃ x : Int, w.cell? ⟨b, o + i, none⟩ = some (.int .u8 x) ∧ 0 ≤ x ∧ x ≤ 255)

/-- Block g holds a reader that stands at p; what it reads lies elsewhere. -/
def Rdr (w : World) (g p : Nat) : Prop :=
  ∃ v n, w.heap[g]? = some (.cells #[v, .int .i64 p] 107 (0, 0)) ∧ Bytes w v n ∧ (0 < n → ∀ b o m c, v = .slice (some ⟨b, o, none⟩) m c → b < g)

/-- What is written into later blocks leaves a reader as it is. -/
theorem Rdr.grown {w w' : World} {g p : Nat} {row : Option Nat} (h : Rdr w g p) (hg : w.grownBy w' row) (hr : ∀ b, row = some b → g < b) : Rdr w' g p := by
  obtain ⟨v, n, h1, hb, hne⟩ := h
  have hlt : g < w.heap.size := (Array.getElem?_eq_some_iff.1 h1).1
  refine ⟨v, n, (hg.block g hlt (fun e => by have := hr g e.symm; omega)).trans h1, ?_, hne⟩
  obtain ⟨a, cap, rfl, hm, hc⟩ := hb
  refine ⟨a, cap, rfl, hm, ?_⟩
  rcases hc with h0 | ⟨b, o, rfl, hb', hcell⟩
  · exact .inl h0
  · refine .inr ⟨b, o, rfl, Nat.lt_of_lt_of_le hb' hg.size, fun i hi => ?_⟩
    obtain ⟨x, hx, hx2⟩ := hcell i hi
    have hbg := hne (by omega) b o _ _ rfl
    exact ⟨x, (World.cell?_of_block (hg.block b hb' (fun e => by have := hr b e.symm; omega))).trans hx, hx2⟩

/-- What a pick hands back. -/
def Picked (w : World) (g p : Nat) (n : Int) (e : Ending) (w' : World) : Prop :=
  ∃ r : Int, e = .returned (.int .i64 r) ∧ 0 ≤ r ∧ (1 ≤ n → r < n) ∧ Rdr w' g (p + 1) ∧ w.grownBy w' (some g)

theorem Rdr.step {w : World} {g p m cap : Nat} {a : Option Addr} (hg : w.heap[g]? = some (.cells #[.slice a m cap, .int .i64 p] 107 (0, 0))) (hb : Bytes w (.slice a m cap) m) (hne : 0 < m → ∀ b o n c, Value.slice a m cap = .slice (some ⟨b, o, none⟩) n c → b < g) (k : Nat) :
    Rdr ((w.setCell ⟨g, 1, none⟩ (.int .i64 ((p : Int) + 1))).drewN k) g (p + 1) ∧ w.grownBy ((w.setCell ⟨g, 1, none⟩ (.int .i64 ((p : Int) + 1))).drewN k) (some g) := by
  have hs : w.grownBy (w.setCell ⟨g, 1, none⟩ (.int .i64 ((p : Int) + 1))) (some g) :=
    ⟨rfl, rfl, rfl, by simp [World.setCell], fun j _ hj => Below.heap_setCell _ _ _ _ (fun e => hj (by rw [e]))⟩
  have hs2 : w.grownBy ((w.setCell ⟨g, 1, none⟩ (.int .i64 ((p : Int) + 1))).drewN k) (some g) := ⟨hs.os, hs.tape, hs.output, hs.size, hs.block⟩
  refine ⟨⟨.slice a m cap, m, ?_, ?_, hne⟩, hs2⟩
  · show (w.setCell ⟨g, 1, none⟩ (.int .i64 ((p : Int) + 1))).heap[g]? = _
    simp [World.setCell, Array.getElem?_modify, hg]
  · obtain ⟨a', cap', e, hm, hc⟩ := hb
    simp only [Value.slice.injEq, true_and] at e
    obtain ⟨rfl, rfl⟩ := e
    refine ⟨a, cap, rfl, hm, ?_⟩
    rcases hc with h0 | ⟨b, o, rfl, hlt, hcell⟩
    · exact .inl h0
    · refine .inr ⟨b, o, rfl, Nat.lt_of_lt_of_le hlt hs2.size, fun i hi => ?_⟩
      obtain ⟨x, hx, hr⟩ := hcell i hi
      exact ⟨x, (World.cell?_of_block (hs2.block b hlt (fun e => Nat.ne_of_lt (hne (by omega) b o _ _ rfl) (Option.some.inj e)))).trans hx, hr⟩

theorem xor_i64 (X : Nat) (hX : X < 9223372036854775808) : 0 ≤ bits .xor .i64 (X : Int) ((X : Int) / 64) := by
  have hd : X / 64 < 9223372036854775808 := Nat.lt_of_le_of_lt (Nat.div_le_self _ _) hX
  have hx : X ^^^ (X / 64) < 2 ^ 63 := Nat.xor_lt_two_pow (by omega) (by omega)
  have d : ((X : Int) / 64) = ((X / 64 : Nat) : Int) := by omega
  have h1 : (BitVec.ofInt 64 (X : Int)).toNat = X := by
    rw [BitVec.ofInt_natCast, BitVec.toNat_ofNat]; exact Nat.mod_eq_of_lt (by omega)
  have h2 : (BitVec.ofInt 64 ((X / 64 : Nat) : Int)).toNat = X / 64 := by
    rw [BitVec.ofInt_natCast, BitVec.toNat_ofNat]; exact Nat.mod_eq_of_lt (by omega)
  rw [d]
  have e : bits .xor .i64 (X : Int) ((X / 64 : Nat) : Int) = IntKind.i64.wrap (((X ^^^ (X / 64)) : Nat) : Int) := by
    show IntKind.i64.wrap ((BitVec.ofInt 64 (X : Int) ^^^ BitVec.ofInt 64 ((X / 64 : Nat) : Int)).toNat : Int) = _
    rw [BitVec.toNat_xor, h1, h2]
  rw [e, IntWalk.i64_in _ (by omega)]
  omega

theorem World.drewN_zero' (w : World) : w.drewN 0 = w := rfl

set_option maxHeartbeats 2000000 in
theorem pick {w : World} {g p : Nat} {n : Int} (h : Rdr w g p) (hp : p ≤ 4294967296) (hn0 : -4294967296 ≤ n) (hn1 : n ≤ 4294967296) :
    Calls Try.prog 48 #[.pointer (some ⟨g, 0, none⟩), .int .i64 n] w (Picked w g p n) := by
  obtain ⟨v, m, hg, hb, hne⟩ := h
  obtain ⟨a, cap, rfl, hm, hc⟩ := hb
  have hbb : Bytes w (.slice a m cap) m := ⟨a, cap, rfl, hm, hc⟩
  have HSTEP := fun k => Lib.hid (Rdr.step hg hbb hne k)
  have HS := Lib.hid HSTEP
  clear HSTEP hbb
  have hp' : (p : Int) ≤ 4294967296 := by omega
  have hm' : (m : Int) ≤ 2000 := by omega
  have c0 : w.cell? ⟨g, 0, none⟩ = some (.slice a m cap) := by simp [World.cell?, hg]
  have c1 : w.cell? ⟨g, 1, none⟩ = some (.int .i64 p) := by simp [World.cell?, hg]
  have f1 : w.frozen? ⟨g, 1, none⟩ = false := by simp [World.frozen?, hg]
  clear hg
  by_cases h1 : n < 1
  · go_enter Try.func48, Try.ntmps48
    go_wp2_with fail
    go_ret
    exact ⟨_, rfl, by omega, fun q => by omega, (HS.out 0).out.1, (HS.out 0).out.2⟩
  · have h1' : 1 ≤ n := by omega
    clear h1
    by_cases h0 : m = 0
    · have e0 : ((m : Int) == 0) = true := by simp [h0]
      clear h0
      go_enter Try.func48, Try.ntmps48
      go_wp2_with fail
      go_ret
      exact ⟨_, rfl, by omega, fun q => by omega, (HS.out 0).out.1, (HS.out 0).out.2⟩
    · have e0 : ((m : Int) == 0) = false := by simp; exact h0
      have hm1 : 1 ≤ (m : Int) := by omega
      rcases hc with hc | ⟨b, o, rfl, hlt, hcell⟩
      · exact absurd hc h0
      · have hbg : b ≠ g := Nat.ne_of_lt (hne (by omega) b o _ _ rfl)
        have HC := Lib.hid hcell
        clear hcell hne h0
        -- a cell, behind the store into the reader
        have old : ∀ i, i < m → ∃ x : Int, (w.setCell ⟨g, 1, none⟩ (.int .i64 ((p : Int) + 1))).cell? ⟨b, o + i, none⟩ = some (.int .u8 x) ∧ 0 ≤ x ∧ x ≤ 255 := by
          intro i hi
          obtain ⟨x, hx, hr⟩ := HC.out i hi
          exact ⟨x, (World.cell?_of_block (Below.heap_setCell _ _ _ _ hbg)).trans hx, hr⟩
        have HO := Lib.hid old
        clear old HC
        by_cases hpm : p < m
        · obtain ⟨x, hx, hx0, hx1⟩ := HO.out p hpm
          have hpi : (p : Int) < (m : Int) := by omega
          have hpm2 : 0 ≤ x % n := Int.emod_nonneg _ (by omega)
          have hpm3 : x % n < n := Int.emod_lt_of_pos _ (by omega)
          have HP := Lib.hid (And.intro hpm2 hpm3)
          clear hpm2 hpm3
          go_enter Try.func48, Try.ntmps48
          go_wp2_with fail
          go_ret
          exact ⟨_, rfl, HP.out.1, fun _ => HP.out.2, (HS.out 0).out.1, (HS.out 0).out.2⟩
        · have hpi : (m : Int) ≤ (p : Int) := by omega
          obtain ⟨x, hx, hx0, hx1⟩ := HO.out (p % m) (Nat.mod_lt _ (by omega))
          obtain ⟨y, hy, hy0, hy1⟩ := HO.out ((p * 7 + 3) % m) (Nat.mod_lt _ (by omega))
          clear hpm
          go_enter Try.func48, Try.ntmps48
          go_wp2_with fail
          have hmN : 1 ≤ m := by omega
          have hq' : (p / m) ≤ p := Nat.div_le_self _ _
          have e10 : (p : Int).tdiv m = ((p / m : Nat) : Int) := by rw [Int.tdiv_eq_ediv_of_nonneg (by omega)]; rfl
          obtain ⟨Q, hQ⟩ : ∃ Q, Q = p / m := ⟨_, rfl⟩
          rw [← hQ] at hq' e10
          have HQ := Lib.hid hQ
          clear hQ
          have hq : (Q : Int) ≤ (p : Int) := by omega
          have e1 : (p : Int).tmod m = ((p % m : Nat) : Int) := by rw [Int.tmod_eq_emod_of_nonneg (by omega)]; rfl
          have e2 : IntKind.i64.wrap ((p : Int) * 7) = (p : Int) * 7 := IntWalk.i64_in _ (by omega)
          have e3 : IntKind.i64.wrap ((p : Int) * 7 + 3) = (p : Int) * 7 + 3 := IntWalk.i64_in _ (by omega)
          have e4 : ((p : Int) * 7 + 3).tmod m = (((p * 7 + 3) % m : Nat) : Int) := by rw [Int.tmod_eq_emod_of_nonneg (by omega)]; simp
          have e5 : IntKind.i64.wrap (x * 131) = x * 131 := IntWalk.i64_in _ (by omega)
          have e6 : IntKind.i64.wrap (y * 1117) = y * 1117 := IntWalk.i64_in _ (by omega)
          have e7 : IntKind.i64.wrap (x * 131 + y * 1117) = x * 131 + y * 1117 := IntWalk.i64_in _ (by omega)
          have e8 : IntKind.i64.wrap ((p : Int) * 29) = (p : Int) * 29 := IntWalk.i64_in _ (by omega)
          have e9 : IntKind.i64.wrap (x * 131 + y * 1117 + (p : Int) * 29) = x * 131 + y * 1117 + (p : Int) * 29 := IntWalk.i64_in _ (by omega)
          have e11 : IntKind.i64.wrap ((Q : Int) * 53) = (Q : Int) * 53 := IntWalk.i64_in _ (by omega)
          have e12 : IntKind.i64.wrap (x * 131 + y * 1117 + (p : Int) * 29 + (Q : Int) * 53) = x * 131 + y * 1117 + (p : Int) * 29 + (Q : Int) * 53 := IntWalk.i64_in _ (by omega)
          have hm0 : ¬ m = 0 := by omega
          have g0 : (p : Int).tmod (m : Int) = (p : Int) % (m : Int) := Int.tmod_eq_emod_of_nonneg (by omega)
          have g1 : 0 ≤ (p : Int) % (m : Int) := Int.emod_nonneg _ (by omega)
          have g2 : (p : Int) % (m : Int) < (m : Int) := Int.emod_lt_of_pos _ (by omega)
          have g3 : ((p : Int) % (m : Int)).toNat = p % m := by rw [← Int.natCast_emod]; exact Int.toNat_natCast _
          have g4 : 0 ≤ ((p : Int) * 7 + 3) % (m : Int) := Int.emod_nonneg _ (by omega)
          have g5 : ((p : Int) * 7 + 3) % (m : Int) < (m : Int) := Int.emod_lt_of_pos _ (by omega)
          have g6 : (((p : Int) * 7 + 3) % (m : Int)).toNat = (p * 7 + 3) % m := by
            rw [show ((p : Int) * 7 + 3) = ((p * 7 + 3 : Nat) : Int) by omega, ← Int.natCast_emod]
            exact Int.toNat_natCast _
          have g7 : ((p : Int) * 7 + 3).tmod (m : Int) = ((p : Int) * 7 + 3) % (m : Int) := Int.tmod_eq_emod_of_nonneg (by omega)
          clear e1 e4 HO hm1 hmN hq'
          have hX0 : 0 ≤ x * 131 + y * 1117 + (p : Int) * 29 + (Q : Int) * 53 := by omega
          have hX1 : x * 131 + y * 1117 + (p : Int) * 29 + (Q : Int) * 53 < 9223372036854775808 := by omega
          have gx : 0 ≤ bits .xor .i64 (x * 131 + y * 1117 + (p : Int) * 29 + (Q : Int) * 53) ((x * 131 + y * 1117 + (p : Int) * 29 + (Q : Int) * 53) / 64) := by
            obtain ⟨N, hN⟩ := Int.eq_ofNat_of_zero_le hX0
            rw [hN] at hX1 ⊢
            exact xor_i64 N (by omega)
          have HM := fun r : Int => Lib.hid (show 0 ≤ r % n ∧ r % n < n from ⟨Int.emod_nonneg _ (by omega), Int.emod_lt_of_pos _ (by omega)⟩)
          have HM' := Lib.hid HM
          clear HM hX1
          go_quiet (fail)
          clear g0 g1 g2 g3 g4 g5 g6 g7 e2 e3 e5 e6 e7 e8 e9 e10 e11 e12
          go_wp2_with fail
          go_ret
          exact ⟨_, rfl, (HM'.out _).out.1, fun _ => (HM'.out _).out.2, (HS.out _).out.1, (HS.out _).out.2⟩

end Go.Proofs.Ytpofkfcjnhoamaa
