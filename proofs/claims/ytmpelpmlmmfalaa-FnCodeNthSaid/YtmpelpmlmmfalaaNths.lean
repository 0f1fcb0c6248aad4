/-
  The code with a rank, by the model and by the program: for every number of beats and every rank.
-/
import Derived.Test.YtmpelpmlmmfalaaNthP
import Derived.Test.YtmpelpmlmmfalaaInts
import Derived.Test.YtmpelpmlmmfalaaResults
namespace Go.Proofs.Ytmpelpmlmmfalaa
open Go.RowKit

theorem own_cons_shape {w : World} {base : Nat} {v : Value} {n : Nat} {ys : List Value} {E : Nat} (h : w.ownsRow base E 1 v (n + 1) ys) : ∃ a c, v = .slice a (n + 1) c := by
  rcases h.2 with ⟨_, h0⟩ | ⟨g, cap, cur, rfl, _⟩
  · omega
  · exact ⟨_, _, rfl⟩

/-- What the loops of both functions keep: the groups that are there and those that are still to come. -/
def NthRel (w : World) (n r : Int) (j b : Nat) (q : Int) (v : Value) (wr : World) : Prop :=
  ∃ (ys : List Int) (a : Option Addr) (c : Nat), v = .slice a j c ∧ ys.length = j ∧ wr.ownsRow w.heap.size 3 1 v j (ys.map (Value.int .i64)) ∧ Below w.heap.size w wr ∧
    nthL 5 n.toNat r = ys ++ nthL (5 - j) b q ∧ j ≤ 5 ∧ b ≤ 30 ∧ 0 ≤ q ∧ q < many (5 - j) b

theorem NthRel.start {n r : Int} (h : nthOk n r = true) (w : World) : NthRel w n r 0 n.toNat r (.slice (some ⟨w.heap.size, 0, none⟩) 0 0) (w.alloc (.cells #[] 3)) := by
  have hk := nthOk_is h
  exact ⟨[], _, _, rfl, rfl, own_empty w, (Below.refl _ _).alloc (Nat.le_refl _) _, rfl, by omega, by omega, hk.1, hk.2.2.2⟩

theorem NthRel.room {w : World} {n r : Int} {j b : Nat} {q : Int} {v : Value} {wr : World} (h : NthRel w n r j b q v wr) (hb : 0 < b) : j ≤ 4 := by
  obtain ⟨ys, a, c, _, _, _, _, _, h5, _, h0, h1⟩ := h
  by_cases e : j = 5
  · subst e
    rw [show 5 - 5 = 0 from rfl] at h1
    simp only [many, if_neg (show ¬ b = 0 by omega)] at h1
    omega
  · omega

theorem NthRel.done {w : World} {n r : Int} {j : Nat} {q : Int} {v : Value} {wr : World} (h : NthRel w n r j 0 q v wr) : OwnI wr w.heap.size v (nthL 5 n.toNat r) ∧ Below w.heap.size w wr := by
  obtain ⟨ys, a, c, _, hl, ho, hb, e, _⟩ := h
  rw [nthL_zero, List.append_nil] at e
  rw [e]
  subst hl
  exact ⟨ho, hb⟩

theorem NthRel.step {w : World} {n r : Int} {j b k : Nat} {q : Int} {v v' : Value} {wr w2 : World} (h : NthRel w n r j b q v wr) (hb : 0 < b)
    (hk : nthG (4 - j) b q = k) (ho : w2.ownsRow w.heap.size 3 1 v' (j + 1) ((nthL 5 n.toNat r).take j |>.map (Value.int .i64) |>.append [.int .i64 k])) (hbel : Below w.heap.size w w2) :
    NthRel w n r (j + 1) (b - k) (q - sumTo (part (4 - j) b) (k - 1)) v' w2 := by
  have h4 := h.room hb
  obtain ⟨ys, a, c, rfl, hl, ho1, hb1, e, h5, h30, h0, h1⟩ := h
  have e5 : 5 - j = (4 - j) + 1 := by omega
  rw [e5] at h1 e
  obtain ⟨k1, k2, k3, k4⟩ := nthG_is (4 - j) b q hb h0 h1
  rw [hk] at k1 k2 k3 k4
  rw [nthL_succ hb hk] at e
  obtain ⟨a', c', hv'⟩ := own_cons_shape ho
  have hy : (nthL 5 n.toNat r).take j = ys := by rw [e, ← hl, List.take_left]
  rw [hy] at ho
  have hsum : sumTo (part (4 - j) b) k = sumTo (part (4 - j) b) (k - 1) + part (4 - j) b k := by
    obtain ⟨k', rfl⟩ : ∃ k', k = k' + 1 := ⟨k - 1, by omega⟩
    rfl
  refine ⟨ys ++ [(k : Int)], a', c', hv', by simp [hl], by simpa using ho, hbel, ?_, by omega, by omega, by omega, ?_⟩
  · rw [e, show 5 - (j + 1) = 4 - j by omega]
    simp
  · rw [show 5 - (j + 1) = 4 - j by omega]
    unfold part at hsum k4 k3 ⊢
    omega

theorem NthRel.value {w : World} {n r : Int} {j b : Nat} {q : Int} {v : Value} {wr : World} (h : NthRel w n r j b q v wr) : ∃ a c, v = .slice a j c := by
  obtain ⟨_, a, c, hv, _⟩ := h
  exact ⟨a, c, hv⟩
theorem NthRel.parts {w : World} {n r : Int} {j b : Nat} {q : Int} {v : Value} {wr : World} (h : NthRel w n r j b q v wr) :
    wr.ownsRow w.heap.size 3 1 v j (((nthL 5 n.toNat r).take j).map (Value.int .i64)) ∧ Below w.heap.size w wr ∧ j ≤ 5 ∧ b ≤ 30 ∧ 0 ≤ q ∧ q < many (5 - j) b := by
  obtain ⟨ys, a, c, _, hl, ho, hb, e, h5, h30, h0, h1⟩ := h
  refine ⟨?_, hb, h5, h30, h0, h1⟩
  rw [e, ← hl, List.take_left]
  rw [hl]
  exact ho

set_option maxHeartbeats 1000000 in
theorem nthGroup {g b : Nat} {q : Int} (w : World) (hg : g ≤ 4) (hb : 0 < b) (h30 : b ≤ 30) (h0 : 0 ≤ q) (h1 : q < many (g + 1) b) {m : Int} (hm1 : m ≤ (g : Int) + 1) (hm2 : (g : Int) + 1 ≤ m) :
    Calls Try.prog 47 #[.int .i64 b, .int .i64 m, .int .i64 q] w fun e w' => e = .returned (.tuple #[.int .i64 (nthG g b q), .int .i64 (sumTo (part g b) (nthG g b q - 1))]) ∧ w = w' := by
  have hq : q ≤ 7776 := by have := (many_bounds (g + 1) b (by omega)).2; omega
  have HM := Lib.hid h1
  clear h1
  have hb1 : (1 : Int) ≤ (b : Int) := by omega
  go_enter Try.func47, Try.ntmps47
  go_wp2_with fail
  go_loop [8, 9, 10] (fun s k _ => ∃ j : Nat, j + 1 ≤ min b 6 ∧ k = .int .i64 ((j : Int) + 1) ∧ s = .int .i64 (sumTo (part g b) j) ∧ sumTo (part g b) j ≤ q) (fun _ k _ => (7 - intOf k).toNat)
  case atStart => exact ⟨0, by omega, rfl, rfl, h0⟩
  case round =>
    obtain ⟨j, hj, rfl, rfl, hs⟩ := hrel
    have hp := part_bounds g b j (by omega) (by omega)
    have hp' : 0 ≤ sumTo (part g b) j ∧ sumTo (part g b) j ≤ 46656 := hp
    have hmb := many_bounds g (b - (j + 1)) (by omega)
    clear hp
    by_cases hlast : j + 1 = min b 6
    · have HK := Lib.hid (nthG_only hb h0 HM.out (show 1 ≤ j + 1 by omega) hs (by rw [hlast, ← many_parts g b hb]; exact HM.out))
      have hle1 : (b : Int) ≤ (j : Int) + 1 ∨ (6 : Int) ≤ (j : Int) + 1 := by omega
      have hle2 : (j : Int) + 1 ≤ (b : Int) := by omega
      have hle3 : (j : Int) + 1 ≤ 6 := by omega
      clear hlast hj
      go_wp2_with fail
      all_goals
        go_ret2
        refine ⟨?_, rfl⟩
        rw [HK.out]
        congr 4
        all_goals (simp; try omega)
    · have hlt1 : (j : Int) + 1 < (b : Int) := by omega
      have hlt2 : (j : Int) + 1 < 6 := by omega
      clear hlast hj
      by_cases hq2 : q < sumTo (part g b) j + many g (b - (j + 1))
      · have HK := Lib.hid (nthG_only hb h0 HM.out (show 1 ≤ j + 1 by omega) hs hq2)
        go_wp2_with (go_at_call 44; refine (impl_many g _ _ _ (by omega) (by omega) (by omega) (by omega)).mono ?_; rintro e w' ⟨rfl, rfl⟩)
        all_goals
          go_ret2
          refine ⟨?_, rfl⟩
          rw [HK.out]
          congr 4
      · have hq3 : sumTo (part g b) j + many g (b - (j + 1)) ≤ q := by omega
        clear hq2
        go_wp2_with (go_at_call 44; refine (impl_many g _ _ _ (by omega) (by omega) (by omega) (by omega)).mono ?_; rintro e w' ⟨rfl, rfl⟩)
        all_goals
          go_round
          case rel => exact ⟨j + 1, by omega, by go_num, rfl, hq3⟩
          case measure => simp [intOf]; omega

end Go.Proofs.Ytmpelpmlmmfalaa
