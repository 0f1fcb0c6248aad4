/-
  The marking of a list of paths. For lists of at most 1048576 paths, each list in them of at most as many integers.
-/
import Derived.Test.YtedbfmmklmidjaaPathsL
import Derived.Test.YtedbfmmklmidjaaLawK
namespace Go.Proofs.Ytedbfmmklmidjaa
open Go.RowKit Go.Sort

/-- The marking hands back a number, and writes only what lies in the blocks lo to hi. -/
def MarkedP (w : World) (lo hi : Nat) (k m : Int) (e : Ending) (w' : World) : Prop := ∃ n : Int, e = .returned (.int .i64 n) ∧ k ≤ n ∧ n ≤ m ∧ GrownIn w w' lo hi

set_option maxHeartbeats 2000000 in
theorem markPaths {wh w : World} {base : Nat} {v : Value} {ps : List (List Int × List Int)} {k : Int} (h : OwnPaths wh base v ps) (c : Below wh.heap.size wh w) (hk0 : 0 ≤ k) (hk : k ≤ 1048576) :
    Calls Try.prog 22 #[v, .int .i64 k] w (MarkedP w base wh.heap.size k (k + 2097152 * ps.length)) := by
  obtain ⟨g, rfl, hg, ⟨f, hr, hi, hd⟩, hl, hll⟩ := h
  have hl' : (ps.length : Int) ≤ 1048576 := by omega
  have hr1 := hr.of_block (c.block _ hr.lt)
  have hi1 : ∀ i, i < ps.length → OwnI w (g + 1) (f (i * 2)) (ps.getD i noPath).1 ∧ OwnI w (g + 1) (f (i * 2 + 1)) (ps.getD i noPath).2 := fun i hik => ⟨(hi i hik).1.below c, (hi i hik).2.below c⟩
  have hoj : ∀ q, q < ps.length * 2 → ∃ xs, OwnI wh (g + 1) (f q) xs := fun q hq => by
    rcases Nat.mod_two_eq_zero_or_one q with e | e
    · obtain ⟨m, rfl⟩ : ∃ m, q = m * 2 := ⟨q / 2, by omega⟩
      exact ⟨_, (hi m (by omega)).1⟩
    · obtain ⟨m, rfl⟩ : ∃ m, q = m * 2 + 1 := ⟨q / 2, by omega⟩
      exact ⟨_, (hi m (by omega)).2⟩
  have HLT := Lib.hid (fun q (hq : q < ps.length * 2) (b : Nat) (e : (f q).ownBlock = some b) => show base ≤ b ∧ b < wh.heap.size ∧ b ≠ g from by
    obtain ⟨xs, o⟩ := hoj q hq
    have := World.ownsRow.lt o b e
    omega)
  have HD := Lib.hid (fun i j (hij : i ≠ j) (hi : i < ps.length * 2) (hj : j < ps.length * 2) => show (f i).ownBlock = none ∨ (f i).ownBlock ≠ (f j).ownBlock from by
    rcases Nat.lt_or_gt_of_ne hij with e | e
    · exact hd i j e hj
    · rcases hd j i e hi with q | q
      · cases e2 : (f i).ownBlock with
        | none => exact .inl rfl
        | some b => rw [q]; exact .inr (by simp)
      · exact .inr (fun e => q e.symm))
  have HLL := Lib.hid hll
  clear hr hi hd hll hoj
  go_enter Try.func22, Try.ntmps22
  go_wp2_with fail
  go_loopw [1, 5] (fun q i wr => ∃ (j : Nat) (n : Int), j ≤ ps.length ∧ i = .int .i64 j ∧ q = .int .i64 n ∧ k ≤ n ∧ n ≤ k + 2097152 * j ∧ wr.rowIs g 40 (ps.length * 2) f ∧ (∀ i, j ≤ i → i < ps.length → OwnI wr (g + 1) (f (i * 2)) (ps.getD i noPath).1 ∧ OwnI wr (g + 1) (f (i * 2 + 1)) (ps.getD i noPath).2) ∧ GrownIn w wr base wh.heap.size) (fun _ i _ => ps.length - (intOf i).toNat)
  case atStart => exact ⟨0, k, by omega, rfl, rfl, by omega, by omega, hr1, fun i _ hi => hi1 i hi, GrownIn.refl _ _ _⟩
  case round =>
    obtain ⟨j, n, hj, rfl, rfl, hn0, hn1, hrow, hown, hgr⟩ := hrel
    by_cases hlt : j < ps.length
    · have c1 : wr.cell? ⟨g, j * 2, none⟩ = some (f (j * 2)) := hrow.cell (by omega)
      have o1 := (hown j (Nat.le_refl _) hlt).1
      have hlj := HLL.out j hlt
      have HOWN := Lib.hid hown
      have HROW := Lib.hid hrow
      have hki : (j : Int) < (ps.length : Int) := by omega
      obtain ⟨u, hu⟩ : ∃ u, u = f (j * 2) := ⟨_, rfl⟩
      rw [← hu] at c1 o1
      obtain ⟨ys, hys⟩ : ∃ ys, ys = (ps.getD j noPath).1 := ⟨_, rfl⟩
      obtain ⟨zs, hzs⟩ : ∃ zs, zs = (ps.getD j noPath).2 := ⟨_, rfl⟩
      rw [← hys] at o1
      rw [← hys, ← hzs] at hlj
      have hl1 := hlj.1
      have hl2 := hlj.2
      have HU := Lib.hid hu
      have HZ := Lib.hid hzs
      clear hown hrow hu hys hzs hlj
      go_wp2_with (go_at_call 23; refine (markInts o1 hl1 (by omega) (by omega)).mono ?_)
      rintro e w2 ⟨rfl, o2, g2⟩
      have HG := Lib.hid g2
      have hrow2 := HROW.out.of_block (HG.out.block _ HROW.out.lt (fun e => (HLT.out _ (show j * 2 < ps.length * 2 by omega) g (by rw [← HU.out]; exact e.symm)).2.2 rfl))
      have c2 : w2.cell? ⟨g, j * 2 + 1, none⟩ = some (f (j * 2 + 1)) := hrow2.cell (by omega)
      have o3 : OwnI w2 (g + 1) (f (j * 2 + 1)) zs := by
        rw [HZ.out]
        exact ((HOWN.out j (Nat.le_refl _) hlt).2).kept HG.out (by rw [HU.out]; exact HD.out _ _ (by omega) (by omega) (by omega))
      have HROW2 := Lib.hid hrow2
      obtain ⟨u2, hu2⟩ : ∃ u2, u2 = f (j * 2 + 1) := ⟨_, rfl⟩
      rw [← hu2] at c2 o3
      have HU2 := Lib.hid hu2
      clear g2 o2 o1 c1 hrow2 hu2
      go_wp2_with (go_at_call 23; refine (markInts o3 hl2 (by omega) (by omega)).mono ?_)
      rintro e w3 ⟨rfl, o4, g4⟩
      have HG4 := Lib.hid g4
      clear g4 o4 o3 c2
      go_wp2_with fail
      go_roundw
      case rel =>
        refine ⟨j + 1, _, by omega, by go_num, rfl, by omega, by omega, HROW2.out.of_block (HG4.out.block _ HROW2.out.lt (fun e => (HLT.out _ (show j * 2 + 1 < ps.length * 2 by omega) g (by rw [← HU2.out]; exact e.symm)).2.2 rfl)), fun i hi hil => ?_, (hgr.step HG.out (fun b e => ?_)).step HG4.out (fun b e => ?_)⟩
        · have q := HOWN.out i (by omega) hil
          refine ⟨(q.1.kept HG.out ?_).kept HG4.out ?_, (q.2.kept HG.out ?_).kept HG4.out ?_⟩
          · rw [HU.out]; exact HD.out _ _ (by omega) (by omega) (by omega)
          · rw [HU2.out]; exact HD.out _ _ (by omega) (by omega) (by omega)
          · rw [HU.out]; exact HD.out _ _ (by omega) (by omega) (by omega)
          · rw [HU2.out]; exact HD.out _ _ (by omega) (by omega) (by omega)
        · have q := HLT.out _ (show j * 2 < ps.length * 2 by omega) b (by rw [← HU.out]; exact e)
          exact ⟨q.1, q.2.1⟩
        · have q := HLT.out _ (show j * 2 + 1 < ps.length * 2 by omega) b (by rw [← HU2.out]; exact e)
          exact ⟨q.1, q.2.1⟩
      case measure => simp [intOf]; omega
    · obtain rfl : j = ps.length := by omega
      go_wp2_with fail
      go_ret
      exact ⟨n, rfl, hn0, hn1, hgr⟩

end Go.Proofs.Ytedbfmmklmidjaa
