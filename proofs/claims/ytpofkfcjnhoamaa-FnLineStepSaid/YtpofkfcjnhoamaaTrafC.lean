/-
  The program's lines: a copy, and the line that is made of one that came in. For at most 1048576 blocks and as many trains.
-/
import Derived.Test.YtpofkfcjnhoamaaTrafV
namespace Go.Proofs.Ytpofkfcjnhoamaa
open Go.RowKit Go.Sort

theorem stored_pair {w : World} {b : Nat} {x y x' y' : Value} {t : TypeId} (h : Pair w b x y t) : Pair ((w.setCell ⟨b, 0, none⟩ x').setCell ⟨b, 1, none⟩ y') b x' y' t := (h.set0 x').set1 y'
theorem clone_endL {w W wz : World} {uA uB : Value} {l : Ln} {B : Nat} (hB : w.heap.size ≤ B) (hB2 : B < W.heap.size) (q0 : Below w.heap.size w W) (d : Below W.heap.size W wz) (pr : Pair W B (.slice none 0 0) (.slice none 0 0) 67)
    (oA : OwnB wz W.heap.size uA l.1) (oB : OwnI wz W.heap.size uB l.2) (a1 : uA.ownBlock = none ∨ uA.ownBlock ≠ uB.ownBlock) (a2 : uB.ownBlock = none ∨ uB.ownBlock ≠ uA.ownBlock) :
    Pair ((wz.setCell ⟨B, 0, none⟩ uA).setCell ⟨B, 1, none⟩ uB) B uA uB 67 ∧ OwnLine ((wz.setCell ⟨B, 0, none⟩ uA).setCell ⟨B, 1, none⟩ uB) W.heap.size (.agg #[uA, uB]) l ∧ Below w.heap.size w ((wz.setCell ⟨B, 0, none⟩ uA).setCell ⟨B, 1, none⟩ uB) :=
  ⟨stored_pair (pr.below d), ⟨uA, uB, rfl, Ow.setBelow (Ow.setBelow oA (a := ⟨B, 0, none⟩) hB2 uA) (a := ⟨B, 1, none⟩) hB2 uB, (oB.setBelow (a := ⟨B, 0, none⟩) hB2 uA).setBelow (a := ⟨B, 1, none⟩) hB2 uB, a1, a2⟩, ((q0.trans (d.mono q0.size)).setCell (p := ⟨B, 0, none⟩) hB uA).setCell (p := ⟨B, 1, none⟩) hB uB⟩

set_option maxHeartbeats 4000000 in
theorem cloneT {w : World} {v : Value} {l : Ln} (h : LineV w v l) : Calls Try.prog 76 #[v] w (MadeLine w l) := by
  obtain ⟨u1, u2, rfl, h1, h2⟩ := h
  have p0 := Pair.new w u1 u2 67
  have q0 := below_alloc w (.cells #[u1, u2] 67)
  have s0 : (w.alloc (.cells #[u1, u2] 67)).heap.size = w.heap.size + 1 := Go.Deep.nblk_alloc _ _
  obtain ⟨Wa, hWa⟩ : ∃ X, X = w.alloc (.cells #[u1, u2] 67) := ⟨_, rfl⟩
  rw [← hWa] at p0 q0 s0
  have p1 := Pair.new Wa (.slice none 0 0) (.slice none 0 0) 67
  have q1 := below_alloc Wa (.cells #[.slice none 0 0, .slice none 0 0] 67)
  have s1 : (Wa.alloc (.cells #[.slice none 0 0, .slice none 0 0] 67)).heap.size = Wa.heap.size + 1 := Go.Deep.nblk_alloc _ _
  obtain ⟨W, hW⟩ : ∃ X, X = Wa.alloc (.cells #[.slice none 0 0, .slice none 0 0] 67) := ⟨_, rfl⟩
  rw [← hW] at p1 q1 s1
  rw [s0] at p1
  have HW := Lib.hid (hWa ▸ hW.symm)
  have Q := Lib.hid (chain q0 q1)
  have SZ := Lib.hid (show W.heap.size = w.heap.size + 2 by omega)
  have P1 := Lib.hid p1
  have EE := Lib.hid (p0.below q1)
  have CA := Lib.hid (fun (X : World) (c : Below W.heap.size W X) => cloneBlks (w := X) (v := u1) (xs := l.1) (Rd.below h1 ((chain q0 q1).trans (c.mono (chain q0 q1).size))))
  have CB := Lib.hid (fun (X : World) (c : Below W.heap.size W X) => cloneIntsL (w := X) (v := u2) (xs := l.2) (h2.below ((chain q0 q1).trans (c.mono (chain q0 q1).size))))
  have QQ := Lib.hid (fun (X : World) (c : Below W.heap.size W X) => And.intro ((p0.below q1).below c) (p1.below c))
  clear hW hWa p0 q0 s0 p1 q1 s1
  have HU1 := Lib.hid h1
  have HU2 := Lib.hid h2
  clear h1 h2
  go_enter Try.func76, Try.ntmps76
  go_upto_region 1 with fail
  rw [HW.out]
  go_cut [] (fun wx => ∃ a1 n1 c1 a2 n2 c2, Pair wx (w.heap.size + 1) (.slice a1 n1 c1) (.slice a2 n2 c2) 67 ∧ OwnLine wx W.heap.size (.agg #[.slice a1 n1 c1, .slice a2 n2 c2]) l ∧ Below w.heap.size w wx)
  case first =>
    have e1 := EE.out.cell0
    have e2 := EE.out.cell1
    have d0 : Below W.heap.size W W.drew := (Below.refl _ _).drew
    have f0 := P1.out.cell0
    have f1 := P1.out.cell1
    have f2 := P1.out.frozen 0
    have f3 := P1.out.frozen 1
    go_region_with (first
      | (go_at_call 91; refine (CA.out _ (by first | exact dB | exact d0)).mono ?_; rintro e wA ⟨vA, rfl, oA, bA⟩; have dA : Below W.heap.size W wA := (by first | exact dB.trans (bA.mono dB.size) | exact d0.trans (bA.mono d0.size)); obtain ⟨aA, cA, rfl⟩ := Ow.slice oA; have mA := QQ.out _ dA; have mA1 := mA.1.cell0; have mA2 := mA.1.cell1; have mA3 := mA.2.cell0; have mA4 := mA.2.cell1; have mA5 := mA.2.frozen 0; have mA6 := mA.2.frozen 1; clear mA)
      | (go_at_call 92; refine (CB.out _ (by first | exact dA | exact d0)).mono ?_; rintro e wB ⟨vB, rfl, oB, bB⟩; have dB : Below W.heap.size W wB := (by first | exact dA.trans (bB.mono dA.size) | exact d0.trans (bB.mono d0.size)); obtain ⟨aB, nB, cB, rfl⟩ := own_is_slice oB; have mB := QQ.out _ dB; have mB1 := mB.1.cell0; have mB2 := mB.1.cell1; have mB3 := mB.2.cell0; have mB4 := mB.2.cell1; have mB5 := mB.2.frozen 0; have mB6 := mB.2.frozen 1; clear mB))
    all_goals (go_wp2_with fail; go_meet; first
      | exact ⟨_, _, _, _, _, _, clone_endL (by omega) (by rw [SZ.out]; omega) Q.out dB P1.out (Ow.mono (Ow.below oA bB) (Nat.le_refl _)) (oB.mono dA.size) (apartO (lo := 0) (Ow.under oA) (Nat.le_refl _) oB.under rfl).1 (apartO (lo := 0) (Ow.under oA) (Nat.le_refl _) oB.under rfl).2⟩
      | exact ⟨_, _, _, _, _, _, clone_endL (by omega) (by rw [SZ.out]; omega) Q.out dA P1.out (Ow.mono oA dB.size) ((oB.below bA).mono (Nat.le_refl _)) (apartO (lo := 0) oB.under (Nat.le_refl _) (Ow.under oA) rfl).2 (apartO (lo := 0) oB.under (Nat.le_refl _) (Ow.under oA) rfl).1⟩)
  case rest =>
  obtain ⟨a1, n1, c1, a2, n2, c2, pz, oz, bz⟩ := hcut
  have k6 := pz.cell0
  have k7 := pz.cell1
  have OZ := Lib.hid (oz.mono (base' := w.heap.size) (by rw [SZ.out]; omega))
  have BZ := Lib.hid bz
  clear pz oz bz
  go_wp2_with fail
  exact bodyPost_ret (v := .agg #[.slice a1 n1 c1, .slice a2 n2 c2]) (by simp [results, Try.results76, go_sem, k6, k7]) rfl ⟨_, rfl, OZ.out, BZ.out⟩

end Go.Proofs.Ytpofkfcjnhoamaa
