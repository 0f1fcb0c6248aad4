/-
  The program's lines: a copy, and the line that is made of one that came in. For at most 1048576 blocks and as many trains.
-/
import Derived.Test.YtpofkfcjnhoamaaTrafV
namespace Go.Proofs.Ytpofkfcjnhoamaa
open Go.RowKit Go.Sort

theorem stored_pair {w : World} {b : Nat} {x y x' y' : Value} {t : TypeId} (h : Pair w b x y t) : Pair ((w.setCell ⟨b, 0, none⟩ x').setCell ⟨b, 1, none⟩ y') b x' y' t := (h.set0 x').set1 y'
theorem clone_endL {w W wz : World} {uA uB : Value} {l : Ln} {B : Nat} (hB : w.heap.size ≤ B) (hB2 : B < W.heap.size) (q0 : Below w.heap.size w W) (d : Below W.heap.size W wz) (pr : Pair W B (.slice none 0 0) (.slice none 0 0) 67)
    (oA : OwnB wz W.heap.size uA l.1) (oB : OwnI wz W.heap.size uB l.2) (a1 : uA.ownBlock = none ∨ uA.ownBlock ≠ uB.ownBlock) (a2 : uB.ownBlock = none ∨ uB.ownBlock ≠ uA.ownBlock) :
    Pair ((wz.setCell ⟨B, 0, none⟩ uA).setCell ⟨B, 1, none⟩ uB) B uA uB 67 ∧ OwnLine ((wz.setCell ⟨B, 0, none⟩ uA).setCell ⟨B, 1, none⟩ uB) W.heap.size (.agg #[uA, uB]) l ∧ Below w.heap.size w ((wz.setCell ⟨B, 0, none⟩ uA).setCell ⟨B, 1, none⟩ uB) :=
  ⟨stored_pair (pr.below d), ⟨uA, uB, rfl, Ow.setBelow (Ow.setBelow oA (a := ⟨B, 0, none⟩) hB2 uA) (a := ⟨B, 1, none⟩) hB2 uB, (oB.setBelow (a := ⟨B, 0, none⟩) hB2 uA).setBelow (a := ⟨B, 1, none⟩) hB2 uB, a1, a2⟩, ((q0.trans (d.mono q0.size)).setCell (p := ⟨B, 0, none⟩) hB uA).setCell (p := ⟨B, 1, none⟩) hB uB⟩

set_option maxHeartbeats 4000000 in
theorem cloneT {w : World} {v : Value} {l : Ln} (h : LineV w v l) : Calls Try.prog 76 #[v] w (MadeLine w l) := by
  obtain ⟨u1, u2, rfl, h1, h2⟩ := h
  have p0 := Pair.new w u1 u2 67
  have q0 := below_alloc w (.cells #[u1, u2] 67)
  have s0 : (w.alloc (.cells #[u1, u2] 67)).heap.size = w.heap.size + 1 := Go.Deep.nblk_alloc _ _
  obtain ⟨Wa, hWa⟩ : ∃ X, X = w.alloc (.cells #[u1, u2] 67) := ⟨_, rfl⟩
  rw [← hWa] at p0 q0 s0
  have p1 := Pair.new Wa (.slice none 0 0) (.slice none 0 0) 67
  have q1 := below_alloc Wa (.cells #[.slice none 0 0, .slice none 0 0] 67)
  have s1 : (Wa.alloc (.cells #[.slice none 0 0, .slice none 0 0] 67)).heap.size = Wa.heap.size + 1 := Go.Deep.nblk_alloc _ _
  obtain ⟨W, hW⟩ : ∃ X, X = Wa.alloc (.cells #[.slice none 0 0, .slice none 0 0] 67) := ⟨_, rfl⟩
  rw [← hW] at p1 q1 s1
  rw [s0] at p1
  have HW := Lib.hid (hWa ▸ hW.symm)
  have Q := Lib.hid (chain q0 q1)
  have SZ := Lib.hid (show W.heap.size = w.heap.size + 2 by omega)
  have P1 := Lib.hid p1
  have EE := Lib.hid (p0.below q1)
  have CA := Lib.hid (fun (X : World) (c : Below W.heap.size W X) => cloneBlks (w := X) (v := u1) (xs := l.1) (Rd.below h1 ((chain q0 q1).trans (c.mono (chain q0 q1).size))))
  have CB := Lib.hid (fun (X : World) (c : Below W.heap.size W X) => cloneIntsL (w := X) (v := u2) (xs := l.2) (h2.below ((chain q0 q1).trans (c.mono (chain q0 q1).size))))
  have QQ := Lib.hid (fun (X : World) (c : Below W.heap.size W X) => And.intro ((p0.below q1).below c) (p1.below c))
  clear hW hWa p0 q0 s0 p1 q1 s1
  have HU1 := Lib.hid h1
  have HU2 := Lib.hid h2
  clear h1 h2
  go_enter Try.func76, Try.ntmps76
  go_upto_region 1 with fail
  rw [HW.out]
  go_cut [] (fun wx => ∃ a1 n1 c1 a2 n2 c2, Pair wx (w.heap.size + 1) (.slice a1 n1 c1) (.slice a2 n2 c2) 67 ∧ OwnLine wx W.heap.size (.agg #[.slice a1 n1 c1, .slice a2 n2 c2]) l ∧ Below w.heap.size w wx)
  case first =>
    have e1 := EE.out.cell0
    have e2 := EE.out.cell1
    have d0 : Below W.heap.size W W.drew := (Below.refl _ _).drew
    have f0 := P1.out.cell0
    have f1 := P1.out.cell1
    have f2 := P1.out.frozen 0
    have f3 := P1.out.frozen 1
    go_region_with (first
      | (go_at_call 91; refine (CA.out _ (by first | exact dB | exact d0)).mono ?_; rintro e wA ⟨vA, rfl, oA, bA⟩; have dA : Below W.heap.size W wA := (by first | exact dB.trans (bA.mono dB.size) | exact d0.trans (bA.mono d0.size)); obtain ⟨aA, cA, rfl⟩ := Ow.slice oA; have mA := QQ.out _ dA; have mA1 := mA.1.cell0; have mA2 := mA.1.cell1; have mA3 := mA.2.cell0; have mA4 := mA.2.cell1; have mA5 := mA.2.frozen 0; have mA6 := mA.2.frozen 1; clear mA)
      | (go_at_call 92; refine (CB.out _ (by first | exact dA | exact d0)).mono ?_; rintro e wB ⟨vB, rfl, oB, bB⟩; have dB : Below W.heap.size W wB := (by first | exact dA.trans (bB.mono dA.size) | exact d0.trans (bB.mono d0.size)); obtain ⟨aB, nB, cB, rfl⟩ := own_is_slice oB; have mB := QQ.out _ dB; have mB1 := mB.1.cell0; have mB2 := mB.1.cell1; have mB3 := mB.2.cell0; have mB4 := mB.2.cell1; have mB5 := mB.2.frozen 0; have mB6 := mB.2.frozen 1; clear mB))
    all_goals (go_wp2_with fail; go_meet; first
      | exact ⟨_, _, _, _, _, _, clone_endL (by omega) (by rw [SZ.out]; omega) Q.out dB P1.out (Ow.mono (Ow.below oA bB) (Nat.le_refl _)) (oB.mono dA.size) (apartO (lo := 0) (Ow.under oA) (Nat.le_refl _) oB.under rfl).1 (apartO (lo := 0) (Ow.under oA) (Nat.le_refl _) oB.under rfl).2⟩
      | exact ⟨_, _, _, _, _, _, clone_endL (by omega) (by rw [SZ.out]; omega) Q.out dA P1.out (Ow.mono oA dB.size) ((oB.below bA).mono (Nat.le_refl _)) (apartO (lo := 0) oB.under (Nat.le_refl _) (Ow.under oA) rfl).2 (apartO (lo := 0) oB.under (Nat.le_refl _) (Ow.under oA) rfl).1⟩)
  case rest =>
  obtain ⟨a1, n1, c1, a2, n2, c2, pz, oz, bz⟩ := hcut
  have k6 := pz.cell0
  have k7 := pz.cell1
  have OZ := Lib.hid (oz.mono (base' := w.heap.size) (by rw [SZ.out]; omega))
  have BZ := Lib.hid bz
  clear pz oz bz
  go_wp2_with fail
  exact bodyPost_ret (v := .agg #[.slice a1 n1 c1, .slice a2 n2 c2]) (by simp [results, Try.results76, go_sem, k6, k7]) rfl ⟨_, rfl, OZ.out, BZ.out⟩

end Go.Proofs.Ytpofkfcjnhoamaa

/-
  The program's lines: the line that is made of one that came in. For at most 1048576 blocks and as many trains.
-/
namespace Go.Proofs.Ytpofkfcjnhoamaa
open Go.RowKit Go.Sort

theorem three_pairs (w : World) (x y x' y' x'' y'' : Value) (t t' t'' : TypeId) (W : World) (hW : W = ((w.alloc (.cells #[x, y] t)).alloc (.cells #[x', y'] t')).alloc (.cells #[x'', y''] t'')) :
    Pair W w.heap.size x y t ∧ Pair W (w.heap.size + 1) x' y' t' ∧ Pair W (w.heap.size + 1 + 1) x'' y'' t'' ∧ Below w.heap.size w W ∧ W.heap.size = w.heap.size + 3 := by
  have s1 : (w.alloc (.cells #[x, y] t)).heap.size = w.heap.size + 1 := Go.Deep.nblk_alloc _ _
  have s2 : ((w.alloc (.cells #[x, y] t)).alloc (.cells #[x', y'] t')).heap.size = w.heap.size + 2 := by rw [Go.Deep.nblk_alloc, s1]
  have s3 : W.heap.size = w.heap.size + 3 := by rw [hW, Go.Deep.nblk_alloc, s2]
  have p0 := Pair.new w x y t
  have p1 := Pair.new (w.alloc (.cells #[x, y] t)) x' y' t'
  have p2 := Pair.new ((w.alloc (.cells #[x, y] t)).alloc (.cells #[x', y'] t')) x'' y'' t''
  rw [s1] at p1
  rw [s2] at p2
  subst hW
  exact ⟨(p0.alloc _).alloc _, p1.alloc _, p2, ((below_alloc w _).alloc (by omega) _).alloc (by omega) _, s3⟩

theorem own_none (w : World) : OwnLine w w.heap.size (.agg #[.slice none 0 0, .slice none 0 0]) noLn :=
  ⟨_, _, rfl, ow_nil _ _ _ _ _, own_nil _, .inl rfl, .inl rfl⟩

set_option maxHeartbeats 4000000 in
theorem trafficOf {w : World} {v : Value} {l : Ln} (h : LineV w v l) : Calls Try.prog 40 #[v] w (MadeLineB w (if lnB l then l else noLn) (lnB l)) := by
  obtain ⟨u1, u2, rfl, h1, h2⟩ := h
  obtain ⟨a1, c1, rfl⟩ := Rd.slice h1
  obtain ⟨a2, c2, rfl, r2⟩ := h2
  have h2 : Ints w (.slice a2 l.2.length c2) l.2 := ⟨a2, c2, rfl, r2⟩
  obtain ⟨W, hW⟩ : ∃ X, X = ((w.alloc (.cells #[.slice a1 l.1.length c1, .slice a2 l.2.length c2] 26)).alloc (.cells #[.slice none 0 0, .slice none 0 0] 67)).alloc (.cells #[.slice a1 l.1.length c1, .slice a2 l.2.length c2] 67) := ⟨_, rfl⟩
  obtain ⟨p0, p1, p2, hE, hs⟩ := three_pairs w _ _ _ _ _ _ _ _ _ W hW
  have HW := Lib.hid hW.symm
  have E := Lib.hid hE
  have P0 := Lib.hid p0
  have P1 := Lib.hid p1
  have P2 := Lib.hid p2
  have S := Lib.hid hs
  have k1 : (l.1.length : Int) ≤ 1048576 := by have := Rd.len h1; omega
  have k2 : (l.2.length : Int) ≤ 1048576 := by have := h2.len; omega
  have e0 := p0.cell0
  have e1 := p0.cell1
  have EQ := Lib.hid (lnB_eq l)
  have SV := Lib.hid (sectionsValidL (l.1.length : Int))
  obtain ⟨t1, ht1⟩ : ∃ t, t = decide (1 ≤ (l.1.length : Int) ∧ (l.1.length : Int) ≤ 5) := ⟨_, rfl⟩
  obtain ⟨t2, ht2⟩ : ∃ t, t = decide ((l.2.length : Int) ≤ 5) := ⟨_, rfl⟩
  obtain ⟨t3, ht3⟩ : ∃ t, t = decide (∀ k, k < l.1.length → bkPos (l.1.getD k nb) = true) := ⟨_, rfl⟩
  obtain ⟨t4, ht4⟩ : ∃ t, t = placedB l.1 l.2 := ⟨_, rfl⟩
  have AP := Lib.hid (fun (X : World) (c : Below W.heap.size W X) => arePos (w := X) (Rd.below h1 (hE.trans (c.mono hE.size))))
  have AL := Lib.hid (fun (X : World) (c : Below W.heap.size W X) => arePlaced (w := X) (Rd.below h1 (hE.trans (c.mono hE.size))) (h2.below (hE.trans (c.mono hE.size))))
  have CL := Lib.hid (fun (X : World) (c : Below W.heap.size W X) => cloneT (w := X) (v := .agg #[.slice a1 l.1.length c1, .slice a2 l.2.length c2]) (l := l) ⟨_, _, rfl, Rd.below h1 (hE.trans (c.mono hE.size)), h2.below (hE.trans (c.mono hE.size))⟩)
  rw [← ht1, ← ht2, ← ht3, ← ht4] at EQ
  rw [← ht1] at SV
  rw [← ht3] at AP
  rw [← ht4] at AL
  have HT1 := Lib.hid ht1
  have HT2 := Lib.hid ht2
  clear ht1
  have BW : Below W.heap.size W W := Below.refl _ _
  have e2 := p2.cell0
  have e3 := p2.cell1
  clear ht2 ht3 ht4 h1 h2 r2 p0 p1 p2 hE hs hW
  cases t1
  · have EF := Lib.hid (show lnB l = false by rw [EQ.out]; rfl)
    rw [EF.out]
    go_enter Try.func40, Try.ntmps40
    go_upto_region 2 with fail
    rw [HW.out]
    have c0 := P1.out.cell0
    have c1 := P1.out.cell1
    have f0 := P1.out.frozen 0
    have f1 := P1.out.frozen 1
    have d0 := (stored_pair (x' := .slice none 0 0) (y' := .slice none 0 0) P1.out).cell0
    have d1 := (stored_pair (x' := .slice none 0 0) (y' := .slice none 0 0) P1.out).cell1
    go_wp2_with (go_at_call 73; refine (SV.out _).mono ?_; rintro e w1 ⟨rfl, rfl⟩)
    have c0 := (P1.out.below BW).cell0
    have c1 := (P1.out.below BW).cell1
    have f0 := (P1.out.below BW).frozen 0
    have f1 := (P1.out.below BW).frozen 1
    have d0 := (stored_pair (x' := .slice none 0 0) (y' := .slice none 0 0) (P1.out.below BW)).cell0
    have d1 := (stored_pair (x' := .slice none 0 0) (y' := .slice none 0 0) (P1.out.below BW)).cell1
    have BB := Lib.hid ((((E.out.trans (Below.mono BW E.out.size)).setCell (p := ⟨w.heap.size + 1, 0, none⟩) (by simp only; omega) (.slice none 0 0)).setCell (p := ⟨w.heap.size + 1, 1, none⟩) (by simp only; omega) (.slice none 0 0)))
    go_wp2_with fail
    exact bodyPost_ret (v := .tuple #[.agg #[.slice none 0 0, .slice none 0 0], .bool false]) (by simp [results, Try.results40, go_sem, d0, d1]) rfl ⟨_, rfl, ⟨_, _, rfl, ow_nil _ _ _ _ _, World.ownsRow_nil _ _ _ _, .inl rfl, .inl rfl⟩, BB.out⟩
  cases t2
  · have EF := Lib.hid (show lnB l = false by rw [EQ.out]; rfl)
    rw [EF.out]
    have g : (5 : Int) < (l.2.length : Int) := by have := of_decide_eq_false HT2.out.symm; omega
    go_enter Try.func40, Try.ntmps40
    go_upto_region 2 with fail
    rw [HW.out]
    have c0 := P1.out.cell0
    have c1 := P1.out.cell1
    have f0 := P1.out.frozen 0
    have f1 := P1.out.frozen 1
    go_wp2_with (go_at_call 73; refine (SV.out _).mono ?_; rintro e w1 ⟨rfl, rfl⟩)
    have c0 := (P1.out.below BW).cell0
    have c1 := (P1.out.below BW).cell1
    have f0 := (P1.out.below BW).frozen 0
    have f1 := (P1.out.below BW).frozen 1
    have d0 := (stored_pair (x' := .slice none 0 0) (y' := .slice none 0 0) (P1.out.below BW)).cell0
    have d1 := (stored_pair (x' := .slice none 0 0) (y' := .slice none 0 0) (P1.out.below BW)).cell1
    have BB := Lib.hid ((((E.out.trans (Below.mono BW E.out.size)).setCell (p := ⟨w.heap.size + 1, 0, none⟩) (by simp only; omega) (.slice none 0 0)).setCell (p := ⟨w.heap.size + 1, 1, none⟩) (by simp only; omega) (.slice none 0 0)))
    go_wp2_with fail
    exact bodyPost_ret (v := .tuple #[.agg #[.slice none 0 0, .slice none 0 0], .bool false]) (by simp [results, Try.results40, go_sem, d0, d1]) rfl ⟨_, rfl, ⟨_, _, rfl, ow_nil _ _ _ _ _, World.ownsRow_nil _ _ _ _, .inl rfl, .inl rfl⟩, BB.out⟩
  have g : (l.2.length : Int) ≤ 5 := of_decide_eq_true HT2.out.symm
  cases t3
  · have EF := Lib.hid (show lnB l = false by rw [EQ.out]; rfl)
    rw [EF.out]
    go_enter Try.func40, Try.ntmps40
    go_upto_region 2 with fail
    rw [HW.out]
    go_wp2_with (first
      | (go_at_call 73; refine (SV.out _).mono ?_; rintro e w1 ⟨rfl, rfl⟩)
      | (go_at_call 74; refine (AP.out _ BW).mono ?_; rintro e w2 ⟨rfl, b2⟩; have c0 := (P1.out.below b2).cell0; have c1 := (P1.out.below b2).cell1; have f0 := (P1.out.below b2).frozen 0; have f1 := (P1.out.below b2).frozen 1))
    have d0 := (stored_pair (x' := .slice none 0 0) (y' := .slice none 0 0) (P1.out.below b2)).cell0
    have d1 := (stored_pair (x' := .slice none 0 0) (y' := .slice none 0 0) (P1.out.below b2)).cell1
    have BB := Lib.hid ((((E.out.trans (Below.mono b2 E.out.size)).setCell (p := ⟨w.heap.size + 1, 0, none⟩) (by simp only; omega) (.slice none 0 0)).setCell (p := ⟨w.heap.size + 1, 1, none⟩) (by simp only; omega) (.slice none 0 0)))
    exact bodyPost_ret (v := .tuple #[.agg #[.slice none 0 0, .slice none 0 0], .bool false]) (by simp [results, Try.results40, go_sem, d0, d1]) rfl ⟨_, rfl, ⟨_, _, rfl, ow_nil _ _ _ _ _, World.ownsRow_nil _ _ _ _, .inl rfl, .inl rfl⟩, BB.out⟩
  cases t4
  · have EF := Lib.hid (show lnB l = false by rw [EQ.out]; rfl)
    rw [EF.out]
    go_enter Try.func40, Try.ntmps40
    go_upto_region 2 with fail
    rw [HW.out]
    go_wp2_with (first
      | (go_at_call 73; refine (SV.out _).mono ?_; rintro e w1 ⟨rfl, rfl⟩)
      | (go_at_call 74; refine (AP.out _ BW).mono ?_; rintro e w2 ⟨rfl, b2⟩; have g0 := (P2.out.below b2).cell0; have g1 := (P2.out.below b2).cell1)
      | (go_at_call 75; refine (AL.out _ b2).mono ?_; rintro e w3 ⟨rfl, b3'⟩; have b3 := b2.trans (b3'.mono b2.size); have c0 := (P1.out.below b3).cell0; have c1 := (P1.out.below b3).cell1; have f0 := (P1.out.below b3).frozen 0; have f1 := (P1.out.below b3).frozen 1))
    have d0 := (stored_pair (x' := .slice none 0 0) (y' := .slice none 0 0) (P1.out.below b3)).cell0
    have d1 := (stored_pair (x' := .slice none 0 0) (y' := .slice none 0 0) (P1.out.below b3)).cell1
    have BB := Lib.hid ((((E.out.trans (Below.mono b3 E.out.size)).setCell (p := ⟨w.heap.size + 1, 0, none⟩) (by simp only; omega) (.slice none 0 0)).setCell (p := ⟨w.heap.size + 1, 1, none⟩) (by simp only; omega) (.slice none 0 0)))
    exact bodyPost_ret (v := .tuple #[.agg #[.slice none 0 0, .slice none 0 0], .bool false]) (by simp [results, Try.results40, go_sem, d0, d1]) rfl ⟨_, rfl, ⟨_, _, rfl, ow_nil _ _ _ _ _, World.ownsRow_nil _ _ _ _, .inl rfl, .inl rfl⟩, BB.out⟩
  have EF := Lib.hid (show lnB l = true by rw [EQ.out]; rfl)
  rw [EF.out]
  go_enter Try.func40, Try.ntmps40
  go_upto_region 2 with fail
  rw [HW.out]
  go_wp2_with (first
    | (go_at_call 73; refine (SV.out _).mono ?_; rintro e w1 ⟨rfl, rfl⟩)
    | (go_at_call 74; refine (AP.out _ BW).mono ?_; rintro e w2 ⟨rfl, b2⟩; have g0 := (P2.out.below b2).cell0; have g1 := (P2.out.below b2).cell1)
    | (go_at_call 75; refine (AL.out _ b2).mono ?_; rintro e w3 ⟨rfl, b3'⟩; have b3 := b2.trans (b3'.mono b2.size); have g2 := (P2.out.below b3).cell0; have g3 := (P2.out.below b3).cell1))
  refine (CL.out _ b3).mono ?_
  rintro e w4 ⟨v4, rfl, o4, b4'⟩
  have b4 := b3.trans (b4'.mono b3.size)
  obtain ⟨x1, x2, rfl, oB, oI, ap⟩ := o4
  obtain ⟨ya, yc, rfl⟩ := Ow.slice oB
  obtain ⟨za, zn, zc, rfl⟩ := own_is_slice oI
  have c0 := (P1.out.below b4).cell0
  have c1 := (P1.out.below b4).cell1
  have f0 := (P1.out.below b4).frozen 0
  have f1 := (P1.out.below b4).frozen 1
  have d0 := (stored_pair (x' := .slice ya l.1.length yc) (y' := .slice za zn zc) (P1.out.below b4)).cell0
  have d1 := (stored_pair (x' := .slice ya l.1.length yc) (y' := .slice za zn zc) (P1.out.below b4)).cell1
  have BB := Lib.hid ((((E.out.trans (b4.mono E.out.size)).setCell (p := ⟨w.heap.size + 1, 0, none⟩) (by simp only; omega) (.slice ya l.1.length yc)).setCell (p := ⟨w.heap.size + 1, 1, none⟩) (by simp only; omega) (.slice za zn zc)))
  have hlo : w.heap.size + 1 < w3.heap.size := by have := b3.size; have := S.out; omega
  have OO := Lib.hid (show OwnLine ((w4.setCell ⟨w.heap.size + 1, 0, none⟩ (.slice ya l.1.length yc)).setCell ⟨w.heap.size + 1, 1, none⟩ (.slice za zn zc)) w.heap.size (.agg #[.slice ya l.1.length yc, .slice za zn zc]) l from
    ⟨_, _, rfl, Ow.mono (Ow.setBelow (Ow.setBelow oB (a := ⟨w.heap.size + 1, 0, none⟩) hlo _) (a := ⟨w.heap.size + 1, 1, none⟩) hlo _) (by omega), ((oI.setBelow (a := ⟨w.heap.size + 1, 0, none⟩) hlo _).setBelow (a := ⟨w.heap.size + 1, 1, none⟩) hlo _).mono (by omega), ap⟩)
  clear oB oI ap b4' b4 b3' b2 b3 g0 g1 g2 g3
  go_wp2_with fail
  exact bodyPost_ret (v := .tuple #[.agg #[.slice ya l.1.length yc, .slice za zn zc], .bool true]) (by simp [results, Try.results40, go_sem, d0, d1]) rfl ⟨_, rfl, OO.out, BB.out⟩

end Go.Proofs.Ytpofkfcjnhoamaa

/-
  The program's lines: are they done, how many moves are left, the first train at a place, is there a section. For at most 1048576 blocks and as many trains.
-/
namespace Go.Proofs.Ytpofkfcjnhoamaa
open Go.RowKit Go.Sort

theorem cntP_all {ts : List Int} {p : Int} {j : Nat} (h : ∀ i, i < j → ts.getD i 0 = p) : cntP ts p j = j := by
  induction j with
  | zero => rfl
  | succ j ih => rw [cntP_yes (h j (by omega)), ih fun i hi => h i (by omega)]; omega
theorem cntP_full {ts : List Int} {p : Int} {j : Nat} (h : cntP ts p j = j) : ∀ i, i < j → ts.getD i 0 = p := by
  induction j with
  | zero => intro i hi; omega
  | succ j ih =>
    intro i hi
    have hr := cntP_range ts p j
    by_cases e : ts.getD j 0 = p
    · rw [cntP_yes e] at h
      by_cases q : i = j
      · subst q; exact e
      · exact ih (by omega) i (by omega)
    · rw [cntP_no e] at h; omega
theorem doneB_eq (l : Ln) : doneB l = (decide (∀ k, k < l.1.length → l.1.getD k nb = nb) && decide (cntAt l.2 (2 * (l.1.length : Int)) = (l.2.length : Int))) := by
  cases e : doneB l
  · have h := doneB_not e
    symm
    rw [Bool.eq_false_iff]
    intro q
    simp only [Bool.and_eq_true, decide_eq_true_eq] at q
    exact h ⟨q.1, cntP_full q.2⟩
  · have h := doneB_is e
    symm
    simp only [Bool.and_eq_true, decide_eq_true_eq]
    exact ⟨h.1, cntP_all h.2⟩

set_option maxHeartbeats 1000000 in
theorem eventsLeft (x : Blk) (t : Int) (h0 : 0 ≤ t) (h1 : t ≤ 1048576) (w : World) : Calls Try.prog 80 #[.agg #[.int .i64 x.1, .bool x.2.1, .bool x.2.2], .int .i64 t] w fun e w' => e = .returned (.int .i64 (evLeft x t)) ∧ Below w.heap.size w w' := by
  have q := below_alloc w (.cells #[.int .i64 x.1, .bool x.2.1, .bool x.2.2] 33)
  have t0 := Tri3.new w (.int .i64 x.1) (.bool x.2.1) (.bool x.2.2) 33
  have c0 := t0.cell0
  have c1 := t0.cell1
  have c2 := t0.cell2
  obtain ⟨W, hW⟩ : ∃ X, X = w.alloc (.cells #[.int .i64 x.1, .bool x.2.1, .bool x.2.2] 33) := ⟨_, rfl⟩
  rw [← hW] at q c0 c1 c2
  have HW := Lib.hid hW.symm
  have EQ0 := eqBlk x nb
  have EE := Lib.hid (show ∀ n, n = evLeft x t → Ending.returned (.int .i64 n) = .returned (.int .i64 (evLeft x t)) from fun n e => by rw [e])
  obtain ⟨y0, y1, y2⟩ := x
  simp only at c0 c1 c2 EQ0 HW ⊢
  clear hW t0
  cases y1
  · by_cases g : y0 = 2
    · have EV := Lib.hid (show 5 * t + 1 = evLeft (y0, false, y2) t by unfold evLeft; rw [if_neg (by simp), if_pos g])
      subst g
      go_enter Try.func80, Try.ntmps80
      go_upto_region 1 with fail
      rw [HW.out]
      go_wp2_with fail
      go_ret
      exact ⟨EE.out _ (by rw [← EV.out]; omega), q⟩
    · obtain ⟨p, hp⟩ : ∃ p, p = decide (((y0, false, y2) : Blk) = nb) := ⟨_, rfl⟩
      have EQ2 : ∀ w : World, (binOp .eql 33 (.agg #[.int .i64 y0, .bool false, .bool y2]) (.agg #[.int .i64 0, .bool false, .bool false])).run Try.prog w = .ok (.bool p) w := fun w => by rw [hp]; exact EQ0 w
      have G := Lib.hid g
      have P := Lib.hid hp
      clear EQ0 hp
      cases p
      · have PN := Lib.hid (of_decide_eq_false P.out.symm)
        by_cases z : t = 0
        · have EV := Lib.hid (show 1 = evLeft (y0, false, y2) t by unfold evLeft; rw [if_neg (by simp), if_neg G.out, if_neg PN.out, if_pos z])
          subst z
          go_enter Try.func80, Try.ntmps80
          go_upto_region 1 with fail
          rw [HW.out]
          go_wp2_with fail
          go_ret
          exact ⟨EE.out _ EV.out, q⟩
        · cases y2
          · have EV := Lib.hid (show 5 * t - 2 = evLeft (y0, false, false) t by unfold evLeft; rw [if_neg (by simp), if_neg G.out, if_neg PN.out, if_neg z, if_neg (by simp)])
            go_enter Try.func80, Try.ntmps80
            go_upto_region 1 with fail
            rw [HW.out]
            go_wp2_with fail
            go_ret
            exact ⟨EE.out _ (by rw [← EV.out]; omega), q⟩
          · have EV := Lib.hid (show 5 * t - 1 = evLeft (y0, false, true) t by unfold evLeft; rw [if_neg (by simp), if_neg G.out, if_neg PN.out, if_neg z, if_pos rfl])
            go_enter Try.func80, Try.ntmps80
            go_upto_region 1 with fail
            rw [HW.out]
            go_wp2_with fail
            go_ret
            exact ⟨EE.out _ (by rw [← EV.out]; omega), q⟩
      · have EV := Lib.hid (show 5 * t = evLeft (y0, false, y2) t by unfold evLeft; rw [if_neg (by simp), if_neg G.out, if_pos (of_decide_eq_true P.out.symm)])
        go_enter Try.func80, Try.ntmps80
        go_upto_region 1 with fail
        rw [HW.out]
        go_wp2_with fail
        go_ret
        exact ⟨EE.out _ (by rw [← EV.out]; omega), q⟩
  · have EV := Lib.hid (show 5 * t + 2 = evLeft (y0, true, y2) t by unfold evLeft; rw [if_pos rfl])
    go_enter Try.func80, Try.ntmps80
    go_upto_region 1 with fail
    rw [HW.out]
    go_wp2_with fail
    go_ret
    exact ⟨EE.out _ (by rw [← EV.out]; omega), q⟩

set_option maxHeartbeats 1000000 in
theorem indexI {w : World} {v : Value} {ts : List Int} (p : Int) (h : Ints w v ts) :
    Calls Try.prog 46 #[v, .int .i64 p] w fun e w' => e = .returned (.int .i64 (fstI ts p)) ∧ w = w' := by
  obtain ⟨a, cap, rfl, hl, hc⟩ := h
  have hl' : (ts.length : Int) ≤ 1048576 := by omega
  have HC := Lib.hid hc
  clear hl hc
  go_enter Try.func46, Try.ntmps46
  go_wp2_with fail
  go_loop [8] (fun i => ∃ k : Nat, k ≤ ts.length ∧ i = .int .i64 k ∧ Hid (∀ j, j < k → ts.getD j 0 ≠ p)) (fun i => ts.length - (intOf i).toNat)
  case atStart => exact ⟨0, by omega, rfl, Lib.hid (fun j hj => by omega)⟩
  case round =>
    obtain ⟨k, hk, rfl, NO⟩ := hrel
    by_cases hlt : k < ts.length
    · obtain ⟨b, o, rfl, hb, hcell⟩ : ∃ b o, a = some ⟨b, o, none⟩ ∧ b < w.heap.size ∧ ∀ i, i < ts.length → w.cell? ⟨b, o + i, none⟩ = some (.int .i64 (ts.getD i 0)) := by
        rcases HC.out with rfl | h
        · simp at hlt
        · exact h
      have c0 := hcell k hlt
      have hki : (k : Int) < (ts.length : Int) := by omega
      obtain ⟨x, hx⟩ : ∃ x, x = ts.getD k 0 := ⟨_, rfl⟩
      rw [← hx] at c0
      have X := Lib.hid hx
      clear hx hcell
      by_cases e : p = x
      · have E := Lib.hid (show fstI ts p = k by unfold fstI; rw [fst_some hlt (by rw [← X.out]; exact e.symm) NO.out])
        clear NO
        subst e
        go_wp2_with fail
        go_ret
        exact ⟨ret_int E.out.symm, rfl⟩
      · have E := Lib.hid (show ∀ j, j < k + 1 → ts.getD j 0 ≠ p from fun j hj => by
          by_cases q : j = k
          · subst q; rw [← X.out]; exact fun z => e z.symm
          · exact NO.out j (by omega))
        go_wp2_with fail
        go_round
        case rel => exact ⟨k + 1, by omega, by go_num, E⟩
        case measure => simp [intOf]; omega
    · obtain rfl : k = ts.length := by omega
      have E := Lib.hid (show fstI ts p = -1 by unfold fstI; rw [fst_none NO.out])
      go_wp2_with fail
      go_ret
      exact ⟨ret_int E.out.symm, rfl⟩

set_option maxHeartbeats 400000 in
theorem hasL {a : Option Addr} {n c : Nat} (k : Int) (w : World) : Calls Try.prog 45 #[.slice a n c, .int .i64 k] w fun e w' => e = .returned (.bool (decide (0 ≤ k ∧ k < (n : Int)))) ∧ w = w' := by
  by_cases h1 : 0 ≤ k
  · by_cases h2 : k < (n : Int)
    · rw [decide_eq_true (And.intro h1 h2)]
      go_enter Try.func45, Try.ntmps45
      go_wp2_with fail
      go_ret
      exact ⟨rfl, rfl⟩
    · rw [decide_eq_false (show ¬ (0 ≤ k ∧ k < (n : Int)) by omega)]
      have h3 : decide (k < (n : Int)) = false := by simpa using h2
      clear h2
      go_enter Try.func45, Try.ntmps45
      go_wp2_with fail
      go_ret
      exact ⟨rfl, rfl⟩
  · rw [decide_eq_false (show ¬ (0 ≤ k ∧ k < (n : Int)) by omega)]
    have h3 : decide (0 ≤ k) = false := by simpa using h1
    clear h1
    go_enter Try.func45, Try.ntmps45
    go_wp2_with fail
    go_ret
    exact ⟨rfl, rfl⟩

end Go.Proofs.Ytpofkfcjnhoamaa

/-
  How many moves are left, by the program and by the model; whether a line is done, by the model; trains at a place, by the model. For lines of at most 5 sections and 5 trains.
-/
namespace Go.Proofs.Ytpofkfcjnhoamaa
open Go.RowKit Go.Sort

theorem leftP_small {l : Ln} (h : l.2.length ≤ 5) (k : Nat) : 0 ≤ leftP l k ∧ leftP l k ≤ 27 * (k : Int) := by
  induction k with
  | zero => simp [leftP]
  | succ k ih =>
    have h1 := comTo_range l.2 (2 * k)
    have h2 := evLeft_range (l.1.getD k nb) h1.1
    simp only [leftP]
    omega
theorem leftP_succ (l : Ln) (k : Nat) : leftP l (k + 1) = leftP l k + evLeft (l.1.getD k nb) (comTo l.2 (2 * k)) := rfl

set_option maxHeartbeats 2000000 in
theorem implLeft {w : World} {v : Value} {l : Ln} (h : LineV w v l) (hn : l.1.length ≤ 5) (ht : l.2.length ≤ 5) : Calls Try.prog 52 #[v] w fun e w' => e = .returned (.int .i64 (lnLeft l)) ∧ Below w.heap.size w w' := by
  obtain ⟨u1, u2, rfl, h1, h2⟩ := h
  obtain ⟨a1, c1, rfl⟩ := Rd.slice h1
  obtain ⟨a2, c2, rfl, -, hc2⟩ := h2
  have q0 := below_alloc w (.cells #[.slice a1 l.1.length c1, .slice a2 l.2.length c2] 67)
  have p0 := Pair.new w (.slice a1 l.1.length c1) (.slice a2 l.2.length c2) 67
  obtain ⟨W, hW⟩ : ∃ X, X = w.alloc (.cells #[.slice a1 l.1.length c1, .slice a2 l.2.length c2] 67) := ⟨_, rfl⟩
  rw [← hW] at q0 p0
  have HW := Lib.hid hW.symm
  have Q0 := Lib.hid q0
  have P0 := Lib.hid p0
  have e0 := p0.cell0
  have HC2 := Lib.hid hc2
  have AT := Lib.hid (fun (i : Nat) (hi : i < l.1.length) => Blks.at h1 hi)
  have LS := Lib.hid (leftP_small ht)
  have LE := Lib.hid (leftP_succ l)
  have LL := Lib.hid (show lnLeft l = leftP l l.1.length from rfl)
  have k1 : (l.1.length : Int) ≤ 5 := by omega
  have k2 : (l.2.length : Int) ≤ 5 := by omega
  clear hW p0 q0 hc2 h1
  go_enter Try.func52, Try.ntmps52
  go_wp2_with fail
  rw [HW.out]
  go_wp2_with fail
  go_loopw [3, 12] (fun m i wo => ∃ k : Nat, k ≤ l.1.length ∧ i = .int .i64 k ∧ m = .int .i64 (leftP l k) ∧ Below W.heap.size W wo) (fun _ i _ => l.1.length - (intOf i).toNat)
  case atStart => exact ⟨0, by omega, rfl, rfl, Below.refl _ _⟩
  case round =>
    obtain ⟨k, hk, rfl, rfl, hbo⟩ := hrel
    obtain ⟨wp, hwp⟩ : ∃ X, X = wr := ⟨_, rfl⟩
    rw [← hwp] at hbo ⊢
    clear hwp
    have hr := LS.out k
    have hrs := LS.out (k + 1)
    have es := LE.out k
    obtain ⟨s, hs⟩ : ∃ s, s = leftP l k := ⟨_, rfl⟩
    obtain ⟨s', hs'⟩ : ∃ s, s = leftP l (k + 1) := ⟨_, rfl⟩
    rw [← hs] at hr es ⊢
    rw [← hs'] at hrs es
    have S := Lib.hid hs
    have S' := Lib.hid hs'
    have ES := Lib.hid es
    clear hs hs' es
    by_cases hlt : k < l.1.length
    · have hki : (k : Int) < (l.1.length : Int) := by omega
      obtain ⟨b, o, rfl, hb, hcell⟩ := AT.out k hlt
      obtain ⟨g0, g1, g2⟩ := hcell k hlt
      have hbW := Nat.lt_of_lt_of_le hb Q0.out.size
      have d0 := (hbo.cell (p := ⟨b, o + k * 3, none⟩) hbW).trans ((Q0.out.cell (p := ⟨b, o + k * 3, none⟩) hb).trans g0)
      have d1 : wp.cell? ⟨b, o + k * 3 + 1, none⟩ = _ := (hbo.cell (p := ⟨b, o + k * 3 + 1, none⟩) hbW).trans ((Q0.out.cell (p := ⟨b, o + k * 3 + 1, none⟩) hb).trans g1)
      have d2 : wp.cell? ⟨b, o + k * 3 + 2, none⟩ = _ := (hbo.cell (p := ⟨b, o + k * 3 + 2, none⟩) hbW).trans ((Q0.out.cell (p := ⟨b, o + k * 3 + 2, none⟩) hb).trans g2)
      obtain ⟨x, hx⟩ : ∃ x, x = l.1.getD k nb := ⟨_, rfl⟩
      rw [← hx] at d0 d1 d2
      have X := Lib.hid hx
      have t2 := Tri3.new wp (.int .i64 x.1) (.bool x.2.1) (.bool x.2.2) 33
      have b2 := below_alloc wp (.cells #[.int .i64 x.1, .bool x.2.1, .bool x.2.2] 33)
      obtain ⟨V, hV⟩ : ∃ V, V = wp.alloc (.cells #[.int .i64 x.1, .bool x.2.1, .bool x.2.2] 33) := ⟨_, rfl⟩
      rw [← hV] at t2 b2
      have HV := Lib.hid hV.symm
      have cV := hbo.trans (b2.mono hbo.size)
      have v1 := (P0.out.below cV).cell1
      have V0 := t2.cell0
      have V1 := t2.cell1
      have V2 := t2.cell2
      have CV := Lib.hid cV
      have BP := Lib.hid (boxPlace (k : Int) (by omega))
      clear hx hV g0 g1 g2 hcell t2 b2 cV hbo
      go_upto_region 6 with fail
      rw [HV.out]
      go_wp2_with fail
      go_loop [6, 20] (fun m i => ∃ j : Nat, j ≤ l.2.length ∧ i = .int .i64 j ∧ m = .int .i64 (comP l.2 (2 * (k : Int)) j)) (fun _ i => l.2.length - (intOf i).toNat)
      case atStart => exact ⟨0, by omega, rfl, rfl⟩
      case round =>
        obtain ⟨j, hj, rfl, rfl⟩ := hrel
        have hrm := comP_range l.2 (2 * (k : Int)) j
        obtain ⟨m, hm⟩ : ∃ m, m = comP l.2 (2 * (k : Int)) j := ⟨_, rfl⟩
        rw [← hm] at hrm ⊢
        have M := Lib.hid hm
        by_cases hjl : j < l.2.length
        · obtain ⟨b', o', rfl, hb', hcell⟩ : ∃ b o, a2 = some ⟨b, o, none⟩ ∧ b < w.heap.size ∧ ∀ i, i < l.2.length → w.cell? ⟨b, o + i, none⟩ = some (.int .i64 (l.2.getD i 0)) := by
            rcases HC2.out with h | h
            · rw [h] at hjl; simp at hjl
            · exact h
          have hbW' := Nat.lt_of_lt_of_le hb' Q0.out.size
          have z0 := (CV.out.cell (p := ⟨b', o' + j, none⟩) hbW').trans ((Q0.out.cell (p := ⟨b', o' + j, none⟩) hb').trans (hcell j hjl))
          have hji : (j : Int) < (l.2.length : Int) := by omega
          obtain ⟨y, hy⟩ : ∃ y, y = l.2.getD j 0 := ⟨_, rfl⟩
          rw [← hy] at z0
          have Y := Lib.hid hy
          clear hy hcell hm
          by_cases e : y ≤ 2 * (k : Int)
          · have E := Lib.hid ((comP_yes (show l.2.getD j 0 ≤ 2 * (k : Int) by rw [← Y.out]; exact e)).trans (by rw [← M.out]))
            go_wp2_with (go_at_call 44; refine (BP.out _).mono ?_; rintro e w2 ⟨rfl, rfl⟩)
            go_round
            case rel => exact ⟨j + 1, by omega, by go_num, by rw [E.out]; try go_num⟩
            case measure => simp [intOf]; omega
          · have E := Lib.hid ((comP_no (show ¬ l.2.getD j 0 ≤ 2 * (k : Int) by rw [← Y.out]; exact e)).trans M.out.symm)
            go_wp2_with (go_at_call 44; refine (BP.out _).mono ?_; rintro e w2 ⟨rfl, rfl⟩)
            go_round
            case rel => exact ⟨j + 1, by omega, by go_num, by rw [E.out]; try go_num⟩
            case measure => simp [intOf]; omega
        · obtain rfl : j = l.2.length := by omega
          have EV := Lib.hid (eventsLeft x m hrm.1 (by omega))
          have EX := Lib.hid (show s' = s + evLeft x m by rw [ES.out, X.out, hm]; rfl)
          clear hjl hj hm M
          obtain ⟨ev, hev⟩ : ∃ ev, ev = evLeft x m := ⟨_, rfl⟩
          rw [← hev] at EV EX
          have hvr : 0 ≤ ev ∧ ev ≤ 27 := by rw [hev]; have := evLeft_range x hrm.1; omega
          clear hev
          go_wp2_with (go_at_call 80; refine (EV.out _).mono ?_; rintro e w3 ⟨rfl, b3⟩)
          go_roundw
          case rel => exact ⟨k + 1, by omega, by go_num, by rw [← S'.out, EX.out]; try go_num, CV.out.trans (b3.mono CV.out.size)⟩
          case measure => simp [intOf]; omega
    · obtain rfl : k = l.1.length := by omega
      have E := Lib.hid (show lnLeft l = s by rw [LL.out, S.out])
      go_wp2_with fail
      go_ret
      exact ⟨ret_int E.out.symm, Q0.out.trans (hbo.mono Q0.out.size)⟩

end Go.Proofs.Ytpofkfcjnhoamaa
