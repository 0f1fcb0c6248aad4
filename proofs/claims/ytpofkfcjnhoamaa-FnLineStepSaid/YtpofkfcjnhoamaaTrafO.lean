/-
  The program's lines: the line that is made of one that came in. For at most 1048576 blocks and as many trains.
-/
import Derived.Test.YtpofkfcjnhoamaaTrafC
namespace Go.Proofs.Ytpofkfcjnhoamaa
open Go.RowKit Go.Sort

theorem three_pairs (w : World) (x y x' y' x'' y'' : Value) (t t' t'' : TypeId) (W : World) (hW : W = ((w.alloc (.cells #[x, y] t)).alloc (.cells #[x', y'] t')).alloc (.cells #[x'', y''] t'')) :
    Pair W w.heap.size x y t ∧ Pair W (w.heap.size + 1) x' y' t' ∧ Pair W (w.heap.size + 1 + 1) x'' y'' t'' ∧ Below w.heap.size w W ∧ W.heap.size = w.heap.size + 3 := by
  have s1 : (w.alloc (.cells #[x, y] t)).heap.size = w.heap.size + 1 := Go.Deep.nblk_alloc _ _
  have s2 : ((w.alloc (.cells #[x, y] t)).alloc (.cells #[x', y'] t')).heap.size = w.heap.size + 2 := by rw [Go.Deep.nblk_alloc, s1]
  have s3 : W.heap.size = w.heap.size + 3 := by rw [hW, Go.Deep.nblk_alloc, s2]
  have p0 := Pair.new w x y t
  have p1 := Pair.new (w.alloc (.cells #[x, y] t)) x' y' t'
  have p2 := Pair.new ((w.alloc (.cells #[x, y] t)).alloc (.cells #[x', y'] t')) x'' y'' t''
  rw [s1] at p1
  rw [s2] at p2
  subst hW
  exact ⟨(p0.alloc _).alloc _, p1.alloc _, p2, ((below_alloc w _).alloc (by omega) _).alloc (by omega) _, s3⟩

theorem own_none (w : World) : OwnLine w w.heap.size (.agg #[.slice none 0 0, .slice none 0 0]) noLn :=
  ⟨_, _, rfl, ow_nil _ _ _ _ _, own_nil _, .inl rfl, .inl rfl⟩

set_option maxHeartbeats 4000000 in
theorem trafficOf {w : World} {v : Value} {l : Ln} (h : LineV w v l) : Calls Try.prog 40 #[v] w (MadeLineB w (if lnB l then l else noLn) (lnB l)) := by
  obtain ⟨u1, u2, rfl, h1, h2⟩ := h
  obtain ⟨a1, c1, rfl⟩ := Rd.slice h1
  obtain ⟨a2, c2, rfl, r2⟩ := h2
  have h2 : Ints w (.slice a2 l.2.length c2) l.2 := ⟨a2, c2, rfl, r2⟩
  obtain ⟨W, hW⟩ : ∃ X, X = ((w.alloc (.cells #[.slice a1 l.1.length c1, .slice a2 l.2.length c2] 26)).alloc (.cells #[.slice none 0 0, .slice none 0 0] 67)).alloc (.cells #[.slice a1 l.1.length c1, .slice a2 l.2.length c2] 67) := ⟨_, rfl⟩
  obtain ⟨p0, p1, p2, hE, hs⟩ := three_pairs w _ _ _ _ _ _ _ _ _ W hW
  have HW := Lib.hid hW.symm
  have E := Lib.hid hE
  have P0 := Lib.hid p0
  have P1 := Lib.hid p1
  have P2 := Lib.hid p2
  have S := Lib.hid hs
  have k1 : (l.1.length : Int) ≤ 1048576 := by have := Rd.len h1; omega
  have k2 : (l.2.length : Int) ≤ 1048576 := by have := h2.len; omega
  have e0 := p0.cell0
  have e1 := p0.cell1
  have EQ := Lib.hid (lnB_eq l)
  have SV := Lib.hid (sectionsValidL (l.1.length : Int))
  obtain ⟨t1, ht1⟩ : ∃ t, t = decide (1 ≤ (l.1.length : Int) ∧ (l.1.length : Int) ≤ 5) := ⟨_, rfl⟩
  obtain ⟨t2, ht2⟩ : ∃ t, t = decide ((l.2.length : Int) ≤ 5) := ⟨_, rfl⟩
  obtain ⟨t3, ht3⟩ : ∃ t, t = decide (∀ k, k < l.1.length → bkPos (l.1.getD k nb) = true) := ⟨_, rfl⟩
  obtain ⟨t4, ht4⟩ : ∃ t, t = placedB l.1 l.2 := ⟨_, rfl⟩
  have AP := Lib.hid (fun (X : World) (c : Below W.heap.size W X) => arePos (w := X) (Rd.below h1 (hE.trans (c.mono hE.size))))
  have AL := Lib.hid (fun (X : World) (c : Below W.heap.size W X) => arePlaced (w := X) (Rd.below h1 (hE.trans (c.mono hE.size))) (h2.below (hE.trans (c.mono hE.size))))
  have CL := Lib.hid (fun (X : World) (c : Below W.heap.size W X) => cloneT (w := X) (v := .agg #[.slice a1 l.1.length c1, .slice a2 l.2.length c2]) (l := l) ⟨_, _, rfl, Rd.below h1 (hE.trans (c.mono hE.size)), h2.below (hE.trans (c.mono hE.size))⟩)
  rw [← ht1, ← ht2, ← ht3, ← ht4] at EQ
  rw [← ht1] at SV
  rw [← ht3] at AP
  rw [← ht4] at AL
  have HT1 := Lib.hid ht1
  have HT2 := Lib.hid ht2
  clear ht1
  have BW : Below W.heap.size W W := Below.refl _ _
  have e2 := p2.cell0
  have e3 := p2.cell1
  clear ht2 ht3 ht4 h1 h2 r2 p0 p1 p2 hE hs hW
  cases t1
  · have EF := Lib.hid (show lnB l = false by rw [EQ.out]; rfl)
    rw [EF.out]
    go_enter Try.func40, Try.ntmps40
    go_upto_region 2 with fail
    rw [HW.out]
    have c0 := P1.out.cell0
    have c1 := P1.out.cell1
    have f0 := P1.out.frozen 0
    have f1 := P1.out.frozen 1
    have d0 := (stored_pair (x' := .slice none 0 0) (y' := .slice none 0 0) P1.out).cell0
    have d1 := (stored_pair (x' := .slice none 0 0) (y' := .slice none 0 0) P1.out).cell1
    go_wp2_with (go_at_call 73; refine (SV.out _).mono ?_; rintro e w1 ⟨rfl, rfl⟩)
    have c0 := (P1.out.below BW).cell0
    have c1 := (P1.out.below BW).cell1
    have f0 := (P1.out.below BW).frozen 0
    have f1 := (P1.out.below BW).frozen 1
    have d0 := (stored_pair (x' := .slice none 0 0) (y' := .slice none 0 0) (P1.out.below BW)).cell0
    have d1 := (stored_pair (x' := .slice none 0 0) (y' := .slice none 0 0) (P1.out.below BW)).cell1
    have BB := Lib.hid ((((E.out.trans (Below.mono BW E.out.size)).setCell (p := ⟨w.heap.size + 1, 0, none⟩) (by simp only; omega) (.slice none 0 0)).setCell (p := ⟨w.heap.size + 1, 1, none⟩) (by simp only; omega) (.slice none 0 0)))
    go_wp2_with fail
    exact bodyPost_ret (v := .tuple #[.agg #[.slice none 0 0, .slice none 0 0], .bool false]) (by simp [results, Try.results40, go_sem, d0, d1]) rfl ⟨_, rfl, ⟨_, _, rfl, ow_nil _ _ _ _ _, World.ownsRow_nil _ _ _ _, .inl rfl, .inl rfl⟩, BB.out⟩
  cases t2
  · have EF := Lib.hid (show lnB l = false by rw [EQ.out]; rfl)
    rw [EF.out]
    have g : (5 : Int) < (l.2.length : Int) := by have := of_decide_eq_false HT2.out.symm; omega
    go_enter Try.func40, Try.ntmps40
    go_upto_region 2 with fail
    rw [HW.out]
    have c0 := P1.out.cell0
    have c1 := P1.out.cell1
    have f0 := P1.out.frozen 0
    have f1 := P1.out.frozen 1
    go_wp2_with (go_at_call 73; refine (SV.out _).mono ?_; rintro e w1 ⟨rfl, rfl⟩)
    have c0 := (P1.out.below BW).cell0
    have c1 := (P1.out.below BW).cell1
    have f0 := (P1.out.below BW).frozen 0
    have f1 := (P1.out.below BW).frozen 1
    have d0 := (stored_pair (x' := .slice none 0 0) (y' := .slice none 0 0) (P1.out.below BW)).cell0
    have d1 := (stored_pair (x' := .slice none 0 0) (y' := .slice none 0 0) (P1.out.below BW)).cell1
    have BB := Lib.hid ((((E.out.trans (Below.mono BW E.out.size)).setCell (p := ⟨w.heap.size + 1, 0, none⟩) (by simp only; omega) (.slice none 0 0)).setCell (p := ⟨w.heap.size + 1, 1, none⟩) (by simp only; omega) (.slice none 0 0)))
    go_wp2_with fail
    exact bodyPost_ret (v := .tuple #[.agg #[.slice none 0 0, .slice none 0 0], .bool false]) (by simp [results, Try.results40, go_sem, d0, d1]) rfl ⟨_, rfl, ⟨_, _, rfl, ow_nil _ _ _ _ _, World.ownsRow_nil _ _ _ _, .inl rfl, .inl rfl⟩, BB.out⟩
  have g : (l.2.length : Int) ≤ 5 := of_decide_eq_true HT2.out.symm
  cases t3
  · have EF := Lib.hid (show lnB l = false by rw [EQ.out]; rfl)
    rw [EF.out]
    go_enter Try.func40, Try.ntmps40
    go_upto_region 2 with fail
    rw [HW.out]
    go_wp2_with (first
      | (go_at_call 73; refine (SV.out _).mono ?_; rintro e w1 ⟨rfl, rfl⟩)
      | (go_at_call 74; refine (AP.out _ BW).mono ?_; rintro e w2 ⟨rfl, b2⟩; have c0 := (P1.out.below b2).cell0; have c1 := (P1.out.below b2).cell1; have f0 := (P1.out.below b2).frozen 0; have f1 := (P1.out.below b2).frozen 1))
    have d0 := (stored_pair (x' := .slice none 0 0) (y' := .slice none 0 0) (P1.out.below b2)).cell0
    have d1 := (stored_pair (x' := .slice none 0 0) (y' := .slice none 0 0) (P1.out.below b2)).cell1
    have BB := Lib.hid ((((E.out.trans (Below.mono b2 E.out.size)).setCell (p := ⟨w.heap.size + 1, 0, none⟩) (by simp only; omega) (.slice none 0 0)).setCell (p := ⟨w.heap.size + 1, 1, none⟩) (by simp only; omega) (.slice none 0 0)))
    exact bodyPost_ret (v := .tuple #[.agg #[.slice none 0 0, .slice none 0 0], .bool false]) (by simp [results, Try.results40, go_sem, d0, d1]) rfl ⟨_, rfl, ⟨_, _, rfl, ow_nil _ _ _ _ _, World.ownsRow_nil _ _ _ _, .inl rfl, .inl rfl⟩, BB.out⟩
  cases t4
  · have EF := Lib.hid (show lnB l = false by rw [EQ.out]; rfl)
    rw [EF.out]
    go_enter Try.func40, Try.ntmps40
    go_upto_region 2 with fail
    rw [HW.out]
    go_wp2_with (first
      | (go_at_call 73; refine (SV.out _).mono ?_; rintro e w1 ⟨rfl, rfl⟩)
      | (go_at_call 74; refine (AP.out _ BW).mono ?_; rintro e w2 ⟨rfl, b2⟩; have g0 := (P2.out.below b2).cell0; have g1 := (P2.out.below b2).cell1)
      | (go_at_call 75; refine (AL.out _ b2).mono ?_; rintro e w3 ⟨rfl, b3'⟩; have b3 := b2.trans (b3'.mono b2.size); have c0 := (P1.out.below b3).cell0; have c1 := (P1.out.below b3).cell1; have f0 := (P1.out.below b3).frozen 0; have f1 := (P1.out.below b3).frozen 1))
    have d0 := (stored_pair (x' := .slice none 0 0) (y' := .slice none 0 0) (P1.out.below b3)).cell0
    have d1 := (stored_pair (x' := .slice none 0 0) (y' := .slice none 0 0) (P1.out.below b3)).cell1
    have BB := Lib.hid ((((E.out.trans (Below.mono b3 E.out.size)).setCell (p := ⟨w.heap.size + 1, 0, none⟩) (by simp only; omega) (.slice none 0 0)).setCell (p := ⟨w.heap.size + 1, 1, none⟩) (by simp only; omega) (.slice none 0 0)))
    exact bodyPost_ret (v := .tuple #[.agg #[.slice none 0 0, .slice none 0 0], .bool false]) (by simp [results, Try.results40, go_sem, d0, d1]) rfl ⟨_, rfl, ⟨_, _, rfl, ow_nil _ _ _ _ _, World.ownsRow_nil _ _ _ _, .inl rfl, .inl rfl⟩, BB.out⟩
  have EF := Lib.hid (show lnB l = true by rw [EQ.out]; rfl)
  rw [EF.out]
  go_enter Try.func40, Try.ntmps40
  go_upto_region 2 with fail
  rw [HW.out]
  go_wp2_with (first
    | (go_at_call 73; refine (SV.out _).mono ?_; rintro e w1 ⟨rfl, rfl⟩)
    | (go_at_call 74; refine (AP.out _ BW).mono ?_; rintro e w2 ⟨rfl, b2⟩; have g0 := (P2.out.below b2).cell0; have g1 := (P2.out.below b2).cell1)
    | (go_at_call 75; refine (AL.out _ b2).mono ?_; rintro e w3 ⟨rfl, b3'⟩; have b3 := b2.trans (b3'.mono b2.size); have g2 := (P2.out.below b3).cell0; have g3 := (P2.out.below b3).cell1))
  refine (CL.out _ b3).mono ?_
  rintro e w4 ⟨v4, rfl, o4, b4'⟩
  have b4 := b3.trans (b4'.mono b3.size)
  obtain ⟨x1, x2, rfl, oB, oI, ap⟩ := o4
  obtain ⟨ya, yc, rfl⟩ := Ow.slice oB
  obtain ⟨za, zn, zc, rfl⟩ := own_is_slice oI
  have c0 := (P1.out.below b4).cell0
  have c1 := (P1.out.below b4).cell1
  have f0 := (P1.out.below b4).frozen 0
  have f1 := (P1.out.below b4).frozen 1
  have d0 := (stored_pair (x' := .slice ya l.1.length yc) (y' := .slice za zn zc) (P1.out.below b4)).cell0
  have d1 := (stored_pair (x' := .slice ya l.1.length yc) (y' := .slice za zn zc) (P1.out.below b4)).cell1
  have BB := Lib.hid ((((E.out.trans (b4.mono E.out.size)).setCell (p := ⟨w.heap.size + 1, 0, none⟩) (by simp only; omega) (.slice ya l.1.length yc)).setCell (p := ⟨w.heap.size + 1, 1, none⟩) (by simp only; omega) (.slice za zn zc)))
  have hlo : w.heap.size + 1 < w3.heap.size := by have := b3.size; have := S.out; omega
  have OO := Lib.hid (show OwnLine ((w4.setCell ⟨w.heap.size + 1, 0, none⟩ (.slice ya l.1.length yc)).setCell ⟨w.heap.size + 1, 1, none⟩ (.slice za zn zc)) w.heap.size (.agg #[.slice ya l.1.length yc, .slice za zn zc]) l from
    ⟨_, _, rfl, Ow.mono (Ow.setBelow (Ow.setBelow oB (a := ⟨w.heap.size + 1, 0, none⟩) hlo _) (a := ⟨w.heap.size + 1, 1, none⟩) hlo _) (by omega), ((oI.setBelow (a := ⟨w.heap.size + 1, 0, none⟩) hlo _).setBelow (a := ⟨w.heap.size + 1, 1, none⟩) hlo _).mono (by omega), ap⟩)
  clear oB oI ap b4' b4 b3' b2 b3 g0 g1 g2 g3
  go_wp2_with fail
  exact bodyPost_ret (v := .tuple #[.agg #[.slice ya l.1.length yc, .slice za zn zc], .bool true]) (by simp [results, Try.results40, go_sem, d0, d1]) rfl ⟨_, rfl, OO.out, BB.out⟩

end Go.Proofs.Ytpofkfcjnhoamaa
