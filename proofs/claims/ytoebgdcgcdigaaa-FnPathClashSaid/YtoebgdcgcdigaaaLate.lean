/-
  The same path later, by the program: for all times.
-/
import Derived.Test.YtoebgdcgcdigaaaLateP
import Derived.Test.YtoebgdcgcdigaaaRun
import Derived.Test.YtoebgdcgcdigaaaClashS
namespace Go.Proofs.Ytoebgdcgcdigaaa
open Go.RowKit Go.Sort

/-- A path in a box, as PathAt. -/
theorem Building.at {w : World} {B b : Nat} {p : List Int × List Int} (h : Building w B b p) (l1 : p.1.length ≤ 1048576) (l2 : p.2.length ≤ 1048576) : PathAt w b 0 p := by
  obtain ⟨u1, u2, hp, _, o1, o2, _⟩ := h
  exact ⟨u1, u2, hp.cell0, hp.cell1, hp.lt, o1.ints l1, o2.ints l2⟩
theorem OwnPath.boxed {w : World} {B : Nat} {u1 u2 : Value} {p : List Int × List Int} (h : OwnPath w B (.agg #[u1, u2]) p) (l1 : p.1.length ≤ 1048576) (l2 : p.2.length ≤ 1048576) (t : TypeId) : PathAt (w.alloc (.cells #[u1, u2] t)) w.heap.size 0 p := by
  obtain ⟨v1, v2, e, o1, o2, _⟩ := h
  simp only [Value.agg.injEq, Array.mk.injEq, List.cons.injEq, and_true] at e
  obtain ⟨rfl, rfl⟩ := e
  exact PathV.boxed (o1.ints l1) (o2.ints l2) t

set_option maxHeartbeats 4000000 in
theorem later {w : World} {b : Nat} {n d : Int} {p : List Int × List Int} (h : PathAt w b 0 p) (hpb : pathB n p = true) :
    Calls Try.prog 85 #[.pointer (some ⟨b, 0, none⟩), .int .i64 d] w (MadePath w (lateTo p d p.1.length)) := by
  obtain ⟨g1, o1, d1, g2, o2, d2, k0, k1, hbw, hg1, hg2, hc1, hc2⟩ := h.cells hpb
  obtain ⟨⟨hq1, hq5⟩, hx, hy, hs⟩ := pathB_is hpb
  obtain ⟨m, hm⟩ : ∃ m, m = p.1.length := ⟨_, rfl⟩
  have hm2 : p.2.length = m := by omega
  have hm5 : m ≤ 5 := by omega
  rw [← hm] at hc1 hs k0 ⊢
  rw [hm2] at hc2 k1
  have HS := Lib.hid (show ∀ j, j < m → 0 ≤ p.1.getD j 0 ∧ p.1.getD j 0 < p.2.getD j 0 ∧ p.2.getD j 0 ≤ 2000 from fun j hj => hs.bounds hj)
  have q0 := below_alloc w (.cells #[.slice none 0 0, .slice none 0 0] 44)
  have pr := Pair.new w (.slice none 0 0) (.slice none 0 0) 44
  have sz : (w.alloc (.cells #[.slice none 0 0, .slice none 0 0] 44)).heap.size = w.heap.size + 1 := Go.Deep.nblk_alloc _ _
  obtain ⟨W, hW⟩ : ∃ X, X = w.alloc (.cells #[.slice none 0 0, .slice none 0 0] 44) := ⟨_, rfl⟩
  rw [← hW] at q0 pr sz
  have e1 := below_alloc W (.cells #[.slice none 0 0, .slice none 0 0] 44)
  have pf := Pair.new W (.slice none 0 0) (.slice none 0 0) 44
  obtain ⟨W1, hW1⟩ : ∃ X, X = W.alloc (.cells #[.slice none 0 0, .slice none 0 0] 44) := ⟨_, rfl⟩
  rw [← hW1] at e1 pf
  have hbd : Building W1 W.heap.size W.heap.size (lateTo p d 0) := ⟨_, _, pf, Nat.le_refl _, World.ownsRow_nil _ _ _ _, World.ownsRow_nil _ _ _ _, .inl rfl, .inl rfl, by simp [Value.ownBlock], by simp [Value.ownBlock]⟩
  have HW := Lib.hid (show (w.alloc (.cells #[.slice none 0 0, .slice none 0 0] 44)).alloc (.cells #[.slice none 0 0, .slice none 0 0] 44) = W1 by rw [hW1, hW])
  rw [sz] at hbd
  have SZ := Lib.hid sz
  have PR := Lib.hid pr
  have C0 := Lib.hid k0
  have C1 := Lib.hid k1
  have HC1 := Lib.hid hc1
  have HC2 := Lib.hid hc2
  have Q0 := Lib.hid q0
  have c1 := q0.trans (e1.mono q0.size)
  have j0 := (c1.cell (p := ⟨b, 0, none⟩) hbw).trans k0
  have j1 := (c1.cell (p := ⟨b, 1, none⟩) hbw).trans k1
  have hm1 : 1 ≤ m := by omega
  clear hW hW1 q0 pr sz pf hc1 hc2 h hpb hs hx hy k0 k1 c1 hm hm2
  go_enter Try.func85, Try.ntmps85
  go_upto_region 2 with fail
  rw [HW.out]
  go_wp2_with fail
  clear j0 j1
  go_loopw [13] (fun i wr => ∃ k : Nat, k ≤ m ∧ i = .int .i64 k ∧ Building wr (w.heap.size + 1) (w.heap.size + 1) (lateTo p d k) ∧ Below W.heap.size W wr) (fun i _ => m - (intOf i).toNat)
  case atStart => exact ⟨0, by omega, rfl, hbd, e1⟩
  case round =>
    obtain ⟨k, hk, rfl, hbu, hbel⟩ := hrel
    have hbelw := (Q0.out).trans (hbel.mono Q0.out.size)
    by_cases hlt : k < m
    · obtain ⟨x, hx⟩ : ∃ x, x = p.1.getD k 0 := ⟨_, rfl⟩
      obtain ⟨y, hy⟩ : ∃ y, y = p.2.getD k 0 := ⟨_, rfl⟩
      have ex := (hbelw.cell (p := ⟨g1, o1 + k, none⟩) hg1).trans (HC1.out k hlt)
      have ey := (hbelw.cell (p := ⟨g2, o2 + k, none⟩) hg2).trans (HC2.out k hlt)
      rw [← hx] at ex
      rw [← hy] at ey
      have hsk := HS.out k hlt
      rw [← hx, ← hy] at hsk
      have k0 := (hbelw.cell (p := ⟨b, 0, none⟩) hbw).trans C0.out
      have k1 := (hbelw.cell (p := ⟨b, 1, none⟩) hbw).trans C1.out
      have hki : (k : Int) < (m : Int) := by omega
      obtain ⟨lx, hlx⟩ : ∃ lx, lx = IntKind.i64.wrap (x + d) := ⟨_, rfl⟩
      have hw1 : IntKind.i64.wrap (x + d) = lx := hlx.symm
      have hw1' : wrap64 (x + d) = lx := (IntWalk.i64_left _).symm.trans hw1
      have hw2 : IntKind.i64.wrap (y - x) = y - x := IntWalk.i64_in _ (by omega)
      have hw2' : wrap64 (y - x) = y - x := (IntWalk.i64_left _).symm.trans hw2
      have EN := Lib.hid (enter (x := lx) (r := y - x) hbu rfl (by rw [(lateTo_len p d k).1]; omega) (by rw [(lateTo_len p d k).2]; omega))
      have HT := Lib.hid (show ((lateTo p d k).1 ++ [lx], (lateTo p d k).2 ++ [IntKind.i64.wrap (lx + (y - x))]) = lateTo p d (k + 1) by
        rw [lateTo_succ]
        unfold lateOut lateIn
        rw [hlx, hx, hy])
      rw [HT.out] at EN
      clear hx hy hlx hsk hbu
      go_wp2_with (go_at_call 81; refine EN.out.mono ?_)
      rintro e w2 ⟨rfl, hb2, b2⟩
      have c2 := hbel.trans (show Below W.heap.size wr w2 by rw [SZ.out]; exact b2)
      have HB2 := Lib.hid hb2
      clear hb2 b2 hbel hbelw EN k0 k1 ex ey
      go_wp2_with fail
      go_roundw
      case rel => exact ⟨k + 1, by omega, by go_num, HB2.out, c2⟩
      case measure => simp [intOf]; omega
    · obtain rfl : k = m := by omega
      obtain ⟨a1, n1, c1, a2, n2, c2, pf, po⟩ := hbu.own
      have pr1 := PR.out.below hbel
      have k0 := pf.cell0
      have k1 := pf.cell1
      have k2 := pr1.cell0
      have k3 := pr1.cell1
      have k4 := pr1.frozen 0
      have k5 := pr1.frozen 1
      have pr2 := stored_pair (x' := .slice a1 n1 c1) (y' := .slice a2 n2 c2) pr1
      have k6 := pr2.cell0
      have k7 := pr2.cell1
      have CC := Lib.hid ((hbelw.setCell (p := ⟨w.heap.size, 0, none⟩) (Nat.le_refl _) (.slice a1 n1 c1)).setCell (p := ⟨w.heap.size, 1, none⟩) (Nat.le_refl _) (.slice a2 n2 c2))
      have PO := Lib.hid (((po.setApart (c := w.heap.size) (by omega) 0 (.slice a1 n1 c1)).setApart (c := w.heap.size) (by omega) 1 (.slice a2 n2 c2)).mono (base' := w.heap.size) (by omega))
      clear pf po pr1 pr2
      go_wp2_with fail
      exact bodyPost_ret (v := .agg #[.slice a1 n1 c1, .slice a2 n2 c2]) (by simp [results, Try.results85, go_sem, k6, k7]) rfl ⟨_, rfl, PO.out, CC.out⟩

theorem PathV.agg2 {w : World} {u1 u2 : Value} {p : List Int × List Int} (h : PathV w (.agg #[u1, u2]) p) : Ints w u1 p.1 ∧ Ints w u2 p.2 := by
  obtain ⟨v1, v2, e, i1, i2⟩ := h
  simp only [Value.agg.injEq, Array.mk.injEq, List.cons.injEq, and_true] at e
  obtain ⟨rfl, rfl⟩ := e
  exact ⟨i1, i2⟩

set_option maxHeartbeats 4000000 in
theorem implLate {w : World} {v : Value} {n d : Int} {p : List Int × List Int} (h : PathV w v p) :
    Calls Try.prog 45 #[.int .i64 n, v, .int .i64 d] w (MadePathB w (lateV n p d) (lateW n p d)) := by
  obtain ⟨a1, m1, c1, a2, m2, c2, rfl⟩ := h.form
  obtain ⟨i1, i2⟩ := h.agg2
  obtain ⟨W, hW, p1, p2, e1⟩ := two_boxes w (.slice a1 m1 c1) (.slice a2 m2 c2) (.slice none 0 0) (.slice none 0 0) 44
  have hat : PathAt W w.heap.size 0 p := ⟨_, _, p1.cell0, p1.cell1, p1.lt, i1.below e1, i2.below e1⟩
  have HW := Lib.hid hW
  have P2 := Lib.hid p2
  clear hW i1 i2 h p1 p2
  cases hb : pathB n p
  · have HN := Lib.hid (show lateW n p d = false by unfold lateW; rw [hb]; rfl)
    have OV := Lib.hid (isOver (n := n) hat)
    rw [hb] at OV
    clear hb hat
    have k2 := P2.out.cell0
    have k3 := P2.out.cell1
    have k4 := P2.out.frozen 0
    have k5 := P2.out.frozen 1
    have pr2 := stored_pair (x' := .slice none 0 0) (y' := .slice none 0 0) P2.out
    have k6 := pr2.cell0
    have k7 := pr2.cell1
    have C1 := Lib.hid ((e1.setCell (p := ⟨w.heap.size + 1, 0, none⟩) (Nat.le_succ _) (.slice none 0 0)).setCell (p := ⟨w.heap.size + 1, 1, none⟩) (Nat.le_succ _) (.slice none 0 0))
    clear pr2
    go_enter Try.func45, Try.ntmps45
    go_upto_region 1 with fail
    rw [HW.out]
    go_wp2_with (go_at_call 82; refine OV.out.mono ?_; rintro e w' ⟨rfl, rfl⟩)
    exact bodyPost_ret (v := .tuple #[.agg #[.slice none 0 0, .slice none 0 0], .bool false]) (by simp [results, Try.results45, go_sem, k6, k7]) rfl (made_path (nil_path _ _) C1.out (lateV_no HN.out).symm HN.out.symm)
  · have hl5 : p.1.length ≤ 5 := by have q := pathB_is hb; have := q.1; have := q.2.1; omega
    have OV := Lib.hid (isOver (n := n) hat)
    rw [hb] at OV
    have LA := Lib.hid (later (d := d) hat hb)
    have HB := Lib.hid hb
    have ll := lateTo_len p d p.1.length
    clear hb hat
    go_enter Try.func45, Try.ntmps45
    go_upto_region 1 with fail
    rw [HW.out]
    go_wp2_with (go_at_call 82; refine OV.out.mono ?_; rintro e w' ⟨rfl, rfl⟩)
    refine LA.out.mono ?_
    rintro e w2 ⟨v2, rfl, o2, b2⟩
    obtain ⟨a3, m3, c3, a4, m4, c4, rfl⟩ := o2.form
    have e3 := below_alloc w2 (.cells #[.slice a3 m3 c3, .slice a4 m4 c4] 44)
    have p3 := Pair.new w2 (.slice a3 m3 c3) (.slice a4 m4 c4) 44
    have at3 := o2.boxed (by omega) (by omega) 44
    obtain ⟨W3, hW3⟩ : ∃ X, X = w2.alloc (.cells #[.slice a3 m3 c3, .slice a4 m4 c4] 44) := ⟨_, rfl⟩
    rw [← hW3] at e3 p3 at3
    have H3 := Lib.hid hW3.symm
    have po := o2.below e3
    have b3 := b2.trans (e3.mono b2.size)
    have bw := e1.trans (b3.mono e1.size)
    have pr1 := P2.out.below b3
    have sW : w.heap.size + 1 < W.heap.size := P2.out.lt
    have OV3 := Lib.hid (isOver (n := n) at3)
    have j0 := p3.cell0
    have j1 := p3.cell1
    have k2 := pr1.cell0
    have k3 := pr1.cell1
    have k4 := pr1.frozen 0
    have k5 := pr1.frozen 1
    clear hW3 at3 e3 b2 b3 p3 o2
    go_upto_region 4 with fail
    rw [H3.out]
    cases hb2 : pathB n (lateTo p d p.1.length)
    · have HN := Lib.hid (show lateW n p d = false by unfold lateW; rw [hb2]; simp)
      rw [hb2] at OV3
      have pr2 := stored_pair (x' := .slice none 0 0) (y' := .slice none 0 0) pr1
      have k6 := pr2.cell0
      have k7 := pr2.cell1
      have C1 := Lib.hid ((bw.setCell (p := ⟨w.heap.size + 1, 0, none⟩) (Nat.le_succ _) (.slice none 0 0)).setCell (p := ⟨w.heap.size + 1, 1, none⟩) (Nat.le_succ _) (.slice none 0 0))
      clear hb2 pr1 pr2 po bw
      go_wp2_with (go_at_call 82; refine OV3.out.mono ?_; rintro e w' ⟨rfl, rfl⟩)
      exact bodyPost_ret (v := .tuple #[.agg #[.slice none 0 0, .slice none 0 0], .bool false]) (by simp [results, Try.results45, go_sem, k6, k7]) rfl (made_path (nil_path _ _) C1.out (lateV_no HN.out).symm HN.out.symm)
    · have HY := Lib.hid (show lateW n p d = true by unfold lateW; rw [HB.out, hb2]; rfl)
      rw [hb2] at OV3
      have pr2 := stored_pair (x' := .slice a3 m3 c3) (y' := .slice a4 m4 c4) pr1
      have k6 := pr2.cell0
      have k7 := pr2.cell1
      have C1 := Lib.hid ((bw.setCell (p := ⟨w.heap.size + 1, 0, none⟩) (Nat.le_succ _) (.slice a3 m3 c3)).setCell (p := ⟨w.heap.size + 1, 1, none⟩) (Nat.le_succ _) (.slice a4 m4 c4))
      have PO := Lib.hid (((po.setApart (c := w.heap.size + 1) sW 0 (.slice a3 m3 c3)).setApart (c := w.heap.size + 1) sW 1 (.slice a4 m4 c4)).mono (base' := w.heap.size) (by omega))
      clear hb2 pr1 pr2 po bw
      go_wp2_with (go_at_call 82; refine OV3.out.mono ?_; rintro e w' ⟨rfl, rfl⟩)
      exact bodyPost_ret (v := .tuple #[.agg #[.slice a3 m3 c3, .slice a4 m4 c4], .bool true]) (by simp [results, Try.results45, go_sem, k6, k7]) rfl (made_path PO.out C1.out (lateV_yes HY.out).symm HY.out.symm)

end Go.Proofs.Ytoebgdcgcdigaaa
