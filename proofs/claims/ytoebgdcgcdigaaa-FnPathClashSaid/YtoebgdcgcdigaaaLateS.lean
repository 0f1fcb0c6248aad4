/-
  The same path later, by the model: for all times.
-/
import Derived.Test.YtoebgdcgcdigaaaLate
import Derived.Test.YtoebgdcgcdigaaaStepB
import Derived.Deep.DeepCutAuto
namespace Go.Proofs.Ytoebgdcgcdigaaa
open Go.RowKit Go.Sort

set_option maxRecDepth 100000 in
set_option maxHeartbeats 4000000 in
theorem specLate {w : World} {v : Value} {n d : Int} {p : List Int × List Int} (h : PathV w v p) (hd : -9223372036854775808 ≤ d ∧ d ≤ 9223372036854775807) :
    Calls Try.prog 46 #[.int .i64 n, v, .int .i64 d] w (MadePathB w (lateV n p d) (lateW n p d)) := by
  obtain ⟨a1, m1, c1, a2, m2, c2, rfl⟩ := h.form
  obtain ⟨W, hW, p1, p2, e1⟩ := two_boxes w (.slice a1 m1 c1) (.slice a2 m2 c2) (.slice none 0 0) (.slice none 0 0) 44
  have hv := h.below e1
  have HW := Lib.hid hW
  have P1 := Lib.hid p1
  have P2 := Lib.hid p2
  have SV := Lib.hid (specValid (n := n) hv)
  have k0 := p1.cell0
  have k1 := p1.cell1
  have sW : w.heap.size + 1 < W.heap.size := p2.lt
  clear hW h p1 p2
  cases hb : pathB n p
  · have HN := Lib.hid (show lateW n p d = false by unfold lateW; rw [hb]; rfl)
    rw [hb] at SV
    clear hb hv
    go_enter Try.func46, Try.ntmps46
    go_upto_region 1 with fail
    rw [HW.out]
    go_wp2_with (go_at_call 78; refine SV.out.mono ?_)
    rintro e w1 ⟨rfl, b1⟩
    have pr1 := P2.out.below b1
    have k2 := pr1.cell0
    have k3 := pr1.cell1
    have k4 := pr1.frozen 0
    have k5 := pr1.frozen 1
    have bw := e1.trans (b1.mono e1.size)
    have pr2 := stored_pair (x' := .slice none 0 0) (y' := .slice none 0 0) pr1
    have k6 := pr2.cell0
    have k7 := pr2.cell1
    have C1 := Lib.hid ((bw.setCell (p := ⟨w.heap.size + 1, 0, none⟩) (Nat.le_succ _) (.slice none 0 0)).setCell (p := ⟨w.heap.size + 1, 1, none⟩) (Nat.le_succ _) (.slice none 0 0))
    clear pr1 pr2 bw
    go_wp2_with fail
    exact bodyPost_ret (v := .tuple #[.agg #[.slice none 0 0, .slice none 0 0], .bool false]) (by simp [results, Try.results46, go_sem, k6, k7]) rfl (made_path (nil_path _ _) C1.out (lateV_no HN.out).symm HN.out.symm)
  rcases Decidable.em (d < -2000 ∨ 2000 < d) with hfar | hnear
  · have HN := Lib.hid (lateW_far (n := n) (p := p) hd hfar)
    have HF := Lib.hid hfar
    rw [hb] at SV
    clear hb hv hfar hd
    go_enter Try.func46, Try.ntmps46
    go_upto_region 1 with fail
    rw [HW.out]
    go_wp2_with (go_at_call 78; refine SV.out.mono ?_)
    rintro e w1 ⟨rfl, b1⟩
    have pr1 := P2.out.below b1
    have k2 := pr1.cell0
    have k3 := pr1.cell1
    have k4 := pr1.frozen 0
    have k5 := pr1.frozen 1
    have bw := e1.trans (b1.mono e1.size)
    have pr2 := stored_pair (x' := .slice none 0 0) (y' := .slice none 0 0) pr1
    have k6 := pr2.cell0
    have k7 := pr2.cell1
    have C1 := Lib.hid ((bw.setCell (p := ⟨w.heap.size + 1, 0, none⟩) (Nat.le_succ _) (.slice none 0 0)).setCell (p := ⟨w.heap.size + 1, 1, none⟩) (Nat.le_succ _) (.slice none 0 0))
    clear pr1 pr2 bw
    go_wp2_with (go_at_call 72; refine (in_no _ _ _ _ HF.out).mono ?_; rintro e w' ⟨rfl, rfl⟩)
    exact bodyPost_ret (v := .tuple #[.agg #[.slice none 0 0, .slice none 0 0], .bool false]) (by simp [results, Try.results46, go_sem, k6, k7]) rfl (made_path (nil_path _ _) C1.out (lateV_no HN.out).symm HN.out.symm)
  have hd1 : -2000 ≤ d := by omega
  have hd2 : d ≤ 2000 := by omega
  obtain ⟨g1, o1, f1, g2, o2, f2, ev, hg1, hg2, hc1, hc2⟩ := hv.cells hb
  simp only [Value.agg.injEq, Array.mk.injEq, List.cons.injEq, Value.slice.injEq, and_true] at ev
  obtain ⟨⟨rfl, rfl, rfl⟩, rfl, rfl, rfl⟩ := ev
  have hq := pathB_is hb
  have hq1 := hq.1.1
  have hq5 := hq.1.2
  have hx := hq.2.1
  have hy := hq.2.2.1
  obtain ⟨m, hm⟩ : ∃ m, m = p.1.length := ⟨_, rfl⟩
  have hn : n = (m : Int) := by omega
  have hm2 : p.2.length = m := by omega
  subst hn
  have hm1 : 1 ≤ m := by omega
  have hm5 : m ≤ 5 := by omega
  have HS := Lib.hid (show ∀ j, j < m → (lateIn p d j = p.1.getD j 0 + d ∧ lateOut p d j = p.2.getD j 0 + d) ∧ 0 ≤ p.1.getD j 0 ∧ p.1.getD j 0 < p.2.getD j 0 ∧ p.2.getD j 0 ≤ 2000 from fun j hj => ⟨late_near hb hd1 hd2 (by omega), hq.2.2.2.bounds (by omega)⟩)
  rw [← hm] at P1 k0 hc1 HW SV
  rw [hm2] at P1 k1 hc2 HW SV
  rw [← hm, hm2]
  have HC1 := Lib.hid hc1
  have HC2 := Lib.hid hc2
  have HM := Lib.hid hm
  have HB := Lib.hid hb
  have hml := lateTo_len p d m
  rw [hb] at SV
  clear hb hv hq hx hy hm hm2 hc1 hc2 hd hnear hq1 hq5
  go_enter Try.func46, Try.ntmps46
  go_upto_region 1 with fail
  rw [HW.out]
  go_wp2_with (go_at_call 78; refine SV.out.mono ?_)
  rintro e w1 ⟨rfl, b1⟩
  obtain ⟨i0, hi, hz0, hz1, hz2⟩ := info_parts info_int
  have ea := below_alloc w1 (.cells #[] 3)
  have oa := own_empty w1
  have sa : (w1.alloc (.cells #[] 3)).heap.size = w1.heap.size + 1 := Go.Deep.nblk_alloc _ _
  obtain ⟨Wa, hWa⟩ : ∃ X, X = w1.alloc (.cells #[] 3) := ⟨_, rfl⟩
  rw [← hWa] at ea oa sa
  have eb := below_alloc Wa (.cells #[] 3)
  have ob := own_empty Wa
  have sb : (Wa.alloc (.cells #[] 3)).heap.size = Wa.heap.size + 1 := Go.Deep.nblk_alloc _ _
  obtain ⟨Wb, hWb⟩ : ∃ X, X = Wa.alloc (.cells #[] 3) := ⟨_, rfl⟩
  rw [← hWb] at eb ob sb
  have ec := below_alloc Wb (.cells #[.slice (some ⟨w1.heap.size, 0, none⟩) 0 0, .slice (some ⟨Wa.heap.size, 0, none⟩) 0 0] 44)
  have pc := Pair.new Wb (.slice (some ⟨w1.heap.size, 0, none⟩) 0 0) (.slice (some ⟨Wa.heap.size, 0, none⟩) 0 0) 44
  obtain ⟨Wc, hWc⟩ : ∃ X, X = Wb.alloc (.cells #[.slice (some ⟨w1.heap.size, 0, none⟩) 0 0, .slice (some ⟨Wa.heap.size, 0, none⟩) 0 0] 44) := ⟨_, rfl⟩
  rw [← hWc] at ec pc
  have hE := (ea.trans (eb.mono ea.size)).trans (ec.mono (Nat.le_trans ea.size eb.size))
  have hbd : Building Wc w1.heap.size Wb.heap.size (lateTo p d 0) := ⟨_, _, pc, by omega, (oa.below eb).below ec, ((ob.below ec).mono (by omega)), .inr (by simp only [Value.ownBlock]; intro e; simp only [Option.some.injEq] at e; omega), .inr (by simp only [Value.ownBlock]; intro e; simp only [Option.some.injEq] at e; omega), by simp only [Value.ownBlock]; intro e; simp only [Option.some.injEq] at e; omega, by simp only [Value.ownBlock]; intro e; simp only [Option.some.injEq] at e; omega⟩
  have HWW := Lib.hid (show ((w1.alloc (.cells #[] 3)).alloc (.cells #[] 3)).alloc (.cells #[.slice (some ⟨w1.heap.size, 0, none⟩) 0 0, .slice (some ⟨w1.heap.size + 1, 0, none⟩) 0 0] 44) = Wc by rw [hWc, ← sa, hWb, hWa])
  rw [sb, sa] at hbd
  have B1 := Lib.hid b1
  have CE := Lib.hid (e1.trans (b1.mono e1.size))
  have hg1' : g1 < w1.heap.size := Nat.lt_of_lt_of_le hg1 b1.size
  have hg2' : g2 < w1.heap.size := Nat.lt_of_lt_of_le hg2 b1.size
  have hb1' : w.heap.size < w1.heap.size := by have := b1.size; omega
  have EC1 := Lib.hid (fun i hi => (b1.cell (p := ⟨g1, o1 + i, none⟩) hg1).trans (HC1.out i hi))
  have EC2 := Lib.hid (fun i hi => (b1.cell (p := ⟨g2, o2 + i, none⟩) hg2).trans (HC2.out i hi))
  have P1 := Lib.hid (P1.out.below b1)
  have P2 := Lib.hid (P2.out.below b1)
  clear hWa hWb hWc sa sb oa ob pc ea eb ec k0 k1 b1 e1 hg1 hg2
  go_wp2_with (go_at_call 72; refine (in_yes _ _ _ _ hd1 hd2).mono ?_; rintro e w' ⟨rfl, rfl⟩)
  rw [HWW.out]
  go_loopw [9] (fun i wr => ∃ k : Nat, k ≤ m ∧ i = .int .i64 k ∧ Building wr w1.heap.size (w1.heap.size + 1 + 1) (lateTo p d k) ∧ Below w1.heap.size w1 wr) (fun i _ => m - (intOf i).toNat)
  case atStart => exact ⟨0, by omega, rfl, hbd, hE⟩
  case round =>
    obtain ⟨k, hk, rfl, hbu, hbel⟩ := hrel
    by_cases hlt : k < m
    · obtain ⟨x, hx⟩ : ∃ x, x = p.1.getD k 0 := ⟨_, rfl⟩
      obtain ⟨y, hy⟩ : ∃ y, y = p.2.getD k 0 := ⟨_, rfl⟩
      have hsk := HS.out k hlt
      have ex0 := EC1.out k hlt
      have ey0 := EC2.out k hlt
      rw [← hx] at ex0 hsk
      rw [← hy] at ey0 hsk
      have hki : (k : Int) < (m : Int) := by omega
      have hw1 : IntKind.i64.wrap (x + d) = x + d := IntWalk.i64_in _ (by omega)
      have hw1' : wrap64 (x + d) = x + d := (IntWalk.i64_left _).symm.trans hw1
      have hw2 : IntKind.i64.wrap (y + d) = y + d := IntWalk.i64_in _ (by omega)
      have hw2' : wrap64 (y + d) = y + d := (IntWalk.i64_left _).symm.trans hw2
      have HT := Lib.hid (show ((lateTo p d k).1 ++ [x + d], (lateTo p d k).2 ++ [y + d]) = lateTo p d (k + 1) by rw [lateTo_succ, hsk.1.1, hsk.1.2])
      have l1 := (lateTo_len p d k).1
      have l2 := (lateTo_len p d k).2
      have EX := Lib.hid ex0
      have EY := Lib.hid ey0
      have hlw := hbu.lt
      have hbs : w1.heap.size ≤ wr.heap.size := hbel.size
      have L1 := Lib.hid l1
      have L2 := Lib.hid l2
      clear hx hy hsk ex0 ey0 l1 l2
      have ex := (hbel.cell (p := ⟨g1, o1 + k, none⟩) hg1').trans EX.out
      have k0 := ((P1.out.below hbel)).cell0
      obtain ⟨u1, u2, hp, hB, oo1, oo2, aa1, aa2, nn1, nn2⟩ := hbu
      have hown := oo1
      unfold OwnI at hown
      rw [L1.out] at hown
      obtain ⟨av, cv, rfl⟩ := own_slice3 hown
      have c0 := hp.cell0
      have c0d : ((wr.alloc (.cells #[.int .i64 (x + d)] 3)).drew).cell? ⟨w1.heap.size + 1 + 1, 0, none⟩ = some (.slice av k cv) := (hp.alloc _).cell0
      have HOD := Lib.hid (show ((wr.alloc (.cells #[.int .i64 (x + d)] 3)).drew).ownsRow w1.heap.size 3 1 (.slice av k cv) k ((lateTo p d k).1.map (Value.int .i64)) from (hown.alloc _).drew)
      have CON := Lib.hid (show ∀ j u, [Value.int .i64 (x + d)][j]? = some u → ((wr.alloc (.cells #[.int .i64 (x + d)] 3)).drew).cell? ((⟨wr.heap.size, 0, none⟩ : Addr).add j) = some u from cell_one_new wr (.int .i64 (x + d)) 3)
      have SZ := Lib.hid (show w1.heap.size ≤ ((wr.alloc (.cells #[.int .i64 (x + d)] 3)).drew).heap.size from Nat.le_trans hbs (below_alloc wr (.cells #[.int .i64 (x + d)] 3)).size)
      have BD := Lib.hid (show Below w1.heap.size w1 (wr.alloc (.cells #[.int .i64 (x + d)] 3)).drew from (hbel.alloc hbs _).drew)
      have HP := Lib.hid hp
      have HPD := Lib.hid (show Pair ((wr.alloc (.cells #[.int .i64 (x + d)] 3)).drew) (w1.heap.size + 1 + 1) (.slice av k cv) u2 44 from hp.alloc _)
      have O1 := Lib.hid oo1
      have O2 := Lib.hid oo2
      have NN := Lib.hid (And.intro nn1 nn2)
      have AA := Lib.hid (And.intro aa1 aa2)
      clear hown hp oo1 oo2 aa1 aa2 nn1 nn2 hbel
      go_upto_region 7 with fail
      go_cut [] (fun wx => Building wx w1.heap.size (w1.heap.size + 1 + 1) ((lateTo p d k).1 ++ [x + d], (lateTo p d k).2) ∧ Below w1.heap.size w1 wx)
      case first =>
        go_region_law (refine step_append_own_at rfl (.tmp 29) (.tmp 37) 23 rfl w1.heap.size 3 i0 (.int .i64 0) 1 8 Try.underlying23 hi hz0 hz1 hz2 rfl (by decide) (.slice av k cv) k _ (by simp [Act.eval]) HOD.out ⟨wr.heap.size, 0, none⟩ 1 1 [.int .i64 (x + d)] (by simp [Act.eval]) rfl CON.out (by intro u hu; simp at hu; subst hu; rfl) (by simp only [maxLen]; omega) (by omega) SZ.out ?_; intro v2 w2 hown2 hgrow hat; obtain ⟨av2, cv2, rfl⟩ := own_slice3 hown2; have hp2 := Lib.hid (HPD.out.of (hgrow.block _ HPD.out.lt (fun e => NN.out.1 e.symm))); have c1 := hp2.out.cell0; have f1 := hp2.out.frozen 0)
        all_goals (go_wp2_with fail; go_meet; exact ⟨Building.in1 HP.out hB O1.out O2.out AA.out.2 NN.out.1 NN.out.2 rfl (by unfold OwnI; rw [List.length_append, List.map_append, L1.out]; exact hown2) ⟨hgrow.os, hgrow.tape, hgrow.output, hgrow.size, hgrow.block⟩ (hat.imp_right (fun e c q => by rw [e] at q; cases q; exact Nat.le_refl _)), (BD.out.grown hgrow SZ.out (fun c hc => (HOD.out.lt c hc).1)).setCell hB _⟩)
      case rest =>
      obtain ⟨hbu, hbel⟩ := hcut
      revert hbu hbel
      generalize wc = w4
      intro hbu hbel
      clear HOD CON SZ BD HP HPD O1 O2 NN AA ex k0 c0 c0d hbs hlw
      have hlw := hbu.lt
      have hbs : w1.heap.size ≤ w4.heap.size := hbel.size
      have ey := (hbel.cell (p := ⟨g2, o2 + k, none⟩) hg2').trans EY.out
      have k1 := ((P1.out.below hbel)).cell1
      obtain ⟨u3, u4, hp, -, oo1, oo2, aa1, aa2, nn1, nn2⟩ := hbu
      have hown := oo2
      unfold OwnI at hown
      rw [L2.out] at hown
      obtain ⟨av4, cv4, rfl⟩ := own_slice3 hown
      have c0 := hp.cell1
      have c0d : ((w4.alloc (.cells #[.int .i64 (y + d)] 3)).drew).cell? ⟨w1.heap.size + 1 + 1, 1, none⟩ = some (.slice av4 k cv4) := (hp.alloc _).cell1
      have HOD := Lib.hid (show ((w4.alloc (.cells #[.int .i64 (y + d)] 3)).drew).ownsRow w1.heap.size 3 1 (.slice av4 k cv4) k ((lateTo p d k).2.map (Value.int .i64)) from (hown.alloc _).drew)
      have CON := Lib.hid (show ∀ j u, [Value.int .i64 (y + d)][j]? = some u → ((w4.alloc (.cells #[.int .i64 (y + d)] 3)).drew).cell? ((⟨w4.heap.size, 0, none⟩ : Addr).add j) = some u from cell_one_new w4 (.int .i64 (y + d)) 3)
      have SZ := Lib.hid (show w1.heap.size ≤ ((w4.alloc (.cells #[.int .i64 (y + d)] 3)).drew).heap.size from Nat.le_trans hbs (below_alloc w4 (.cells #[.int .i64 (y + d)] 3)).size)
      have BD := Lib.hid (show Below w1.heap.size w1 (w4.alloc (.cells #[.int .i64 (y + d)] 3)).drew from (hbel.alloc hbs _).drew)
      have HP := Lib.hid hp
      have HPD := Lib.hid (show Pair ((w4.alloc (.cells #[.int .i64 (y + d)] 3)).drew) (w1.heap.size + 1 + 1) u3 (.slice av4 k cv4) 44 from hp.alloc _)
      have O1 := Lib.hid oo1
      have O2 := Lib.hid oo2
      have NN := Lib.hid (And.intro nn1 nn2)
      have AA := Lib.hid (And.intro aa1 aa2)
      clear hown hp oo1 oo2 aa1 aa2 nn1 nn2 hbel
      go_upto_region 8 with fail
      go_region_law (refine step_append_own_at rfl (.tmp 41) (.tmp 49) 23 rfl w1.heap.size 3 i0 (.int .i64 0) 1 8 Try.underlying23 hi hz0 hz1 hz2 rfl (by decide) (.slice av4 k cv4) k _ (by simp [Act.eval]) HOD.out ⟨w4.heap.size, 0, none⟩ 1 1 [.int .i64 (y + d)] (by simp [Act.eval]) rfl CON.out (by intro u hu; simp at hu; subst hu; rfl) (by simp only [maxLen]; omega) (by omega) SZ.out ?_; intro v2 w2 hown2 hgrow hat; obtain ⟨av2, cv2, rfl⟩ := own_slice3 hown2; have hp2 := Lib.hid (HPD.out.of (hgrow.block _ HPD.out.lt (fun e => NN.out.2 e.symm))); have c1 := hp2.out.cell1; have f1 := hp2.out.frozen 1)
      all_goals (
        have HBU := Lib.hid (show Building (w2.setCell ⟨w1.heap.size + 1 + 1, 1, none⟩ _) w1.heap.size (w1.heap.size + 1 + 1) (lateTo p d (k + 1)) by rw [← HT.out]; exact Building.in2 (p := ((lateTo p d k).1 ++ [x + d], (lateTo p d k).2)) HP.out hB O1.out O2.out AA.out.1 NN.out.1 NN.out.2 rfl (by unfold OwnI; rw [List.length_append, List.map_append, L2.out]; exact hown2) ⟨hgrow.os, hgrow.tape, hgrow.output, hgrow.size, hgrow.block⟩ (hat.imp_right (fun e c q => by rw [e] at q; cases q; exact Nat.le_refl _)))
        have HBB := Lib.hid ((BD.out.grown hgrow SZ.out (fun c hc => (HOD.out.lt c hc).1)).setCell (p := ⟨w1.heap.size + 1 + 1, 1, none⟩) hB (.slice av2 (k + 1) cv2))
        clear hgrow hat hown2 c1 f1 hp2
        go_wp2_with fail
        go_roundw
        case rel => exact ⟨k + 1, by omega, by go_num, HBU.out, HBB.out⟩
        case measure => simp [intOf]; omega)
    · obtain rfl : k = m := by omega
      obtain ⟨a3, m3, c3, a4, m4, c4, pf, po⟩ := hbu.own
      have SV2 := Lib.hid (specValid (n := (k : Int)) (po.pathV (by rw [hml.1]; omega) (by rw [hml.2]; omega)))
      have k0 := pf.cell0
      have k1 := pf.cell1
      have hbw := CE.out.trans (hbel.mono CE.out.size)
      cases hb2 : pathB k (lateTo p d k)
      · have HN := Lib.hid (show lateW k p d = false by unfold lateW; rw [← HM.out, hb2]; simp)
        rw [hb2] at SV2
        clear hb2 po
        go_wp2_with (go_at_call 78; refine SV2.out.mono ?_)
        rintro e w6 ⟨rfl, b6⟩
        have pr1 := (P2.out.below hbel).below b6
        have bw := hbw.trans (b6.mono hbw.size)
        have k2 := pr1.cell0
        have k3 := pr1.cell1
        have k4 := pr1.frozen 0
        have k5 := pr1.frozen 1
        have pr2 := stored_pair (x' := .slice none 0 0) (y' := .slice none 0 0) pr1
        have k6 := pr2.cell0
        have k7 := pr2.cell1
        have C1 := Lib.hid ((bw.setCell (p := ⟨w.heap.size + 1, 0, none⟩) (Nat.le_succ _) (.slice none 0 0)).setCell (p := ⟨w.heap.size + 1, 1, none⟩) (Nat.le_succ _) (.slice none 0 0))
        clear pr1 pr2 bw b6
        go_wp2_with fail
        exact bodyPost_ret (v := .tuple #[.agg #[.slice none 0 0, .slice none 0 0], .bool false]) (by simp [results, Try.results46, go_sem, k6, k7]) rfl (made_path (nil_path _ _) C1.out (lateV_no HN.out).symm HN.out.symm)
      · have HY := Lib.hid (show lateW k p d = true by unfold lateW; rw [← HM.out, hb2, HB.out]; rfl)
        have HYV := Lib.hid (show lateTo p d k = lateV k p d by rw [lateV_yes HY.out, ← HM.out])
        rw [hb2] at SV2
        clear hb2
        go_wp2_with (go_at_call 78; refine SV2.out.mono ?_)
        rintro e w6 ⟨rfl, b6⟩
        have pf1 := pf.below b6
        have po1 := po.below b6
        have j0 := pf1.cell0
        have j1 := pf1.cell1
        have pr1 := (P2.out.below hbel).below b6
        have bw := hbw.trans (b6.mono hbw.size)
        have k2 := pr1.cell0
        have k3 := pr1.cell1
        have k4 := pr1.frozen 0
        have k5 := pr1.frozen 1
        have pr2 := stored_pair (x' := .slice a3 m3 c3) (y' := .slice a4 m4 c4) pr1
        have k6 := pr2.cell0
        have k7 := pr2.cell1
        have C1 := Lib.hid ((bw.setCell (p := ⟨w.heap.size + 1, 0, none⟩) (Nat.le_succ _) (.slice a3 m3 c3)).setCell (p := ⟨w.heap.size + 1, 1, none⟩) (Nat.le_succ _) (.slice a4 m4 c4))
        have hlt8 : w.heap.size + 1 < w1.heap.size := P2.out.lt
        have PO := Lib.hid (((po1.setApart (c := w.heap.size + 1) hlt8 0 (.slice a3 m3 c3)).setApart (c := w.heap.size + 1) hlt8 1 (.slice a4 m4 c4)).mono (base' := w.heap.size) (by omega))
        clear pr1 pr2 bw b6 pf1 po1 pf po k0 k1
        go_wp2_with fail
        exact bodyPost_ret (v := .tuple #[.agg #[.slice a3 m3 c3, .slice a4 m4 c4], .bool true]) (by simp [results, Try.results46, go_sem, k6, k7]) rfl (made_path PO.out C1.out HYV.out HY.out.symm)

end Go.Proofs.Ytoebgdcgcdigaaa
