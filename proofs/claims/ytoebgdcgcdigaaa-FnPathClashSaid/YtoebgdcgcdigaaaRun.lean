/-
  What the model's and the program's PathRun return: 'runOf', for all starts and at most 1048576 runs.
-/
import Derived.Test.YtoebgdcgcdigaaaFit0
namespace Go.Proofs.Ytoebgdcgcdigaaa
open Go.RowKit Go.Sort

theorem OwnPath.form {w : World} {base : Nat} {v : Value} {p : List Int × List Int} (h : OwnPath w base v p) : ∃ a n c a' n' c', v = .agg #[.slice a n c, .slice a' n' c'] := by
  obtain ⟨u1, u2, rfl, o1, o2, _⟩ := h
  obtain ⟨a, n, c, rfl⟩ := own_is_slice o1
  obtain ⟨a', n', c', rfl⟩ := own_is_slice o2
  exact ⟨_, _, _, _, _, _, rfl⟩

set_option maxHeartbeats 1000000 in
theorem implRun {w : World} {v : Value} {rs : List Int} {start : Int} (h : Ints w v rs) (hst : -9223372036854775808 ≤ start ∧ start ≤ 9223372036854775807) :
    Calls Try.prog 37 #[.int .i64 start, v] w (MadePathB w (runOf start rs) (runB start rs)) := by
  have q0 := below_alloc w (.cells #[.slice none 0 0, .slice none 0 0] 44)
  have pr := Pair.new w (.slice none 0 0) (.slice none 0 0) 44
  have sz : (w.alloc (.cells #[.slice none 0 0, .slice none 0 0] 44)).heap.size = w.heap.size + 1 := Go.Deep.nblk_alloc _ _
  obtain ⟨W, hW⟩ : ∃ X, X = w.alloc (.cells #[.slice none 0 0, .slice none 0 0] 44) := ⟨_, rfl⟩
  rw [← hW] at q0 pr sz
  have FT := Lib.hid (fit0 (h.below q0) hst)
  have hl := h.len
  obtain ⟨a, cap, rfl, -, -⟩ := h
  have HW := Lib.hid hW.symm
  have PR := Lib.hid pr
  clear hW pr
  go_enter Try.func37, Try.ntmps37
  go_wp2_with fail
  rw [HW.out]
  refine FT.out.mono ?_
  rintro e w1 ⟨v, rfl, ov, b1⟩
  obtain ⟨a1, n1, c1, a2, n2, c2, rfl⟩ := ov.form
  have pr1 := PR.out.below b1
  have k2 := pr1.cell0
  have k3 := pr1.cell1
  have k4 := pr1.frozen 0
  have k5 := pr1.frozen 1
  have pr2 := stored_pair (x' := .slice a1 n1 c1) (y' := .slice a2 n2 c2) pr1
  have k6 := pr2.cell0
  have k7 := pr2.cell1
  have C1 := Lib.hid (((q0.trans (b1.mono q0.size)).setCell (p := ⟨w.heap.size, 0, none⟩) (Nat.le_refl _) (.slice a1 n1 c1)).setCell (p := ⟨w.heap.size, 1, none⟩) (Nat.le_refl _) (.slice a2 n2 c2))
  have PO := Lib.hid (((ov.setApart (c := w.heap.size) (by omega) 0 (.slice a1 n1 c1)).setApart (c := w.heap.size) (by omega) 1 (.slice a2 n2 c2)).mono (base' := w.heap.size) (by omega))
  clear pr1 pr2 ov b1
  go_wp2_with fail
  exact bodyPost_ret (v := .tuple #[.agg #[.slice a1 n1 c1, .slice a2 n2 c2], .bool (runB start rs)]) (by simp [results, Try.results37, go_sem, k6, k7]) rfl (made_path PO.out C1.out rfl rfl)

set_option maxHeartbeats 1000000 in
theorem specRuns {w : World} {v : Value} {rs : List Int} (h : Ints w v rs) :
    Calls Try.prog 77 #[.int .i64 rs.length, v] w fun e w' => e = .returned (.bool (decide (GoodTo rs rs.length ∧ 1 ≤ (rs.length : Int) ∧ (rs.length : Int) ≤ 5))) ∧ w = w' := by
  obtain ⟨a, cap, rfl, hl, hc⟩ := h
  rcases hc with rfl | ⟨b, o, rfl, hb, hcell⟩
  · go_enter Try.func77, Try.ntmps77
    go_wp2_with fail
    refine wp_loop_rounds 1 ?_
    rw [rounds_succ]
    go_wp2_with fail
    refine (in_no _ _ _ _ (by simp)).mono ?_
    rintro e w' ⟨rfl, rfl⟩
    go_wp2_with fail
    go_ret
    exact ⟨ret_bool (decide_eq_false (fun q => by have := q.2.1; simp at this)).symm, rfl⟩
  · have HC := Lib.hid hcell
    have hl' : (rs.length : Int) ≤ 1048576 := by omega
    clear hcell
    go_enter Try.func77, Try.ntmps77
    go_wp2_with fail
    go_loop [5] (fun i => ∃ k : Nat, k ≤ rs.length ∧ i = .int .i64 k ∧ Hid (GoodTo rs k)) (fun i => rs.length - (intOf i).toNat)
    case atStart => exact ⟨0, by omega, rfl, GoodTo.zero _⟩
    case round =>
      obtain ⟨k, hk, rfl, hg⟩ := hrel
      by_cases hlt : k < rs.length
      · have ec := HC.out k hlt
        obtain ⟨r, hr⟩ : ∃ r, r = rs.getD k 0 := ⟨_, rfl⟩
        rw [← hr] at ec
        have R := Lib.hid hr
        have hki : (k : Int) < (rs.length : Int) := by omega
        clear hr
        by_cases h1 : 1 ≤ r ∧ r ≤ 100
        · have HS := Lib.hid (hg.out.succ (by rw [← R.out]; exact h1))
          have H1 := Lib.hid h1
          clear h1
          go_wp2_with (go_at_call 72; refine (in_yes _ _ _ _ H1.out.1 H1.out.2).mono ?_; rintro e w' ⟨rfl, rfl⟩)
          go_round
          case rel => exact ⟨k + 1, by omega, by go_num, HS⟩
          case measure => simp [intOf]; omega
        · have HN := Lib.hid (show decide (GoodTo rs rs.length ∧ 1 ≤ (rs.length : Int) ∧ (rs.length : Int) ≤ 5) = false from decide_eq_false (fun q => h1 (by rw [R.out]; exact q.1 k hlt)))
          have H1 := Lib.hid (show r < 1 ∨ 100 < r by omega)
          clear h1
          go_wp2_with (go_at_call 72; refine (in_no _ _ _ _ H1.out).mono ?_; rintro e w' ⟨rfl, rfl⟩)
          go_ret
          exact ⟨ret_bool HN.out.symm, rfl⟩
      · obtain rfl : k = rs.length := by omega
        by_cases h5 : 1 ≤ (rs.length : Int) ∧ (rs.length : Int) ≤ 5
        · have HN := Lib.hid (show decide (GoodTo rs rs.length ∧ 1 ≤ (rs.length : Int) ∧ (rs.length : Int) ≤ 5) = true from decide_eq_true ⟨hg.out, h5⟩)
          have H5 := Lib.hid h5
          clear h5
          go_wp2_with (go_at_call 72; refine (in_yes _ _ _ _ H5.out.1 H5.out.2).mono ?_; rintro e w' ⟨rfl, rfl⟩)
          go_ret
          exact ⟨ret_bool HN.out.symm, rfl⟩
        · have HN := Lib.hid (show decide (GoodTo rs rs.length ∧ 1 ≤ (rs.length : Int) ∧ (rs.length : Int) ≤ 5) = false from decide_eq_false (fun q => h5 q.2))
          have H5 := Lib.hid (show (rs.length : Int) < 1 ∨ 5 < (rs.length : Int) by omega)
          clear h5
          go_wp2_with (go_at_call 72; refine (in_no _ _ _ _ H5.out).mono ?_; rintro e w' ⟨rfl, rfl⟩)
          go_ret
          exact ⟨ret_bool HN.out.symm, rfl⟩

set_option maxHeartbeats 4000000 in
theorem specRun {w : World} {v : Value} {rs : List Int} {start : Int} (h : Ints w v rs) :
    Calls Try.prog 38 #[.int .i64 start, v] w (MadePathB w (runOf start rs) (runB start rs)) := by
  have q0 := below_alloc w (.cells #[.slice none 0 0, .slice none 0 0] 44)
  have pr := Pair.new w (.slice none 0 0) (.slice none 0 0) 44
  have sz : (w.alloc (.cells #[.slice none 0 0, .slice none 0 0] 44)).heap.size = w.heap.size + 1 := Go.Deep.nblk_alloc _ _
  obtain ⟨W, hW⟩ : ∃ X, X = w.alloc (.cells #[.slice none 0 0, .slice none 0 0] 44) := ⟨_, rfl⟩
  rw [← hW] at q0 pr sz
  have SR := Lib.hid (specRuns (h.below q0))
  obtain ⟨a, cap, rfl, hl, hc⟩ := h
  have HW := Lib.hid hW.symm
  have k2 := pr.cell0
  have k3 := pr.cell1
  have k4 := pr.frozen 0
  have k5 := pr.frozen 1
  have pr2 := stored_pair (x' := .slice none 0 0) (y' := .slice none 0 0) pr
  have k6 := pr2.cell0
  have k7 := pr2.cell1
  have C1 := Lib.hid ((q0.setCell (p := ⟨w.heap.size, 0, none⟩) (Nat.le_refl _) (.slice none 0 0)).setCell (p := ⟨w.heap.size, 1, none⟩) (Nat.le_refl _) (.slice none 0 0))
  have PR := Lib.hid pr
  clear hW pr pr2
  by_cases hg : GoodTo rs rs.length ∧ 1 ≤ (rs.length : Int) ∧ (rs.length : Int) ≤ 5
  · have HD := Lib.hid (decide_eq_true hg)
    by_cases hs : 0 ≤ start ∧ start ≤ 2000
    · obtain ⟨hs0, hs1⟩ := hs
      obtain ⟨hgd, hn1, hn5⟩ := hg
      rcases hc with rfl | ⟨b, o, rfl, hb, hcell⟩
      · simp at hn1
      have HC := Lib.hid hcell
      have GD := Lib.hid hgd
      obtain ⟨i0, hi, hz0, hz1, hz2⟩ := info_parts info_int
      clear hcell hgd k2 k3 k4 k5 k6 k7 C1
      have ea := below_alloc W (.cells #[] 3)
      have oa := own_empty W
      have sa : (W.alloc (.cells #[] 3)).heap.size = W.heap.size + 1 := Go.Deep.nblk_alloc _ _
      obtain ⟨Wa, hWa⟩ : ∃ X, X = W.alloc (.cells #[] 3) := ⟨_, rfl⟩
      rw [← hWa] at ea oa sa
      have eb := below_alloc Wa (.cells #[] 3)
      have ob := own_empty Wa
      have sb : (Wa.alloc (.cells #[] 3)).heap.size = Wa.heap.size + 1 := Go.Deep.nblk_alloc _ _
      obtain ⟨Wb, hWb⟩ : ∃ X, X = Wa.alloc (.cells #[] 3) := ⟨_, rfl⟩
      rw [← hWb] at eb ob sb
      have ec := below_alloc Wb (.cells #[.slice (some ⟨W.heap.size, 0, none⟩) 0 0, .slice (some ⟨Wa.heap.size, 0, none⟩) 0 0] 44)
      have pc := Pair.new Wb (.slice (some ⟨W.heap.size, 0, none⟩) 0 0) (.slice (some ⟨Wa.heap.size, 0, none⟩) 0 0) 44
      obtain ⟨Wc, hWc⟩ : ∃ X, X = Wb.alloc (.cells #[.slice (some ⟨W.heap.size, 0, none⟩) 0 0, .slice (some ⟨Wa.heap.size, 0, none⟩) 0 0] 44) := ⟨_, rfl⟩
      rw [← hWc] at ec pc
      have hE := (ea.trans (eb.mono ea.size)).trans (ec.mono (Nat.le_trans ea.size eb.size))
      have hbd : Building Wc W.heap.size Wb.heap.size (pathTo start rs 0) := ⟨_, _, pc, by omega, (oa.below eb).below ec, ((ob.below ec).mono (by omega)), .inr (by simp only [Value.ownBlock]; intro e; simp only [Option.some.injEq] at e; omega), .inr (by simp only [Value.ownBlock]; intro e; simp only [Option.some.injEq] at e; omega), by simp only [Value.ownBlock]; intro e; simp only [Option.some.injEq] at e; omega, by simp only [Value.ownBlock]; intro e; simp only [Option.some.injEq] at e; omega⟩
      have HWW := Lib.hid (show ((W.alloc (.cells #[] 3)).alloc (.cells #[] 3)).alloc (.cells #[.slice (some ⟨w.heap.size + 1, 0, none⟩) 0 0, .slice (some ⟨w.heap.size + 1 + 1, 0, none⟩) 0 0] 44) = Wc by rw [hWc, ← sz, ← sa, hWb, hWa])
      rw [sb, sa, sz] at hbd
      have SZ := Lib.hid sz
      have hbw : b < W.heap.size := by omega
      have EC := Lib.hid (fun i hi => (q0.cell (p := ⟨b, o + i, none⟩) hb).trans (HC.out i hi))
      have Q0 := Lib.hid q0
      have sW1 : W.heap.size = w.heap.size + 1 := sz
      clear hWa hWb hWc sa sb oa ob pc ea eb ec sz q0
      go_enter Try.func38, Try.ntmps38
      go_upto_region 1 with fail
      rw [HW.out]
      go_wp2_with fail
      refine SR.out.mono ?_
      rintro e w' ⟨rfl, rfl⟩
      rw [HD.out]
      go_wp2_with (go_at_call 72; refine (in_yes _ _ _ _ hs0 hs1).mono ?_; rintro e w' ⟨rfl, rfl⟩)
      rw [HWW.out]
      clear sW1
      go_loopw [0, 7] (fun r i wr => ∃ k : Nat, k ≤ rs.length ∧ i = .int .i64 k ∧ r = .int .i64 (runTo start rs k) ∧ Building wr (w.heap.size + 1) (w.heap.size + 1 + 1 + 1) (pathTo start rs k) ∧ Below W.heap.size W wr) (fun _ i _ => rs.length - (intOf i).toNat)
      case atStart => exact ⟨0, by omega, rfl, rfl, hbd, hE⟩
      case round =>
        obtain ⟨k, hk, rfl, rfl, hbu, hbel⟩ := hrel
        have hbd2 := runTo_bounds hs0 GD.out k (by omega)
        obtain ⟨t, ht⟩ : ∃ t, t = runTo start rs k := ⟨_, rfl⟩
        rw [← ht] at hbd2 ⊢
        have T := Lib.hid ht
        have hlen1 := (pathTo_len start rs k).1
        have hlen2 := (pathTo_len start rs k).2
        clear ht
        by_cases hlt : k < rs.length
        · obtain ⟨x, hx⟩ : ∃ x, x = rs.getD k 0 := ⟨_, rfl⟩
          have hgk := GD.out k hlt
          rw [← hx] at hgk
          have hgk1 : 1 ≤ x := hgk.1
          have hgk2 : x ≤ 100 := hgk.2
          have ec0 := EC.out k hlt
          rw [← hx] at ec0
          have XX := Lib.hid hx
          have E0 := Lib.hid ec0
          have hki : (k : Int) < (rs.length : Int) := by omega
          have hw : IntKind.i64.wrap (t + x) = t + x := IntWalk.i64_in _ (by omega)
          have hw' : wrap64 (t + x) = t + x := (IntWalk.i64_left _).symm.trans hw
          have HT := Lib.hid (show runTo start rs (k + 1) = t + x by rw [T.out, XX.out]; rfl)
          have HT0 := Lib.hid (show runTo start rs k = t from T.out.symm)
          obtain ⟨u1, u2, hp, hB, o1, o2, a1, a2, n1, n2⟩ := hbu
          have hlt0 := hp.lt
          have c0 := hp.cell0
          have HP := Lib.hid hp
          have hown := o1
          unfold OwnI at hown
          rw [hlen1] at hown
          obtain ⟨av, cv, rfl⟩ := own_slice3 hown
          have hsz : w.heap.size + 1 ≤ wr.heap.size := by omega
          have O1 := Lib.hid o1
          have O2 := Lib.hid o2
          have AA := Lib.hid (And.intro a1 a2)
          have NN := Lib.hid (And.intro n1 n2)
          have HL := Lib.hid (And.intro hlen1 hlen2)
          have HG := Lib.hid hgk
          clear hp o1 o2 a1 a2 n1 n2 hx hlen1 hlen2 hgk ec0 hbd2
          go_wp2_with (at_builtin; refine wpList_append_own_at _ rfl _ _ 23 rfl (w.heap.size + 1) 3 i0 (.int .i64 0) 1 8 Try.underlying23 hi hz0 hz1 hz2 rfl (by decide) _ _ _ rfl (hown.alloc _) ⟨wr.heap.size, 0, none⟩ 1 1 [.int .i64 t] rfl rfl ?c1 ?c2 ?c3 ?c4 ?c5 ?_)
          case c1 => exact cell_one_new _ _ _
          case c2 => intro u hu; simp at hu; subst hu; rfl
          case c3 => simp only [maxLen]; omega
          case c4 => omega
          case c5 => simp; omega
          intro v' w2 hown' hgrow _ hat
          have ho' : OwnI w2 (w.heap.size + 1) v' ((pathTo start rs k).1 ++ [t]) := by
            unfold OwnI
            rw [List.length_append, List.map_append, HL.out.1]
            exact hown'
          have hp2 := (HP.out.alloc (.cells #[.int .i64 t] 3)).of (hgrow.block _ (HP.out.alloc (.cells #[.int .i64 t] 3)).lt (fun e => NN.out.1 e.symm))
          have hB3 : Building (w2.setCell ⟨w.heap.size + 1 + 1 + 1, 0, none⟩ v') (w.heap.size + 1) (w.heap.size + 1 + 1 + 1) ((pathTo start rs k).1 ++ [t], (pathTo start rs k).2) := Building.in1 HP.out hB O1.out O2.out AA.out.2 NN.out.1 NN.out.2 rfl ho' hgrow (hat.imp_right (fun e c q => by rw [e] at q; cases q; exact Nat.le_of_eq (Go.Deep.nblk_alloc _ _)))
          have hWb : Below W.heap.size W (w2.setCell ⟨w.heap.size + 1 + 1 + 1, 0, none⟩ v') := ((hbel.alloc (by rw [SZ.out]; exact hsz) (.cells #[.int .i64 t] 3)).grown hgrow (by rw [Go.Deep.nblk_alloc, SZ.out]; omega) (fun g hg => by rw [SZ.out]; exact (hown.lt g hg).1)).setCell (by rw [SZ.out]; exact hB) v'
          obtain ⟨av', cv', rfl⟩ := own_slice3 hown'
          have c1 := hp2.cell0
          have f1 := hp2.frozen 0
          obtain ⟨w3, h3⟩ : ∃ X, X = w2.setCell ⟨w.heap.size + 1 + 1 + 1, 0, none⟩ (.slice av' (k + 1) cv') := ⟨_, rfl⟩
          rw [← h3] at hB3 hWb
          have H3 := Lib.hid h3.symm
          have ec1 := (hWb.cell (p := ⟨b, o + k, none⟩) hbw).trans E0.out
          clear h3 hp2 ho' hown' hgrow hat hown O1 O2 AA NN HP c0 hbel
          go_upto_region 8 with fail
          rw [H3.out]
          clear c1 f1
          obtain ⟨u1', u2', hp, -, o1, o2, a1, a2, n1, n2⟩ := hB3
          have hlt1 := hp.lt
          have c0 := hp.cell1
          have HP := Lib.hid hp
          have hown := o2
          unfold OwnI at hown
          rw [HL.out.2] at hown
          obtain ⟨av2, cv2, rfl⟩ := own_slice3 hown
          have hsz3 : w.heap.size + 1 ≤ w3.heap.size := by omega
          have O1 := Lib.hid o1
          have O2 := Lib.hid o2
          have AA := Lib.hid (And.intro a1 a2)
          have NN := Lib.hid (And.intro n1 n2)
          clear hp o1 o2 a1 a2 n1 n2
          go_wp2_with (at_builtin; refine wpList_append_own_at _ rfl _ _ 23 rfl (w.heap.size + 1) 3 i0 (.int .i64 0) 1 8 Try.underlying23 hi hz0 hz1 hz2 rfl (by decide) _ _ _ rfl (hown.alloc _) ⟨w3.heap.size, 0, none⟩ 1 1 [.int .i64 (t + x)] rfl rfl ?d1 ?d2 ?d3 ?d4 ?d5 ?_)
          case d2 => rfl
          case d3 => simp only [maxLen]; omega
          case d4 => omega
          case d5 => omega
          intro v' w4 hown' hgrow _ hat
          have ho' : OwnI w4 (w.heap.size + 1) v' ((pathTo start rs k).2 ++ [t + x]) := by
            unfold OwnI
            rw [List.length_append, List.map_append, HL.out.2]
            exact hown'
          have hp2 := (HP.out.alloc (.cells #[.int .i64 (t + x)] 3)).of (hgrow.block _ (HP.out.alloc (.cells #[.int .i64 (t + x)] 3)).lt (fun e => NN.out.2 e.symm))
          have hB4 : Building (w4.setCell ⟨w.heap.size + 1 + 1 + 1, 1, none⟩ v') (w.heap.size + 1) (w.heap.size + 1 + 1 + 1) ((pathTo start rs k).1 ++ [t], (pathTo start rs k).2 ++ [t + x]) := Building.in2 (p := ((pathTo start rs k).1 ++ [t], (pathTo start rs k).2)) HP.out hB O1.out O2.out AA.out.1 NN.out.1 NN.out.2 rfl ho' hgrow (hat.imp_right (fun e c q => by rw [e] at q; cases q; exact Nat.le_of_eq (Go.Deep.nblk_alloc _ _)))
          have hW4 : Below W.heap.size W (w4.setCell ⟨w.heap.size + 1 + 1 + 1, 1, none⟩ v') := ((hWb.alloc (by rw [SZ.out]; exact hsz3) (.cells #[.int .i64 (t + x)] 3)).grown hgrow (by rw [Go.Deep.nblk_alloc, SZ.out]; omega) (fun g hg => by rw [SZ.out]; exact (hown.lt g hg).1)).setCell (by rw [SZ.out]; exact hB) v'
          obtain ⟨av3, cv3, rfl⟩ := own_slice3 hown'
          have c1 := hp2.cell1
          have f1 := hp2.frozen 1
          have hpe : pathTo start rs (k + 1) = ((pathTo start rs k).1 ++ [t], (pathTo start rs k).2 ++ [t + x]) := by
            have e1 := pathTo_succ1 start rs k
            have e2 := pathTo_succ2 start rs k
            rw [HT0.out] at e1
            rw [HT.out] at e2
            exact Prod.ext e1 e2
          rw [← hpe] at hB4
          have HB4 := Lib.hid hB4
          have HW4 := Lib.hid hW4
          clear hW4 hB4 hp2 ho' hown' hgrow hat hown O1 O2 AA NN HP c0 hpe hWb
          go_wp2_with fail
          go_roundw
          case rel => exact ⟨k + 1, by omega, by go_num, ret_val HT.out.symm, HB4.out, HW4.out⟩
          case measure => simp [intOf]; omega
        · obtain rfl : k = rs.length := by omega
          have PB := Lib.hid (path_of_runs hs0 hn1 hn5 GD.out)
          obtain ⟨a1, m1, c1, a2, m2, c2, pf, po⟩ := hbu.own
          have SV := Lib.hid (specValid (n := rs.length) (po.pathV (by rw [hlen1]; omega) (by rw [hlen2]; omega)))
          rw [PB.out] at SV
          have k0 := pf.cell0
          have k1 := pf.cell1
          have hbelw := (Q0.out).trans (hbel.mono Q0.out.size)
          cases hb2 : runB start rs
          · rw [hb2] at SV
            have HN := Lib.hid hb2
            clear hb2
            go_wp2_with (go_at_call 78; refine SV.out.mono ?_)
            rintro e w1 ⟨rfl, b1⟩
            have pr1 := (PR.out.below hbel).below b1
            have k2 := pr1.cell0
            have k3 := pr1.cell1
            have k4 := pr1.frozen 0
            have k5 := pr1.frozen 1
            have pr2 := stored_pair (x' := .slice none 0 0) (y' := .slice none 0 0) pr1
            have k6 := pr2.cell0
            have k7 := pr2.cell1
            have C1 := Lib.hid (((hbelw.trans (b1.mono hbelw.size)).setCell (p := ⟨w.heap.size, 0, none⟩) (Nat.le_refl _) (.slice none 0 0)).setCell (p := ⟨w.heap.size, 1, none⟩) (Nat.le_refl _) (.slice none 0 0))
            clear pr1 pr2 b1
            go_wp2_with fail
            exact bodyPost_ret (v := .tuple #[.agg #[.slice none 0 0, .slice none 0 0], .bool false]) (by simp [results, Try.results38, go_sem, k6, k7]) rfl (made_path (nil_path _ _) C1.out (runOf_no HN.out).symm HN.out.symm)
          · rw [hb2] at SV
            have HY := Lib.hid hb2
            clear hb2
            go_wp2_with (go_at_call 78; refine SV.out.mono ?_)
            rintro e w1 ⟨rfl, b1⟩
            have pf1 := pf.below b1
            have po1 := po.below b1
            have j0 := pf1.cell0
            have j1 := pf1.cell1
            have pr1 := (PR.out.below hbel).below b1
            have k2 := pr1.cell0
            have k3 := pr1.cell1
            have k4 := pr1.frozen 0
            have k5 := pr1.frozen 1
            have pr2 := stored_pair (x' := .slice a1 m1 c1) (y' := .slice a2 m2 c2) pr1
            have k6 := pr2.cell0
            have k7 := pr2.cell1
            have C1 := Lib.hid (((hbelw.trans (b1.mono hbelw.size)).setCell (p := ⟨w.heap.size, 0, none⟩) (Nat.le_refl _) (.slice a1 m1 c1)).setCell (p := ⟨w.heap.size, 1, none⟩) (Nat.le_refl _) (.slice a2 m2 c2))
            have PO := Lib.hid (((po1.setApart (c := w.heap.size) (by omega) 0 (.slice a1 m1 c1)).setApart (c := w.heap.size) (by omega) 1 (.slice a2 m2 c2)).mono (base' := w.heap.size) (by omega))
            clear pr1 pr2 b1 pf1 po1 pf po k0 k1
            go_wp2_with fail
            exact bodyPost_ret (v := .tuple #[.agg #[.slice a1 m1 c1, .slice a2 m2 c2], .bool true]) (by simp [results, Try.results38, go_sem, k6, k7]) rfl (made_path PO.out C1.out (runOf_yes HY.out).symm HY.out.symm)
    · have HN := Lib.hid (runB_start (start := start) (rs := rs) (by omega))
      have HS := Lib.hid (show start < 0 ∨ 2000 < start by omega)
      clear hs hg hc
      go_enter Try.func38, Try.ntmps38
      go_upto_region 1 with fail
      rw [HW.out]
      go_wp2_with fail
      refine SR.out.mono ?_
      rintro e w' ⟨rfl, rfl⟩
      rw [HD.out]
      go_wp2_with (go_at_call 72; refine (in_no _ _ _ _ HS.out).mono ?_; rintro e w' ⟨rfl, rfl⟩)
      exact bodyPost_ret (v := .tuple #[.agg #[.slice none 0 0, .slice none 0 0], .bool false]) (by simp [results, Try.results38, go_sem, k6, k7]) rfl (made_path (nil_path _ _) C1.out (runOf_no HN.out).symm HN.out.symm)
  · have HD := Lib.hid (decide_eq_false hg)
    have HN := Lib.hid (runB_bad (start := start) hg)
    clear hg hc
    go_enter Try.func38, Try.ntmps38
    go_upto_region 1 with fail
    rw [HW.out]
    go_wp2_with fail
    refine SR.out.mono ?_
    rintro e w' ⟨rfl, rfl⟩
    rw [HD.out]
    go_wp2_with fail
    exact bodyPost_ret (v := .tuple #[.agg #[.slice none 0 0, .slice none 0 0], .bool false]) (by simp [results, Try.results38, go_sem, k6, k7]) rfl (made_path (nil_path _ _) C1.out (runOf_no HN.out).symm HN.out.symm)

end Go.Proofs.Ytoebgdcgcdigaaa
