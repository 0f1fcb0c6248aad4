/-
  The path that is fitted in, by the model.
-/
import Derived.Test.YtoebgdcgcdigaabFreeS
import Derived.Test.YtoebgdcgcdigaabRun
import Derived.Test.YtoebgdcgcdigaabPathP
namespace Go.Proofs.Ytoebgdcgcdigaab
open Go.RowKit Go.Sort

set_option maxHeartbeats 1000000 in
theorem specRunsN {w : World} {v : Value} {n : Int} {rs : List Int} (h : Ints w v rs) :
    Calls Try.prog 46 #[.int .i64 n, v] w fun e w' => e = .returned (.bool (decide (GoodTo rs rs.length ∧ (rs.length : Int) = n ∧ 1 ≤ n ∧ n ≤ 5))) ∧ w = w' := by
  obtain ⟨a, cap, rfl, hl, hc⟩ := h
  rcases hc with rfl | ⟨b, o, rfl, hb, hcell⟩
  · by_cases hn0 : n = 0
    · subst hn0
      go_enter Try.func46, Try.ntmps46
      go_wp2_with fail
      refine wp_loop_rounds 1 ?_
      rw [rounds_succ]
      go_wp2_with fail
      refine (in_no _ _ _ _ (by simp)).mono ?_
      rintro e w' ⟨rfl, rfl⟩
      go_wp2_with fail
      go_ret
      exact ⟨ret_bool (decide_eq_false (fun q => by have := q.2.2.1; omega)).symm, rfl⟩
    · have hn0' : ((0 : Int) == n) = false := by simpa using fun e => hn0 e.symm
      have HN := Lib.hid (show decide (GoodTo [] ([] : List Int).length ∧ ((([] : List Int).length : Nat) : Int) = n ∧ 1 ≤ n ∧ n ≤ 5) = false from decide_eq_false (fun q => hn0 (by have := q.2.1; simp at this; exact this.symm)))
      clear hn0
      go_enter Try.func46, Try.ntmps46
      go_wp2_with fail
      refine wp_loop_rounds 1 ?_
      rw [rounds_succ]
      go_wp2_with fail
      go_ret
      exact ⟨ret_bool HN.out.symm, rfl⟩
  · have HC := Lib.hid hcell
    have hl' : (rs.length : Int) ≤ 1048576 := by omega
    clear hcell
    go_enter Try.func46, Try.ntmps46
    go_wp2_with fail
    go_loop [5] (fun i => ∃ k : Nat, k ≤ rs.length ∧ i = .int .i64 k ∧ Hid (GoodTo rs k)) (fun i => rs.length - (intOf i).toNat)
    case atStart => exact ⟨0, by omega, rfl, GoodTo.zero _⟩
    case round =>
      obtain ⟨k, hk, rfl, hg⟩ := hrel
      by_cases hlt : k < rs.length
      · have ec := HC.out k hlt
        obtain ⟨r, hr⟩ : ∃ r, r = rs.getD k 0 := ⟨_, rfl⟩
        rw [← hr] at ec
        have R := Lib.hid hr
        have hki : (k : Int) < (rs.length : Int) := by omega
        clear hr
        by_cases h1 : 1 ≤ r ∧ r ≤ 100
        · have HS := Lib.hid (hg.out.succ (by rw [← R.out]; exact h1))
          have H1 := Lib.hid h1
          clear h1
          go_wp2_with (go_at_call 41; refine (in_yes _ _ _ _ H1.out.1 H1.out.2).mono ?_; rintro e w' ⟨rfl, rfl⟩)
          go_round
          case rel => exact ⟨k + 1, by omega, by go_num, HS⟩
          case measure => simp [intOf]; omega
        · have HN := Lib.hid (show decide (GoodTo rs rs.length ∧ (rs.length : Int) = n ∧ 1 ≤ n ∧ n ≤ 5) = false from decide_eq_false (fun q => h1 (by rw [R.out]; exact q.1 k hlt)))
          have H1 := Lib.hid (show r < 1 ∨ 100 < r by omega)
          clear h1
          go_wp2_with (go_at_call 41; refine (in_no _ _ _ _ H1.out).mono ?_; rintro e w' ⟨rfl, rfl⟩)
          go_ret
          exact ⟨ret_bool HN.out.symm, rfl⟩
      · obtain rfl : k = rs.length := by omega
        by_cases hnl : (rs.length : Int) = n
        · have hnl' : ((rs.length : Int) == n) = true := by simpa using hnl
          by_cases h5 : 1 ≤ n ∧ n ≤ 5
          · have HN := Lib.hid (show decide (GoodTo rs rs.length ∧ (rs.length : Int) = n ∧ 1 ≤ n ∧ n ≤ 5) = true from decide_eq_true ⟨hg.out, hnl, h5⟩)
            have H5 := Lib.hid h5
            clear h5 hnl
            go_wp2_with (go_at_call 41; refine (in_yes _ _ _ _ H5.out.1 H5.out.2).mono ?_; rintro e w' ⟨rfl, rfl⟩)
            go_ret
            exact ⟨ret_bool HN.out.symm, rfl⟩
          · have HN := Lib.hid (show decide (GoodTo rs rs.length ∧ (rs.length : Int) = n ∧ 1 ≤ n ∧ n ≤ 5) = false from decide_eq_false (fun q => h5 q.2.2))
            have H5 := Lib.hid (show n < 1 ∨ 5 < n by omega)
            clear h5 hnl
            go_wp2_with (go_at_call 41; refine (in_no _ _ _ _ H5.out).mono ?_; rintro e w' ⟨rfl, rfl⟩)
            go_ret
            exact ⟨ret_bool HN.out.symm, rfl⟩
        · have hnl' : ((rs.length : Int) == n) = false := by simpa using hnl
          have HN := Lib.hid (show decide (GoodTo rs rs.length ∧ (rs.length : Int) = n ∧ 1 ≤ n ∧ n ≤ 5) = false from decide_eq_false (fun q => hnl q.2.1))
          clear hnl
          go_wp2_with fail
          go_ret
          exact ⟨ret_bool (by have q := HN.out; simp only [Bool.decide_and] at q; exact q.symm), rfl⟩


set_option maxHeartbeats 4000000 in
theorem specFit {w : World} {u v : Value} {n s : Int} {ps : List (List Int × List Int)} {rs : List Int} (hu : Paths w u ps) (h : Ints w v rs) :
    Calls Try.prog 18 #[.int .i64 n, u, .int .i64 s, v] w (MadePathB w (fitV n ps s rs) (fitB n ps s rs)) := by
  have q0 := below_alloc w (.cells #[.slice none 0 0, .slice none 0 0] 32)
  have pr := Pair.new w (.slice none 0 0) (.slice none 0 0) 32
  have sz : (w.alloc (.cells #[.slice none 0 0, .slice none 0 0] 32)).heap.size = w.heap.size + 1 := Go.Deep.nblk_alloc _ _
  obtain ⟨W, hW⟩ : ∃ X, X = w.alloc (.cells #[.slice none 0 0, .slice none 0 0] 32) := ⟨_, rfl⟩
  rw [← hW] at q0 pr sz
  have SV := Lib.hid (specPaths (n := n) (hu.below q0))
  have SR := Lib.hid (fun (X : World) (b : Below W.heap.size W X) => specRunsN (n := n) ((h.below q0).below b))
  have HU := Lib.hid hu
  obtain ⟨a, cap, rfl, hl, hc⟩ := h
  have HW := Lib.hid hW.symm
  have PR := Lib.hid pr
  have Q0 := Lib.hid q0
  have SZ := Lib.hid sz
  clear hW pr hu q0 sz
  cases hp : pathsB n ps
  · have HN := Lib.hid (fitB_paths (s := s) (rs := rs) hp)
    rw [hp] at SV
    clear hp hc
    go_enter Try.func18, Try.ntmps18
    go_upto_region 1 with fail
    rw [HW.out]
    go_wp2_with (go_at_call 31; refine SV.out.mono ?_)
    rintro e w1 ⟨rfl, b1⟩
    have pr1 := PR.out.below b1
    have k2 := pr1.cell0
    have k3 := pr1.cell1
    have k4 := pr1.frozen 0
    have k5 := pr1.frozen 1
    have bw := Q0.out.trans (b1.mono Q0.out.size)
    have pr2 := stored_pair (x' := .slice none 0 0) (y' := .slice none 0 0) pr1
    have k6 := pr2.cell0
    have k7 := pr2.cell1
    have C1 := Lib.hid ((bw.setCell (p := ⟨w.heap.size, 0, none⟩) (Nat.le_refl _) (.slice none 0 0)).setCell (p := ⟨w.heap.size, 1, none⟩) (Nat.le_refl _) (.slice none 0 0))
    clear pr1 pr2 bw
    go_wp2_with fail
    exact bodyPost_ret (v := .tuple #[.agg #[.slice none 0 0, .slice none 0 0], .bool false]) (by simp [results, Try.results18, go_sem, k6, k7]) rfl (made_path (nil_path _ _) C1.out (fitV_no HN.out).symm HN.out.symm)
  rw [hp] at SV
  by_cases hg : GoodTo rs rs.length ∧ (rs.length : Int) = n ∧ 1 ≤ n ∧ n ≤ 5
  rotate_left
  · have HD := Lib.hid (decide_eq_false hg)
    have HN := Lib.hid (fitB_good (ps := ps) (s := s) hg)
    clear hg hc hp
    go_enter Try.func18, Try.ntmps18
    go_upto_region 1 with fail
    rw [HW.out]
    go_wp2_with (first | (go_at_call 31; refine SV.out.mono ?_))
    rintro e w1 ⟨rfl, b1⟩
    have pr1 := PR.out.below b1
    have k2 := pr1.cell0
    have k3 := pr1.cell1
    have k4 := pr1.frozen 0
    have k5 := pr1.frozen 1
    have bw := Q0.out.trans (b1.mono Q0.out.size)
    have pr2 := stored_pair (x' := .slice none 0 0) (y' := .slice none 0 0) pr1
    have k6 := pr2.cell0
    have k7 := pr2.cell1
    have C1 := Lib.hid ((bw.setCell (p := ⟨w.heap.size, 0, none⟩) (Nat.le_refl _) (.slice none 0 0)).setCell (p := ⟨w.heap.size, 1, none⟩) (Nat.le_refl _) (.slice none 0 0))
    have RU := Lib.hid (SR.out _ b1)
    rw [HD.out] at RU
    clear pr1 pr2 bw
    go_wp2_with (go_at_call 46; refine RU.out.mono ?_; rintro e w' ⟨rfl, rfl⟩)
    exact bodyPost_ret (v := .tuple #[.agg #[.slice none 0 0, .slice none 0 0], .bool false]) (by simp [results, Try.results18, go_sem, k6, k7]) rfl (made_path (nil_path _ _) C1.out (fitV_no HN.out).symm HN.out.symm)
  have HD := Lib.hid (decide_eq_true hg)
  obtain ⟨hgd, hln, hn1, hn5⟩ := hg
  subst hln
  rcases hc with rfl | ⟨b, o, rfl, hb, hcell⟩
  · simp at hn1
  have HC := Lib.hid hcell
  have GD := Lib.hid hgd
  obtain ⟨i0, hi, hz0, hz1, hz2⟩ := info_parts info_int
  have hbw0 : b < w.heap.size := hb
  clear hcell hgd hp
  go_enter Try.func18, Try.ntmps18
  go_upto_region 1 with fail
  rw [HW.out]
  go_wp2_with (go_at_call 31; refine SV.out.mono ?_; rintro e w1 ⟨rfl, b1⟩)
  have RU := Lib.hid (SR.out _ b1)
  rw [HD.out] at RU
  have C0 := Lib.hid (Q0.out.trans (b1.mono Q0.out.size))
  have PR1 := Lib.hid (PR.out.below b1)
  have EC := Lib.hid (fun i hi => (C0.out.cell (p := ⟨b, o + i, none⟩) hb).trans (HC.out i hi))
  have HU1 := Lib.hid (HU.out.below C0.out)
  have hbw : b < w1.heap.size := Nat.lt_of_lt_of_le hb C0.out.size
  have hww : w.heap.size < w1.heap.size := by have := b1.size; have := SZ.out; omega
  have ea := below_alloc w1 (.cells #[] 3)
  have oa := own_empty w1
  have sa : (w1.alloc (.cells #[] 3)).heap.size = w1.heap.size + 1 := Go.Deep.nblk_alloc _ _
  obtain ⟨Wa, hWa⟩ : ∃ X, X = w1.alloc (.cells #[] 3) := ⟨_, rfl⟩
  rw [← hWa] at ea oa sa
  have eb := below_alloc Wa (.cells #[] 3)
  have ob := own_empty Wa
  have sb : (Wa.alloc (.cells #[] 3)).heap.size = Wa.heap.size + 1 := Go.Deep.nblk_alloc _ _
  obtain ⟨Wb, hWb⟩ : ∃ X, X = Wa.alloc (.cells #[] 3) := ⟨_, rfl⟩
  rw [← hWb] at eb ob sb
  have ec := below_alloc Wb (.cells #[.slice (some ⟨w1.heap.size, 0, none⟩) 0 0, .slice (some ⟨Wa.heap.size, 0, none⟩) 0 0] 32)
  have pc := Pair.new Wb (.slice (some ⟨w1.heap.size, 0, none⟩) 0 0) (.slice (some ⟨Wa.heap.size, 0, none⟩) 0 0) 32
  obtain ⟨Wc, hWc⟩ : ∃ X, X = Wb.alloc (.cells #[.slice (some ⟨w1.heap.size, 0, none⟩) 0 0, .slice (some ⟨Wa.heap.size, 0, none⟩) 0 0] 32) := ⟨_, rfl⟩
  rw [← hWc] at ec pc
  have hE := (ea.trans (eb.mono ea.size)).trans (ec.mono (Nat.le_trans ea.size eb.size))
  have hbd : Building Wc w1.heap.size Wb.heap.size (fitPath (rs.length : Int) ps s rs 0) := ⟨_, _, pc, by omega, (oa.below eb).below ec, ((ob.below ec).mono (by omega)), .inr (by simp only [Value.ownBlock]; intro e; simp only [Option.some.injEq] at e; omega), .inr (by simp only [Value.ownBlock]; intro e; simp only [Option.some.injEq] at e; omega), by simp only [Value.ownBlock]; intro e; simp only [Option.some.injEq] at e; omega, by simp only [Value.ownBlock]; intro e; simp only [Option.some.injEq] at e; omega⟩
  have HWW := Lib.hid (show ((w1.alloc (.cells #[] 3)).alloc (.cells #[] 3)).alloc (.cells #[.slice (some ⟨w1.heap.size, 0, none⟩) 0 0, .slice (some ⟨w1.heap.size + 1, 0, none⟩) 0 0] 32) = Wc by rw [hWc, ← sa, hWb, hWa])
  rw [sb, sa] at hbd
  clear hWa hWb hWc sa sb oa ob pc ea eb ec b1
  go_wp2_with (go_at_call 46; refine RU.out.mono ?_; rintro e w' ⟨rfl, rfl⟩)
  rw [HWW.out]
  go_loopw [2, 11] (fun r i wr => ∃ k : Nat, k ≤ rs.length ∧ i = .int .i64 k ∧ r = .int .i64 (fitTo (rs.length : Int) ps s rs k) ∧ Hid (FitsTo (rs.length : Int) ps s rs k) ∧ Building wr w1.heap.size (w1.heap.size + 1 + 1) (fitPath (rs.length : Int) ps s rs k) ∧ Below w1.heap.size w1 wr) (fun _ i _ => rs.length - (intOf i).toNat)
  case atStart => exact ⟨0, by omega, rfl, rfl, FitsTo.zero _ _ _ _, hbd, hE⟩
  case round =>
    obtain ⟨k, hk, rfl, rfl, hrt, hbu, hbel⟩ := hrel
    obtain ⟨t, ht⟩ : ∃ t, t = fitTo (rs.length : Int) ps s rs k := ⟨_, rfl⟩
    rw [← ht]
    have T := Lib.hid ht
    have RT := Lib.hid hrt.out
    have BU := Lib.hid hbu
    have hlen1 := (fitPath_len (rs.length : Int) ps s rs k).1
    have hlen2 := (fitPath_len (rs.length : Int) ps s rs k).2
    have HL := Lib.hid (And.intro hlen1 hlen2)
    have hbelw := C0.out.trans (hbel.mono C0.out.size)
    clear ht hrt hbu hlen1 hlen2
    by_cases hlt : k < rs.length
    · obtain ⟨r, hr⟩ : ∃ r, r = rs.getD k 0 := ⟨_, rfl⟩
      have ec0 := (hbel.cell (p := ⟨b, o + k, none⟩) hbw).trans (EC.out k hlt)
      rw [← hr] at ec0
      have R := Lib.hid hr
      have hki : (k : Int) < (rs.length : Int) := by omega
      have FR := Lib.hid (specFree (n := (rs.length : Int)) (k := (k : Int)) (s := t) (r := r) (HU1.out.below hbel))
      clear hr
      cases hf : fitOk (rs.length : Int) ps s rs k
      · have HN := Lib.hid (fitB_no (n := (rs.length : Int)) hlt hf)
        have HF := Lib.hid (show freeB (rs.length : Int) ps (k : Int) t r = false by rw [T.out, R.out]; exact hf)
        clear hf
        go_wp2_with (go_at_call 15; refine FR.out.mono ?_)
        rintro e w2 ⟨x, bb, rfl, ⟨hx, hbb⟩, b2⟩
        rw [HF.out] at hbb
        subst hbb
        have pr1 := (PR1.out.below hbel).below b2
        have k2 := pr1.cell0
        have k3 := pr1.cell1
        have k4 := pr1.frozen 0
        have k5 := pr1.frozen 1
        have pr2 := stored_pair (x' := .slice none 0 0) (y' := .slice none 0 0) pr1
        have k6 := pr2.cell0
        have k7 := pr2.cell1
        have C1 := Lib.hid (((hbelw.trans (b2.mono hbelw.size)).setCell (p := ⟨w.heap.size, 0, none⟩) (Nat.le_refl _) (.slice none 0 0)).setCell (p := ⟨w.heap.size, 1, none⟩) (Nat.le_refl _) (.slice none 0 0))
        clear pr1 pr2 b2 hx
        go_wp2_with fail
        exact bodyPost_ret (v := .tuple #[.agg #[.slice none 0 0, .slice none 0 0], .bool false]) (by simp [results, Try.results18, go_sem, k6, k7]) rfl (made_path (nil_path _ _) C1.out (fitV_no HN.out).symm HN.out.symm)
      · have HF := Lib.hid (show freeB (rs.length : Int) ps (k : Int) t r = true by rw [T.out, R.out]; exact hf)
        obtain ⟨x, hx⟩ : ∃ x, x = freeV (rs.length : Int) ps (k : Int) t r := ⟨_, rfl⟩
        have hq := (freeB_is HF.out).2
        rw [← hx] at hq
        obtain ⟨⟨hr1, hr2⟩, hx0, hx1⟩ := hq
        have hw : IntKind.i64.wrap (x + r) = x + r := IntWalk.i64_in _ (by omega)
        have hw' : wrap64 (x + r) = x + r := (IntWalk.i64_left _).symm.trans hw
        have HS := Lib.hid (RT.out.succ hf)
        have HI := Lib.hid (show fitIn (rs.length : Int) ps s rs k = x by rw [hx, T.out, R.out]; rfl)
        have HT := Lib.hid (show fitTo (rs.length : Int) ps s rs (k + 1) = x + r by rw [hx, T.out, R.out]; rfl)
        have HPE := Lib.hid (show fitPath (rs.length : Int) ps s rs (k + 1) = ((fitPath (rs.length : Int) ps s rs k).1 ++ [x], (fitPath (rs.length : Int) ps s rs k).2 ++ [x + r]) from Prod.ext (by rw [fitPath_succ1, HI.out]) (by rw [fitPath_succ2, HT.out]))
        have X := Lib.hid hx
        have hk5 : k ≤ 5 := by omega
        clear hf hx
        go_wp2_with (go_at_call 15; refine FR.out.mono ?_)
        rintro e w2 ⟨x', bb, rfl, ⟨hx', hbb⟩, b2⟩
        rw [HF.out] at hbb
        subst hbb
        rw [← X.out] at hx'
        subst hx'
        have hbel2 := hbel.trans (b2.mono hbel.size)
        have ec2 := (hbel2.cell (p := ⟨b, o + k, none⟩) hbw).trans (EC.out k hlt)
        rw [← R.out] at ec2
        obtain ⟨u1, u2, hp, hB, o1, o2, a1, a2, n1, n2⟩ := BU.out.below b2
        have hlt0 := hp.lt
        have c0 := hp.cell0
        have f0 := hp.frozen 0
        have HP := Lib.hid hp
        have hown := o1
        unfold OwnI at hown
        rw [HL.out.1] at hown
        obtain ⟨av, cv, rfl⟩ := own_slice3 hown
        have hsz : w1.heap.size ≤ w2.heap.size := hbel2.size
        have O1 := Lib.hid o1
        have O2 := Lib.hid o2
        have AA := Lib.hid (And.intro a1 a2)
        have NN := Lib.hid (And.intro n1 n2)
        clear hp o1 o2 a1 a2 n1 n2 ec0 b2
        go_wp2_with (at_builtin; refine wpList_append_own_at _ rfl _ _ 27 rfl w1.heap.size 3 i0 (.int .i64 0) 1 8 Try.underlying27 hi hz0 hz1 hz2 rfl (by decide) _ _ _ rfl (hown.alloc _) ⟨w2.heap.size, 0, none⟩ 1 1 [.int .i64 x'] rfl rfl ?c1 ?c2 ?c3 ?c4 ?c5 ?_)
        case c1 => exact cell_one_new _ _ _
        case c2 => intro u hu; simp at hu; subst hu; rfl
        case c3 => simp only [maxLen]; omega
        case c4 => omega
        case c5 => rw [Go.Deep.nblk_alloc]; omega
        intro v' w3 hown' hgrow _ hat
        have ho' : OwnI w3 w1.heap.size v' ((fitPath (rs.length : Int) ps s rs k).1 ++ [x']) := by
          unfold OwnI
          rw [List.length_append, List.map_append, HL.out.1]
          exact hown'
        have hp2 := (HP.out.alloc (.cells #[.int .i64 x'] 3)).of (hgrow.block _ (HP.out.alloc (.cells #[.int .i64 x'] 3)).lt (fun e => NN.out.1 e.symm))
        have hB3 : Building (w3.setCell ⟨w1.heap.size + 1 + 1, 0, none⟩ v') w1.heap.size (w1.heap.size + 1 + 1) ((fitPath (rs.length : Int) ps s rs k).1 ++ [x'], (fitPath (rs.length : Int) ps s rs k).2) := Building.in1 HP.out hB O1.out O2.out AA.out.2 NN.out.1 NN.out.2 rfl ho' hgrow (hat.imp_right (fun e c q => by rw [e] at q; cases q; exact Nat.le_of_eq (Go.Deep.nblk_alloc _ _)))
        have hWb : Below w1.heap.size w1 (w3.setCell ⟨w1.heap.size + 1 + 1, 0, none⟩ v') := ((hbel2.alloc hsz (.cells #[.int .i64 x'] 3)).grown hgrow (by rw [Go.Deep.nblk_alloc]; omega) (fun g hg => (hown.lt g hg).1)).setCell hB v'
        obtain ⟨av', cv', rfl⟩ := own_slice3 hown'
        have c1 := hp2.cell0
        have f1 := hp2.frozen 0
        obtain ⟨w4, h4⟩ : ∃ X, X = w3.setCell ⟨w1.heap.size + 1 + 1, 0, none⟩ (.slice av' (k + 1) cv') := ⟨_, rfl⟩
        rw [← h4] at hB3 hWb
        have H4 := Lib.hid h4.symm
        have ec4 := (hWb.cell (p := ⟨b, o + k, none⟩) hbw).trans (EC.out k hlt)
        rw [← R.out] at ec4
        clear h4 hp2 ho' hown' hgrow hat hown O1 O2 AA NN HP c0 f0 hbel hbel2 hbelw ec2 hsz
        go_upto_region 11 with fail
        rw [H4.out]
        clear c1 f1
        obtain ⟨u1', u2', hp, -, o1, o2, a1, a2, n1, n2⟩ := hB3
        have hlt1 := hp.lt
        have c0 := hp.cell1
        have f0 := hp.frozen 1
        have HP := Lib.hid hp
        have hown := o2
        unfold OwnI at hown
        rw [HL.out.2] at hown
        obtain ⟨av2, cv2, rfl⟩ := own_slice3 hown
        have hsz4 : w1.heap.size ≤ w4.heap.size := hWb.size
        have O1 := Lib.hid o1
        have O2 := Lib.hid o2
        have AA := Lib.hid (And.intro a1 a2)
        have NN := Lib.hid (And.intro n1 n2)
        clear hp o1 o2 a1 a2 n1 n2
        go_wp2_with (at_builtin; refine wpList_append_own_at _ rfl _ _ 27 rfl w1.heap.size 3 i0 (.int .i64 0) 1 8 Try.underlying27 hi hz0 hz1 hz2 rfl (by decide) _ _ _ rfl (hown.alloc _) ⟨w4.heap.size, 0, none⟩ 1 1 [.int .i64 (x' + r)] rfl rfl ?d1 ?d2 ?d3 ?d4 ?d5 ?_)
        case d2 => first | rfl | (intro u hu; simp at hu; subst hu; rfl)
        case d3 => simp only [maxLen]; omega
        case d4 => omega
        case d5 => first | omega | (rw [Go.Deep.nblk_alloc]; omega)
        intro v' w5 hown' hgrow _ hat
        have ho' : OwnI w5 w1.heap.size v' ((fitPath (rs.length : Int) ps s rs k).2 ++ [x' + r]) := by
          unfold OwnI
          rw [List.length_append, List.map_append, HL.out.2]
          exact hown'
        have hp2 := (HP.out.alloc (.cells #[.int .i64 (x' + r)] 3)).of (hgrow.block _ (HP.out.alloc (.cells #[.int .i64 (x' + r)] 3)).lt (fun e => NN.out.2 e.symm))
        have hB4 : Building (w5.setCell ⟨w1.heap.size + 1 + 1, 1, none⟩ v') w1.heap.size (w1.heap.size + 1 + 1) ((fitPath (rs.length : Int) ps s rs k).1 ++ [x'], (fitPath (rs.length : Int) ps s rs k).2 ++ [x' + r]) := Building.in2 (p := ((fitPath (rs.length : Int) ps s rs k).1 ++ [x'], (fitPath (rs.length : Int) ps s rs k).2)) HP.out hB O1.out O2.out AA.out.1 NN.out.1 NN.out.2 rfl ho' hgrow (hat.imp_right (fun e c q => by rw [e] at q; cases q; exact Nat.le_of_eq (Go.Deep.nblk_alloc _ _)))
        have hW4 : Below w1.heap.size w1 (w5.setCell ⟨w1.heap.size + 1 + 1, 1, none⟩ v') := ((hWb.alloc hsz4 (.cells #[.int .i64 (x' + r)] 3)).grown hgrow (by rw [Go.Deep.nblk_alloc]; omega) (fun g hg => (hown.lt g hg).1)).setCell hB v'
        obtain ⟨av3, cv3, rfl⟩ := own_slice3 hown'
        have c1 := hp2.cell1
        have f1 := hp2.frozen 1
        rw [← HPE.out] at hB4
        have HB4 := Lib.hid hB4
        have HW4 := Lib.hid hW4
        clear hW4 hB4 hp2 ho' hown' hgrow hat hown O1 O2 AA NN HP c0 f0 hWb ec4
        go_wp2_with fail
        go_roundw
        case rel => exact ⟨k + 1, by omega, by go_num, ret_val HT.out.symm, HS.out, HB4.out, HW4.out⟩
        case measure => simp [intOf]; omega
    · obtain rfl : k = rs.length := by omega
      have HY := Lib.hid (fitB_yes hn1 hn5 rfl RT.out)
      obtain ⟨a1, m1, c1, a2, m2, c2, pf, po⟩ := BU.out.own
      have j0 := pf.cell0
      have j1 := pf.cell1
      have pr1 := PR1.out.below hbel
      have k2 := pr1.cell0
      have k3 := pr1.cell1
      have k4 := pr1.frozen 0
      have k5 := pr1.frozen 1
      have pr2 := stored_pair (x' := .slice a1 m1 c1) (y' := .slice a2 m2 c2) pr1
      have k6 := pr2.cell0
      have k7 := pr2.cell1
      have C1 := Lib.hid ((hbelw.setCell (p := ⟨w.heap.size, 0, none⟩) (Nat.le_refl _) (.slice a1 m1 c1)).setCell (p := ⟨w.heap.size, 1, none⟩) (Nat.le_refl _) (.slice a2 m2 c2))
      have PO := Lib.hid (((po.setApart (c := w.heap.size) hww 0 (.slice a1 m1 c1)).setApart (c := w.heap.size) hww 1 (.slice a2 m2 c2)).mono (base' := w.heap.size) (by omega))
      clear pr1 pr2 pf po
      go_wp2_with fail
      exact bodyPost_ret (v := .tuple #[.agg #[.slice a1 m1 c1, .slice a2 m2 c2], .bool true]) (by simp [results, Try.results18, go_sem, k6, k7]) rfl (made_path PO.out C1.out (fitV_yes HY.out).symm HY.out.symm)

end Go.Proofs.Ytoebgdcgcdigaab
