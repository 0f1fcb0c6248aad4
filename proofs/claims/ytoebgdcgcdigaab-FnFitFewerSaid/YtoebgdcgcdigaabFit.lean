/-
  The path that is fitted in, by the program.
-/
import Derived.Test.YtoebgdcgcdigaabFree
import Derived.Test.YtoebgdcgcdigaabFit0
import Derived.Test.YtoebgdcgcdigaabPathP
namespace Go.Proofs.Ytoebgdcgcdigaab
open Go.RowKit Go.Sort

set_option maxHeartbeats 4000000 in
theorem implFit {w : World} {u v : Value} {n s : Int} {ps : List (List Int × List Int)} {rs : List Int} (hu : Paths w u ps) (h : Ints w v rs) :
    Calls Try.prog 17 #[.int .i64 n, u, .int .i64 s, v] w (MadePathB w (fitV n ps s rs) (fitB n ps s rs)) := by
  obtain ⟨a, cap, rfl, hl, hc⟩ := h
  by_cases hrn : (rs.length : Int) = n
  rotate_left
  · have HN := Lib.hid (fitB_runs (ps := ps) (s := s) hrn)
    have C1 := Lib.hid (below_alloc w (.cells #[.slice none 0 0, .slice none 0 0] 32))
    have tl : ((rs.length : Int) != n) = true := by simpa using hrn
    have SC := Lib.hid (sections n (w.alloc (.cells #[.slice none 0 0, .slice none 0 0] 32)))
    obtain ⟨D, hD⟩ : ∃ D, D = decide (1 ≤ n ∧ n ≤ 5) := ⟨_, rfl⟩
    rw [← hD] at SC
    clear hc hrn hD hu
    cases D
    · go_enter Try.func17, Try.ntmps17
      go_wp2_with (go_at_call 44; refine SC.out.mono ?_; rintro e w' ⟨rfl, rfl⟩)
      refine bodyPost_ret (v := .tuple #[.agg #[.slice none 0 0, .slice none 0 0], .bool false]) (by simp [results, Try.results17, go_sem]) rfl (made_path (nil_path _ _) C1.out (fitV_no HN.out).symm HN.out.symm)
    · go_enter Try.func17, Try.ntmps17
      go_wp2_with (go_at_call 44; refine SC.out.mono ?_; rintro e w' ⟨rfl, rfl⟩)
      refine bodyPost_ret (v := .tuple #[.agg #[.slice none 0 0, .slice none 0 0], .bool false]) (by simp [results, Try.results17, go_sem]) rfl (made_path (nil_path _ _) C1.out (fitV_no HN.out).symm HN.out.symm)
  subst hrn
  by_cases hn : 1 ≤ (rs.length : Int) ∧ (rs.length : Int) ≤ 5
  · obtain ⟨hn1, hn5⟩ := hn
    rcases hc with rfl | ⟨b, o, rfl, hb, hcell⟩
    · simp at hn1
    have q0 := below_alloc w (.cells #[.slice none 0 0, .slice none 0 0] 32)
    have pr := Pair.new w (.slice none 0 0) (.slice none 0 0) 32
    have sz : (w.alloc (.cells #[.slice none 0 0, .slice none 0 0] 32)).heap.size = w.heap.size + 1 := Go.Deep.nblk_alloc _ _
    obtain ⟨W, hW⟩ : ∃ X, X = w.alloc (.cells #[.slice none 0 0, .slice none 0 0] 32) := ⟨_, rfl⟩
    rw [← hW] at q0 pr sz
    have e1 := below_alloc W (.cells #[.slice none 0 0, .slice none 0 0] 32)
    have pf := Pair.new W (.slice none 0 0) (.slice none 0 0) 32
    obtain ⟨W1, hW1⟩ : ∃ X, X = W.alloc (.cells #[.slice none 0 0, .slice none 0 0] 32) := ⟨_, rfl⟩
    rw [← hW1] at e1 pf
    have hbd : Building W1 W.heap.size W.heap.size (fitPath (rs.length : Int) ps s rs 0) := ⟨_, _, pf, Nat.le_refl _, World.ownsRow_nil _ _ _ _, World.ownsRow_nil _ _ _ _, .inl rfl, .inl rfl, by simp [Value.ownBlock], by simp [Value.ownBlock]⟩
    have HW := Lib.hid (show (w.alloc (.cells #[.slice none 0 0, .slice none 0 0] 32)).alloc (.cells #[.slice none 0 0, .slice none 0 0] 32) = W1 by rw [hW1, hW])
    rw [sz] at hbd
    have SZ := Lib.hid sz
    have PR := Lib.hid pr
    have HC := Lib.hid hcell
    have Q0 := Lib.hid q0
    have HU := Lib.hid hu
    have tl : ((rs.length : Int) != (rs.length : Int)) = false := by simp
    clear hW hW1 q0 pr sz pf hcell hu
    go_enter Try.func17, Try.ntmps17
    go_wp2_with (go_at_call 44; refine (sections_yes _ hn1 hn5).mono ?_; rintro e w' ⟨rfl, rfl⟩)
    rw [HW.out]
    go_loopw [11, 29] (fun r i wr => ∃ k : Nat, k ≤ rs.length ∧ i = .int .i64 k ∧ r = .int .i64 (fitTo (rs.length : Int) ps s rs k) ∧ Hid (FitsTo (rs.length : Int) ps s rs k) ∧ Building wr (w.heap.size + 1) (w.heap.size + 1) (fitPath (rs.length : Int) ps s rs k) ∧ Below W.heap.size W wr) (fun _ i _ => rs.length - (intOf i).toNat)
    case atStart => exact ⟨0, by omega, rfl, rfl, FitsTo.zero _ _ _ _, hbd, e1⟩
    case round =>
      obtain ⟨k, hk, rfl, rfl, hrt, hbu, hbel⟩ := hrel
      obtain ⟨t, ht⟩ : ∃ t, t = fitTo (rs.length : Int) ps s rs k := ⟨_, rfl⟩
      rw [← ht]
      have T := Lib.hid ht
      have RT := Lib.hid hrt.out
      have BU := Lib.hid hbu
      have hbelw := (Q0.out).trans (hbel.mono Q0.out.size)
      clear ht hrt hbu
      by_cases hlt : k < rs.length
      · obtain ⟨r, hr⟩ : ∃ r, r = rs.getD k 0 := ⟨_, rfl⟩
        have ec := (hbelw.cell (p := ⟨b, o + k, none⟩) hb).trans (HC.out k hlt)
        rw [← hr] at ec
        have R := Lib.hid hr
        have hki : (k : Int) < (rs.length : Int) := by omega
        have FR := Lib.hid (implFree (n := (rs.length : Int)) (k := (k : Int)) (s := t) (r := r) (HU.out.below hbelw))
        clear hr
        cases hf : fitOk (rs.length : Int) ps s rs k
        · have HN := Lib.hid (fitB_no (n := (rs.length : Int)) hlt hf)
          have HF := Lib.hid (show freeB (rs.length : Int) ps (k : Int) t r = false by rw [T.out, R.out]; exact hf)
          clear hf
          have k0 := (PR.out.below hbel).cell0
          have k1 := (PR.out.below hbel).cell1
          go_wp2_with (go_at_call 14; refine FR.out.mono ?_)
          rintro e w1 ⟨x, bb, rfl, ⟨hx, hbb⟩, b1⟩
          rw [HF.out] at hbb
          subst hbb
          have pr1 := (PR.out.below hbel).below b1
          have k2 := pr1.cell0
          have k3 := pr1.cell1
          have k4 := pr1.frozen 0
          have k5 := pr1.frozen 1
          have pr2 := stored_pair (x' := .slice none 0 0) (y' := .slice none 0 0) pr1
          have k6 := pr2.cell0
          have k7 := pr2.cell1
          have C1 := Lib.hid (((hbelw.trans (b1.mono hbelw.size)).setCell (p := ⟨w.heap.size, 0, none⟩) (Nat.le_refl _) (.slice none 0 0)).setCell (p := ⟨w.heap.size, 1, none⟩) (Nat.le_refl _) (.slice none 0 0))
          clear pr1 pr2 b1 hx
          go_wp2_with fail
          refine bodyPost_ret (v := .tuple #[.agg #[.slice none 0 0, .slice none 0 0], .bool false]) (by simp [results, Try.results17, go_sem, k6, k7]) rfl (made_path (nil_path _ _) C1.out (fitV_no HN.out).symm HN.out.symm)
        · have HF := Lib.hid (show freeB (rs.length : Int) ps (k : Int) t r = true by rw [T.out, R.out]; exact hf)
          obtain ⟨x, hx⟩ : ∃ x, x = freeV (rs.length : Int) ps (k : Int) t r := ⟨_, rfl⟩
          have hq := (freeB_is HF.out).2
          rw [← hx] at hq
          obtain ⟨⟨hr1, hr2⟩, hx0, hx1⟩ := hq
          have hw : IntKind.i64.wrap (x + r) = x + r := IntWalk.i64_in _ (by omega)
          have hw' : wrap64 (x + r) = x + r := (IntWalk.i64_left _).symm.trans hw
          have HS := Lib.hid (RT.out.succ hf)
          have HI := Lib.hid (show fitIn (rs.length : Int) ps s rs k = x by rw [hx, T.out, R.out]; rfl)
          have HT := Lib.hid (show fitTo (rs.length : Int) ps s rs (k + 1) = x + r by rw [hx, T.out, R.out]; rfl)
          have X := Lib.hid hx
          have hk5 : k ≤ 5 := by omega
          clear hf hx
          go_wp2_with (go_at_call 14; refine FR.out.mono ?_)
          rintro e w1 ⟨x', bb, rfl, ⟨hx', hbb⟩, b1⟩
          rw [HF.out] at hbb
          subst hbb
          rw [← X.out] at hx'
          subst hx'
          have EN := Lib.hid (enter (x := x') (r := r) (BU.out.below b1) hw (by rw [(fitPath_len (rs.length : Int) ps s rs k).1]; omega) (by rw [(fitPath_len (rs.length : Int) ps s rs k).2]; omega))
          have HPE := Lib.hid (show fitPath (rs.length : Int) ps s rs (k + 1) = ((fitPath (rs.length : Int) ps s rs k).1 ++ [x'], (fitPath (rs.length : Int) ps s rs k).2 ++ [x' + r]) from Prod.ext (by rw [fitPath_succ1, HI.out]) (by rw [fitPath_succ2, HT.out]))
          rw [← HPE.out] at EN
          go_wp2_with fail
          refine EN.out.mono ?_
          rintro e w2 ⟨rfl, hb2, b2⟩
          have c2 := (hbel.trans (b1.mono hbel.size)).trans (show Below W.heap.size w1 w2 by rw [SZ.out]; exact b2)
          have HB2 := Lib.hid hb2
          clear hb2 b1 b2 hbel hbelw EN
          go_wp2_with fail
          go_roundw
          case rel => exact ⟨k + 1, by omega, by go_num, ret_val HT.out.symm, HS.out, HB2.out, c2⟩
          case measure => simp [intOf]; omega
      · obtain rfl : k = rs.length := by omega
        have HY := Lib.hid (fitB_yes hn1 hn5 rfl RT.out)
        obtain ⟨a1, n1, c1, a2, n2, c2, pf, po⟩ := BU.out.own
        have pr1 := PR.out.below hbel
        have k0 := pf.cell0
        have k1 := pf.cell1
        have k2 := pr1.cell0
        have k3 := pr1.cell1
        have k4 := pr1.frozen 0
        have k5 := pr1.frozen 1
        have pr2 := stored_pair (x' := .slice a1 n1 c1) (y' := .slice a2 n2 c2) pr1
        have k6 := pr2.cell0
        have k7 := pr2.cell1
        have C1 := Lib.hid ((hbelw.setCell (p := ⟨w.heap.size, 0, none⟩) (Nat.le_refl _) (.slice a1 n1 c1)).setCell (p := ⟨w.heap.size, 1, none⟩) (Nat.le_refl _) (.slice a2 n2 c2))
        have PO := Lib.hid (((po.setApart (c := w.heap.size) (by omega) 0 (.slice a1 n1 c1)).setApart (c := w.heap.size) (by omega) 1 (.slice a2 n2 c2)).mono (base' := w.heap.size) (by omega))
        clear pf po pr1 pr2
        go_wp2_with fail
        refine bodyPost_ret (v := .tuple #[.agg #[.slice a1 n1 c1, .slice a2 n2 c2], .bool true]) (by simp [results, Try.results17, go_sem, k6, k7]) rfl (made_path PO.out C1.out (fitV_yes HY.out).symm HY.out.symm)
  · have hn' : (rs.length : Int) < 1 ∨ 5 < (rs.length : Int) := by omega
    have HN := Lib.hid (fitB_len (ps := ps) (s := s) (rs := rs) hn')
    have H := Lib.hid hn'
    have C1 := Lib.hid (below_alloc w (.cells #[.slice none 0 0, .slice none 0 0] 32))
    clear hn hn' hc hu
    go_enter Try.func17, Try.ntmps17
    go_wp2_with (go_at_call 44; refine (sections_no _ H.out).mono ?_; rintro e w' ⟨rfl, rfl⟩)
    refine bodyPost_ret (v := .tuple #[.agg #[.slice none 0 0, .slice none 0 0], .bool false]) (by simp [results, Try.results17, go_sem]) rfl (made_path (nil_path _ _) C1.out (fitV_no HN.out).symm HN.out.symm)

end Go.Proofs.Ytoebgdcgcdigaab
