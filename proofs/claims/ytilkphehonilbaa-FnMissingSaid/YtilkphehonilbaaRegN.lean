/-
  RegisterMissing by the model. For lists of at most 1048576 notes.
-/
import Derived.Test.YtilkphehonilbaaRegM
import Derived.Test.YtilkphehonilbaaStepB
namespace Go.Proofs.Ytilkphehonilbaa
open Go.RowKit Go.Sort

theorem mvF_join (A B : List Mv) : (List.range (A.length * 2)).map (mvF A) ++ (List.range (B.length * 2)).map (mvF B) = (List.range ((A ++ B).length * 2)).map (mvF (A ++ B)) := by
  apply List.ext_getElem?
  intro q
  rw [List.getElem?_append]
  simp only [List.length_map, List.length_range]
  by_cases h : q < A.length * 2
  · rw [if_pos h, rangeF_get _ h, rangeF_get _ (by rw [List.length_append]; omega)]
    have e : (A ++ B).getD (q / 2) noMv = A.getD (q / 2) noMv := by simp only [List.getD_eq_getElem?_getD]; rw [List.getElem?_append_left (by omega)]
    unfold mvF
    rw [e]
  · rw [if_neg h]
    by_cases h2 : q < (A ++ B).length * 2
    · rw [rangeF_get _ h2, rangeF_get _ (by rw [List.length_append] at h2; omega)]
      have e : (A ++ B).getD (q / 2) noMv = B.getD ((q - A.length * 2) / 2) noMv := by
        simp only [List.getD_eq_getElem?_getD]
        rw [List.getElem?_append_right (by omega), show q / 2 - A.length = (q - A.length * 2) / 2 by omega]
      have m : q % 2 = (q - A.length * 2) % 2 := by omega
      unfold mvF
      rw [e, m]
    · rw [List.getElem?_eq_none (by simp; rw [List.length_append] at h2; omega), List.getElem?_eq_none (by simp; rw [List.length_append] at h2; omega)]
theorem mvF_oneCell (ms : List Mv) (n : Nat) : ∀ u ∈ (List.range n).map (mvF ms), u.oneCell' = true := fun u hu => by
  obtain ⟨q, _, rfl⟩ := List.mem_map.1 hu
  unfold mvF
  split <;> rfl
theorem take_newsN {w X : World} {b o n c : Nat} {ms : List Mv} (h : Mvs w (.slice (some ⟨b, o, none⟩) n c) ms) (c' : Below w.heap.size w X) {k : Nat} (hk : k ≤ ms.length) :
    ∀ j u, ((List.range (k * 2)).map (mvF ms))[j]? = some u → X.cell? ((⟨b, o, none⟩ : Addr).add j) = some u := by
  rcases Nat.eq_zero_or_pos k with rfl | h0
  · intro j u hu; simp at hu
  obtain ⟨a', c2, e, _, hc⟩ := h.below c'
  simp only [Value.slice.injEq] at e
  obtain ⟨e1, e2, e3⟩ := e
  rcases hc with hc | ⟨b2, o2, e4, hb, hc⟩
  · omega
  · rw [← e1] at e4
    simp only [Option.some.injEq, Addr.mk.injEq, and_true] at e4
    obtain ⟨rfl, rfl⟩ := e4
    exact rd_newsN (fun q hq => hc q (by omega))
theorem drop_newsN {w X : World} {b o n c : Nat} {ms : List Mv} {ad : Addr} (h : Mvs w (.slice (some ⟨b, o, none⟩) n c) ms) (c' : Below w.heap.size w X) {k : Nat} (hk : k ≤ ms.length) (had : (if c = k then some (⟨b, o, none⟩ : Addr) else some ⟨b, o + k * 2, none⟩) = some ad) :
    ∀ j u, ((List.range ((ms.length - k) * 2)).map (mvF (ms.drop k)))[j]? = some u → X.cell? (ad.add j) = some u := by
  by_cases h0 : ms.length - k = 0
  · intro j u hu; rw [h0] at hu; simp at hu
  obtain ⟨a', c2, e, ⟨_, hcap⟩, hc⟩ := h.below c'
  simp only [Value.slice.injEq] at e
  obtain ⟨e1, e2, e3⟩ := e
  rw [if_neg (by omega)] at had
  simp only [Option.some.injEq] at had
  subst had
  rcases hc with hc | ⟨b2, o2, e4, hb, hc⟩
  · omega
  · rw [← e1] at e4
    simp only [Option.some.injEq, Addr.mk.injEq, and_true] at e4
    obtain ⟨rfl, rfl⟩ := e4
    refine rd_newsN (fun q hq => ?_)
    rw [Nat.add_assoc, hc (k * 2 + q) (by omega)]
    have e : (ms.drop k).getD (q / 2) noMv = ms.getD ((k * 2 + q) / 2) noMv := by
      simp only [List.getD_eq_getElem?_getD, List.getElem?_drop]
      rw [show (k * 2 + q) / 2 = k + q / 2 by omega]
    have m : (k * 2 + q) % 2 = q % 2 := by omega
    unfold mvF
    rw [e, m]

theorem row_shape {w : World} {base E size n : Nat} {v : Value} {ys : List Value} (h : w.ownsRow base E size v n ys) {b : Nat} (hb : v.ownBlock = some b) : ∃ c, v = .slice (some ⟨b, 0, none⟩) n c := by
  rcases h.2 with ⟨rfl, _⟩ | ⟨g, cap, cur, rfl, _⟩
  · cases hb
  · simp only [Value.ownBlock, Option.some.injEq] at hb
    subst hb
    exact ⟨cap, rfl⟩
theorem own_at {w w' : World} {base E size n N : Nat} {v : Value} {ys : List Value} (h : w'.ownsRow base E size v n ys) (hat : v.ownBlock = (Value.slice (some ⟨N, 0, none⟩) 0 0).ownBlock ∨ v.ownBlock = some w.heap.size) : ∃ b c, v = .slice (some ⟨b, 0, none⟩) n c ∧ (b = N ∨ b = w.heap.size) := by
  rcases hat with e | e
  · obtain ⟨c, rfl⟩ := row_shape h (b := N) e
    exact ⟨N, c, rfl, .inl rfl⟩
  · obtain ⟨c, rfl⟩ := row_shape h e
    exact ⟨_, c, rfl, .inr rfl⟩
theorem but_own {X : World} {base : Nat} {v : Value} {ms : List Mv} {k R : Nat} (hk : k < ms.length) (hR : R = 0 + k + (ms.length - (k + 1))) (h : X.ownsRow base 42 2 v R ([] ++ (List.range (k * 2)).map (mvF ms) ++ (List.range ((ms.length - (k + 1)) * 2)).map (mvF (ms.drop (k + 1))))) : OwnN X base v (ms.eraseIdx k) := by
  have e : (List.range (k * 2)).map (mvF ms) = (List.range ((ms.take k).length * 2)).map (mvF (ms.take k)) := by
    rw [List.length_take, Nat.min_eq_left (by omega)]
    exact List.map_congr_left fun q hq => (mvF_take (List.mem_range.1 hq)).symm
  have e2 : ms.length - (k + 1) = (ms.drop (k + 1)).length := by rw [List.length_drop]
  rw [List.nil_append, e, e2, mvF_join] at h
  unfold OwnN Ow
  rw [List.eraseIdx_eq_take_drop_succ]
  rw [hR] at h
  rw [show (ms.take k ++ ms.drop (k + 1)).length = 0 + k + (ms.length - (k + 1)) by rw [List.length_append, List.length_take, List.length_drop]; omega] at h ⊢
  exact h

set_option maxRecDepth 100000 in
set_option maxHeartbeats 4000000 in
theorem specRegisterMissing {w : World} {u v : Value} {ms ns : List Mv} (h : Mvs w u ms) (h' : Mvs w v ns) (sl : Int) : Calls Try.prog 7 #[u, v, .int .i64 sl] w (MadeInts w (misL ms ns sl)) := by
  obtain ⟨i0, hi, hz0, hz1, hz2⟩ := info_parts info_int
  obtain ⟨j0, hj, hy0, hy1, hy2⟩ := info_parts info_note
  have q0 := below_alloc w (.cells #[] 3)
  have o0 := own_empty w
  obtain ⟨W, hW⟩ : ∃ W, W = w.alloc (.cells #[] 3) := ⟨_, rfl⟩
  rw [← hW] at q0 o0
  have HW := Lib.hid hW
  have Q0 := Lib.hid q0
  have O0 := Lib.hid o0
  have RV := Lib.hid (fun (X : World) (c : Below w.heap.size w X) => specRegisterValid (Rd.below h c))
  obtain ⟨au, cu, rfl⟩ := Rd.slice h
  obtain ⟨av, cv, hv⟩ := Rd.slice h'
  have H := Lib.hid h
  have H' := Lib.hid h'
  have hl := Rd.len h
  have hl' : (ms.length : Int) ≤ 1048576 := by omega
  have hcap : ms.length ≤ cu := by
    obtain ⟨a', c', e, ⟨_, l2⟩, _⟩ := h
    simp only [Value.slice.injEq] at e
    obtain ⟨_, _, rfl⟩ := e
    omega
  clear hW q0 o0 h h'
  cases hr : regB ms
  · rw [hr] at RV
    have FIN := Lib.hid (show misL ms ns sl = [] by unfold misL; rw [if_neg (by simp [hr])])
    clear hr
    by_cases h0 : ms = []
    · subst h0
      go_enter Try.func7, Try.ntmps7
      go_wp2_with fail
      rw [← HW.out]
      refine wp_loop_rounds 1 ?_
      rw [rounds_succ]
      go_wp2_with fail
      go_ret
      exact ⟨_, rfl, by rw [FIN.out]; exact O0.out, Q0.out⟩
    · have hpos : (0 : Int) < (ms.length : Int) := by have := List.length_pos_iff.2 h0; omega
      go_enter Try.func7, Try.ntmps7
      go_wp2_with fail
      rw [← HW.out]
      refine wp_loop_rounds 1 ?_
      rw [rounds_succ]
      go_wp2_with (go_at_call 25; refine (RV.out _ Q0.out).mono ?_; rintro e w1 ⟨rfl, b1⟩)
      go_ret
      exact ⟨_, rfl, by rw [FIN.out]; exact O0.out.below b1, Q0.out.trans (b1.mono Q0.out.size)⟩
  · rw [hr] at RV
    have FIN := Lib.hid (show misL ms ns sl = misTo ms ns sl ms.length by unfold misL; rw [if_pos hr])
    have h30 := (regB_is hr).1
    clear hr
    go_enter Try.func7, Try.ntmps7
    go_wp2_with fail
    rw [← HW.out]
    go_loopw [7, 8] (fun v i wr => ∃ k : Nat, k ≤ ms.length ∧ i = .int .i64 k ∧ Hid (OwnI wr w.heap.size v (misTo ms ns sl k)) ∧ Hid (Below w.heap.size w wr)) (fun _ i _ => ms.length - (intOf i).toNat)
    case atStart => exact ⟨0, by omega, rfl, O0, Q0⟩
    case round =>
      obtain ⟨k, hk, rfl, HO, HB⟩ := hrel
      obtain ⟨al, cl, hal⟩ := own_slice2 HO.out
      subst hal
      by_cases hlt : k < ms.length
      · obtain ⟨b, o, rfl, -⟩ := Mvs.at H.out hlt
        have hki : (k : Int) < (ms.length : Int) := by omega
        have VL := Lib.hid (RV.out _ HB.out)
        go_wp2_with (go_at_call 25; refine VL.out.mono ?_; rintro e w1 ⟨rfl, b1⟩; have BB := Lib.hid (HB.out.trans (b1.mono HB.out.size)); have O1 := Lib.hid (HO.out.below b1); clear b1)
        have OF := Lib.hid (fun (X : World) (c : Below w.heap.size w X) (p : Value) (i : Mvs X p (ms.eraseIdx k)) => show Calls Try.prog 26 #[p, v, .int .i64 sl] X fun e w' => e = .returned (.tuple #[.int .i64 ((offO (ms.eraseIdx k) ns sl).getD 0), .bool (offO (ms.eraseIdx k) ns sl).isSome]) ∧ Below X.heap.size X w' from specRegisterOffset i (Rd.below H'.out c) sl)
        have MY := Lib.hid (fun (g : (offO (ms.eraseIdx k) ns sl).isSome = true) => misTo_yes g)
        have MN := Lib.hid (fun (g : (offO (ms.eraseIdx k) ns sl).isSome = false) => misTo_no g)
        obtain ⟨t, ht⟩ : ∃ t, t = (offO (ms.eraseIdx k) ns sl).isSome := ⟨_, rfl⟩
        obtain ⟨x, hx⟩ : ∃ x, x = (offO (ms.eraseIdx k) ns sl).getD 0 := ⟨_, rfl⟩
        rw [← ht, ← hx] at OF
        rw [← ht] at MY MN
        obtain ⟨n, hnl⟩ : ∃ n, n = (misTo ms ns sl k).length := ⟨_, rfl⟩
        have hn30 : n ≤ 30 := by have := misTo_length ms ns sl k; omega
        have NL := Lib.hid hnl
        rw [← hnl]
        clear ht hx hnl
        subst hv
        have hkc : (k : Int) ≤ (cu : Int) := by omega
        have hkc2 : k ≤ cu := by omega
        have hk1l : ((k + 1 : Nat) : Int) ≤ (ms.length : Int) := by omega
        have hk1c : ((k + 1 : Nat) : Int) ≤ (cu : Int) := by omega
        have hlc : (ms.length : Int) ≤ (cu : Int) := by omega
        have HOD := Lib.hid (show ((w1.alloc (.cells #[] 42)).drew).ownsRow w1.heap.size 42 2 (.slice (some ⟨w1.heap.size, 0, none⟩) 0 0) 0 [] from (World.ownsRow_lit w1 #[] 0 (Nat.le_refl _) (by simp [maxLen]) (by simp)).drew)
        have BD := Lib.hid (show Below w1.heap.size w1 (w1.alloc (.cells #[] 42)).drew from (below_alloc w1 _).drew)
        have SZ := Lib.hid (show w1.heap.size ≤ ((w1.alloc (.cells #[] 42)).drew).heap.size from (below_alloc w1 (.cells #[] 42)).size)
        have N1 := Lib.hid (take_newsN H.out (BB.out.trans (BD.out.mono BB.out.size)) (show k ≤ ms.length by omega))
        obtain ⟨ad, had⟩ : ∃ ad, (if cu = k + 1 then some (⟨b, o, none⟩ : Addr) else some ⟨b, o + (k + 1) * 2, none⟩) = some ad := by
          split <;> exact ⟨_, rfl⟩
        have N2 := Lib.hid (fun (X : World) (hX : Below w.heap.size w X) => drop_newsN H.out hX (show k + 1 ≤ ms.length by omega) had)
        have hq0 : 0 ≤ (k : Int) + 1 := by omega
        have hq1 : (k : Int) + 1 ≤ (ms.length : Int) := by omega
        have hw1 : IntKind.i64.wrap ((k : Int) + 1) = ((k + 1 : Nat) : Int) := by rw [IntWalk.i64_in _ (by omega)]; rfl
        have hw2 : wrap64 ((k : Int) + 1) = ((k + 1 : Nat) : Int) := (IntWalk.i64_left _).symm.trans hw1
        have LM := Lib.hid (And.intro hlt h30)
        go_cut [9] (fun v wx => OwnN wx w1.heap.size v (ms.eraseIdx k) ∧ Below w1.heap.size w1 wx)
        case first =>
          go_region_law (first
            | (refine step_append_own_at rfl (.tmp 23) (.tmp 26) 23 rfl w1.heap.size 42 j0 (.agg #[.int .i64 0, .string ⟨#[]⟩]) 2 24 Try.underlying23 hj hy0 hy1 hy2 rfl (by decide) (.slice (some ⟨w1.heap.size, 0, none⟩) 0 0) 0 [] (by simp [Act.eval]) HOD.out ⟨b, o, none⟩ k cu ((List.range (k * 2)).map (mvF ms)) (by simp [Act.eval]) (by simp) N1.out (mvF_oneCell _ _) (by have := LM.out; simp only [maxLen]; omega) (by have := LM.out; omega) SZ.out ?_; intro v2 w9 hown2 hgrow2 hat2; obtain ⟨bb, cc, rfl, hbb⟩ := own_at hown2 hat2; have HO2 := Lib.hid hown2; have HG2 := Lib.hid hgrow2; have HBB := Lib.hid hbb; clear hbb hat2; have BE := Lib.hid (BD.out.grown HG2.out (BD.out.size) (fun c hc => by simp only [Value.ownBlock, Option.some.injEq] at hc; exact hc ▸ Nat.le_refl _)))
            | (refine step_append_own_at rfl (.tmp 27) (.tmp 31) 23 rfl w1.heap.size 42 j0 (.agg #[.int .i64 0, .string ⟨#[]⟩]) 2 24 Try.underlying23 hj hy0 hy1 hy2 rfl (by decide) (.slice (some ⟨bb, 0, none⟩) (0 + k) cc) (0 + k) ([] ++ (List.range (k * 2)).map (mvF ms)) (by simp [Act.eval]) HO2.out ad (ms.length - (k + 1)) (cu - (k + 1)) ((List.range ((ms.length - (k + 1)) * 2)).map (mvF (ms.drop (k + 1)))) (by simp [Act.eval]) (by simp) (N2.out _ (BB.out.trans (BE.out.mono BB.out.size))) (mvF_oneCell _ _) (by have := LM.out; simp only [maxLen]; omega) (by have := LM.out; omega) (Nat.le_trans SZ.out HG2.out.size) ?_; intro v3 w10 hown3 hgrow3 hat3))
          all_goals
            have hbb8 : w1.heap.size ≤ bb := HBB.out.elim (fun e => e ▸ Nat.le_refl _) (fun e => e ▸ BD.out.size)
            have BF := Lib.hid (BE.out.grown hgrow3 BE.out.size (fun c hc => by simp only [Value.ownBlock, Option.some.injEq] at hc; exact hc ▸ hbb8))
            have OF2 := Lib.hid (but_own LM.out.1 rfl hown3)
            clear hw1 hw2 had hq0 hq1 hk1l hk1c hlc hkc hgrow3 hown3 hat3
            go_wp2_with fail
            go_meet
            exact ⟨OF2.out, BF.out⟩
        case rest =>
        obtain ⟨hown, hbel⟩ := hcut
        have B6 := Lib.hid (BB.out.trans (hbel.mono BB.out.size))
        have O6 := Lib.hid (O1.out.below hbel)
        have hel : (ms.eraseIdx k).length ≤ 1048576 := by rw [List.length_eraseIdx]; split <;> omega
        have OF3 := Lib.hid (OF.out _ B6.out _ (OwnN.nts hown hel))
        obtain ⟨ab, cb, rfl⟩ := Ow.slice hown
        clear hown hbel hw1 hw2 had hq0 hq1 hk1l hk1c hlc hkc hel
        cases t
        · have M := Lib.hid (MN.out rfl)
          clear MY MN
          go_wp2_with (go_at_call 26; refine OF3.out.mono ?_; rintro e w7 ⟨rfl, b7⟩; have B7 := Lib.hid (B6.out.trans (b7.mono B6.out.size)); have O7 := Lib.hid (show OwnI w7 w.heap.size (.slice al n cl) (misTo ms ns sl (k + 1)) by rw [M.out, NL.out]; exact O6.out.below b7); clear b7)
          go_roundw
          case rel => exact ⟨k + 1, by omega, by go_num, O7, B7⟩
          case measure => simp [intOf]; omega
        · have M := Lib.hid (MY.out rfl)
          clear MY MN
          go_wp2_with (first
            | (go_at_call 26; refine OF3.out.mono ?_; rintro e w7 ⟨rfl, b7⟩; have B7 := Lib.hid (B6.out.trans (b7.mono B6.out.size)); have O7 := Lib.hid (show w7.ownsRow w.heap.size 3 1 (.slice al n cl) n ((misTo ms ns sl k).map (Value.int .i64)) by rw [NL.out]; exact O6.out.below b7); clear b7)
            | (at_builtin; refine wpList_append_own _ rfl _ _ 26 rfl w.heap.size 3 i0 (.int .i64 0) 1 8 Try.underlying26 hi hz0 hz1 hz2 rfl (by decide) _ _ _ rfl (O7.out.alloc _) ⟨w7.heap.size, 0, none⟩ 1 1 [.int .i64 (k : Int)] rfl rfl ?k1 ?k2 ?k3 ?k4 ?k5 ?_))
          case k1 => exact cell_one_new _ _ _
          case k2 => intro u hu; simp at hu; subst hu; rfl
          case k3 => simp only [maxLen]; omega
          case k4 => omega
          case k5 => have := B7.out.size; simp; omega
          intro v' w8 hown' hgrow _
          have B8 := Lib.hid ((B7.out.alloc B7.out.size _).grown hgrow (Nat.le_trans B7.out.size (by simp)) (fun g hg => (O7.out.lt g hg).1))
          have O8 := Lib.hid (show OwnI w8 w.heap.size v' (misTo ms ns sl (k + 1)) by rw [M.out]; refine ints_more ?_; rw [← NL.out]; exact hown')
          obtain ⟨av', cv', rfl⟩ := own_slice2 hown'
          clear hown' hgrow
          go_wp2_with fail
          go_roundw
          case rel => exact ⟨k + 1, by omega, by go_num, O8, B8⟩
          case measure => simp [intOf]; omega
      · obtain rfl : k = ms.length := by omega
        go_wp2_with fail
        go_ret
        exact ⟨_, rfl, by rw [FIN.out]; exact HO.out, HB.out⟩

end Go.Proofs.Ytilkphehonilbaa
