/-
  RegisterTrains, by the program and by the model. For lists of at most 1048576 notes.
-/
import Derived.Test.YtphadofigcipcaaRegB
import Derived.Test.YtphadofigcipcaaStepA
namespace Go.Proofs.Ytphadofigcipcaa
open Go.RowKit Go.Sort

theorem lit_e (S : ByteArray) : (S.toList == [(101 : UInt8)]) = decide (S = ltS 2) := by
  have e : (ltS 2).toList = [(101 : UInt8)] := by rw [ByteArray.toList_eq]; rfl
  by_cases h : S = ltS 2
  · rw [decide_eq_true h, ← e]; exact str_eq h
  · rw [decide_eq_false h, ← e]; exact str_ne h
theorem lit_l (S : ByteArray) : (S.toList == [(108 : UInt8)]) = decide (S = ltS 4) := by
  have e : (ltS 4).toList = [(108 : UInt8)] := by rw [ByteArray.toList_eq]; rfl
  by_cases h : S = ltS 4
  · rw [decide_eq_true h, ← e]; exact str_eq h
  · rw [decide_eq_false h, ← e]; exact str_ne h
theorem ints_more {w : World} {base : Nat} {v : Value} {xs : List Int} {x : Int} (h : w.ownsRow base 3 1 v (xs.length + 1) (xs.map (Value.int .i64) ++ [.int .i64 x])) : OwnI w base v (xs ++ [x]) := by
  unfold OwnI
  rw [List.length_append, List.map_append]
  exact h

theorem own_not_entry {w : World} {base n size : Nat} {t : TypeId} {v : Value} {xs : List Value} (h : w.ownsRow base t size v n xs) (ht : t ≠ 88) : ∀ b, v.ownBlock = some b → ∀ c0 c1 c2, w.heap[b]? ≠ some (.cells #[c0, c1, c2] 88) := by
  intro b e c0 c1 c2 q
  rcases h.2 with ⟨rfl, _⟩ | ⟨g, cap, cur, rfl, hb, hg, _⟩
  · cases e
  · simp only [Value.ownBlock, Option.some.injEq] at e
    subst e
    rw [q] at hg
    simp only [Option.some.injEq, Obj.cells.injEq] at hg
    exact ht hg.2.1.symm
theorem Chain.drew {w : World} {p : Value} {ns : List Mv} (h : Chain w p ns) : Chain w.drew p ns := h.below (Below.refl _ _).drew

set_option maxRecDepth 100000 in
set_option maxHeartbeats 4000000 in
theorem implRegisterTrains {w : World} {v : Value} {ns : List Mv} (h : Mvs w v ns) : Calls Try.prog 27 #[v] w (MadeInts w (trL ns)) := by
  obtain ⟨i0, hi, hz0, hz1, hz2⟩ := info_parts info_int
  have q0 := below_alloc w (.cells #[] 3)
  have o0 := own_empty w
  obtain ⟨W, hW⟩ : ∃ W, W = w.alloc (.cells #[] 3) := ⟨_, rfl⟩
  rw [← hW] at q0 o0
  have R := Lib.hid (implSoundOf (Rd.below h q0))
  have HW := Lib.hid hW
  have Q0 := Lib.hid q0
  have O0 := Lib.hid o0
  obtain ⟨rs, hrs⟩ : ∃ rs, rs = sndL ns := ⟨_, rfl⟩
  rw [← hrs] at R
  have SD := Lib.hid (show ∀ i, i + 1 < rs.length → ((rs.getD i noMv).2 = ltS 2 ↔ (rs.getD (i + 1) noMv).2 = ltS 4) from fun i hi => by
    cases hs : soundB ns
    · rw [hrs, sndL_no hs] at hi; exact absurd hi (by simp)
    · have e := sndL_yes hs
      rw [hrs, e] at hi ⊢
      exact sound_el hs hi)
  have RR := Lib.hid (show regB rs = true by rw [hrs]; exact sndL_reg ns)
  have FIN := Lib.hid (show trL ns = trT rs rs.length by
    cases hs : soundB ns
    · rw [hrs, sndL_no hs]; unfold trL; rw [if_neg (by simp [hs])]; rfl
    · rw [hrs, sndL_yes hs]; unfold trL; rw [if_pos hs])
  have h30 := (regB_is RR.out).1
  clear hW q0 o0 h hrs
  go_enter Try.func27, Try.ntmps27
  go_wp2_with (rw [← HW.out]; go_at_call 73; refine R.out.mono ?_)
  rintro e w1 ⟨p, rfl, ch, b1⟩
  have O1 := Lib.hid (O0.out.below b1)
  have B1 := Lib.hid (Q0.out.trans (b1.mono Q0.out.size))
  have CH := Lib.hid ch
  obtain ⟨a, rfl⟩ := ch.ptr
  clear ch b1
  by_cases hn : rs = []
  · subst hn
    have hp : Value.pointer a = .pointer none := CH.out
    simp only [Value.pointer.injEq] at hp
    subst hp
    go_wp2_with fail
    refine wp_loop_rounds 1 ?_
    rw [rounds_succ]
    go_wp2_with fail
    go_ret
    exact ⟨_, rfl, by rw [FIN.out]; exact O1.out, B1.out⟩
  have hpos : 0 < rs.length := List.length_pos_iff.2 hn
  go_wp2_with fail
  go_loopw [3, 6] (fun v e wr => ∃ j : Nat, j < rs.length ∧ Hid (Chain wr e (rs.drop j)) ∧ Hid (OwnI wr w.heap.size v (trT rs (j + 1))) ∧ Hid (Below w.heap.size w wr)) (fun _ e wr => left wr e)
  case atStart => exact ⟨0, hpos, CH, O1, B1⟩
  case round =>
    obtain ⟨j, hj, HC, HO, HB⟩ := hrel
    have hc := HC.out
    have ML := Lib.hid (left_eq hc)
    rw [drop_get hj] at hc
    obtain ⟨b, q', rfl, hb, c0, c1, c2, hn'⟩ := hc.cells
    obtain ⟨av, cv, hav⟩ := own_slice2 HO.out
    subst hav
    clear hc
    by_cases hlt : j + 1 < rs.length
    · have HN := Lib.hid hn'
      rw [drop_get hlt] at hn'
      obtain ⟨b2, q2, rfl, hb2, d0, d1, d2, hn2⟩ := hn'.cells
      have n1 := reg_note RR.out hj
      have n2 := reg_note RR.out hlt
      have EL := Lib.hid (SD.out j hlt)
      have TY := Lib.hid (fun (g : (rs.getD (j + 1) noMv).2 = ltS 4) => trT_yes g)
      have TN := Lib.hid (fun (g : (rs.getD (j + 1) noMv).2 ≠ ltS 4) => trT_no g)
      have LS := Lib.hid (show (rs.getD j noMv).2 = (rs.getD j noMv).2 from rfl)
      obtain ⟨S, hS⟩ : ∃ S, S = (rs.getD j noMv).2 := ⟨_, rfl⟩
      obtain ⟨x, hx⟩ : ∃ x, x = (rs.getD j noMv).1 := ⟨_, rfl⟩
      obtain ⟨y, hy⟩ : ∃ y, y = (rs.getD (j + 1) noMv).1 := ⟨_, rfl⟩
      rw [← hS] at c1 EL
      rw [← hx] at c0 n1 TY
      rw [← hy] at d0 n2 TY
      have hx2 : 0 ≤ x ∧ x ≤ 2000 := ⟨n1.1, n1.2.1⟩
      have hy2 : 0 ≤ y ∧ y ≤ 2000 := ⟨n2.1, n2.2.1⟩
      clear hS hx hy d1 d2 hn' hn2 n1 n2 LS
      by_cases g : S = ltS 2
      · have t1 : (S.toList == [(101 : UInt8)]) = true := by rw [lit_e, decide_eq_true g]
        have NX := Lib.hid (TY.out (EL.out.1 g))
        have hw1 : IntKind.i64.wrap (y - x) = y - x := IntWalk.i64_in _ (by omega)
        have hw2 : wrap64 (y - x) = y - x := (IntWalk.i64_left _).symm.trans hw1
        obtain ⟨n, hnl⟩ : ∃ n, n = (trT rs (j + 1)).length := ⟨_, rfl⟩
        have hn30 : n ≤ 30 := by have := trT_length rs (j + 1); omega
        have own := HO.out
        unfold OwnI at own
        rw [← hnl] at own ⊢
        have NL := Lib.hid hnl
        have HOD := Lib.hid (show ((wr.alloc (.cells #[.int .i64 (y - x)] 3)).drew).ownsRow w.heap.size 3 1 (.slice av n cv) n ((trT rs (j + 1)).map (Value.int .i64)) from (own.alloc _).drew)
        have CON := Lib.hid (show ∀ j u, [Value.int .i64 (y - x)][j]? = some u → ((wr.alloc (.cells #[.int .i64 (y - x)] 3)).drew).cell? ((⟨wr.heap.size, 0, none⟩ : Addr).add j) = some u from cell_one_new wr (.int .i64 (y - x)) 3)
        have SZ := Lib.hid (show w.heap.size ≤ ((wr.alloc (.cells #[.int .i64 (y - x)] 3)).drew).heap.size from Nat.le_trans HB.out.size (below_alloc wr (.cells #[.int .i64 (y - x)] 3)).size)
        have BD := Lib.hid (show Below w.heap.size w (wr.alloc (.cells #[.int .i64 (y - x)] 3)).drew from (HB.out.alloc HB.out.size _).drew)
        have CD := Lib.hid (HC.out.below (below_alloc wr (.cells #[.int .i64 (y - x)] 3)))
        clear own g TY TN EL hnl
        go_upto_region 7 with fail
        go_region_law (refine step_append_own rfl (.tmp 33) (.tmp 48) 41 rfl w.heap.size 3 i0 (.int .i64 0) 1 8 Try.underlying41 hi hz0 hz1 hz2 rfl (by decide) (.slice av n cv) n _ (by simp [Act.eval]) HOD.out ⟨wr.heap.size, 0, none⟩ 1 1 [.int .i64 (y - x)] (by simp [Act.eval]) rfl CON.out (by intro u hu; simp at hu; subst hu; rfl) (by simp only [maxLen]; omega) (by omega) SZ.out ?_; intro v2 w2 hown2 hgrow; have HO2 := Lib.hid (show OwnI w2 w.heap.size v2 (trT rs (j + 2)) by rw [NX.out]; refine ints_more ?_; rw [← NL.out]; exact hown2); have HB2 := Lib.hid (BD.out.grown hgrow SZ.out (fun c hc => (HOD.out.lt c hc).1)); have HC2 := Lib.hid (CD.out.drew.kept hgrow (own_not_entry HOD.out (by decide))); obtain ⟨av2, cv2, rfl⟩ := own_slice2 HO2.out)
        all_goals
          (have hch := HC2.out
           rw [drop_get hj] at hch
           obtain ⟨b', q', e', hb', k0, k1, k2, hn'⟩ := hch.cells
           simp only [Value.pointer.injEq, Option.some.injEq, Addr.mk.injEq, and_true] at e'
           subst e'
           have HN2 := Lib.hid hn'
           obtain ⟨aq, rfl⟩ := hn'.ptr
           clear hown2 hgrow hch hn' k0 k1
           go_wp2_with fail
           go_roundw
           case rel => exact ⟨j + 1, hlt, HN2, HO2, HB2⟩
           case measure => rw [ML.out, left_eq HN2.out, List.length_drop, List.length_drop]; omega)
      · have t1 : (S.toList == [(101 : UInt8)]) = false := by rw [lit_e, decide_eq_false g]
        have NX := Lib.hid (TN.out (fun e => g (EL.out.2 e)))
        clear g TY TN EL d0
        go_wp2_with fail
        go_roundw
        case rel => exact ⟨j + 1, hlt, HN, Lib.hid (by rw [NX.out]; exact HO.out), HB⟩
        case measure => rw [ML.out, left_eq HN.out, List.length_drop, List.length_drop]; omega
    · have hje : j + 1 = rs.length := by omega
      rw [hje, List.drop_length] at hn'
      have hq : _ = Value.pointer none := hn'
      subst hq
      have OO := Lib.hid (show OwnI wr w.heap.size _ (trT rs rs.length) by rw [← hje]; exact HO.out)
      clear hje hn' hlt
      go_wp2_with fail
      go_ret
      exact ⟨_, rfl, by rw [FIN.out]; exact OO.out, HB.out⟩

theorem trL_len (ns : List Mv) : (trL ns).length ≤ 1048576 := by
  unfold trL
  split
  · rename_i h
    have := trT_length ns ns.length
    have := (regB_is (sound_is h).1).1
    omega
  · simp
theorem trT_next {ns : List Mv} {i : Nat} (h : (ns.getD i noMv).2 ≠ ltS 4) : trT ns (i + 1) = trT ns i := by
  cases i with
  | zero => rfl
  | succ i => exact trT_no h

set_option maxRecDepth 100000 in
set_option maxHeartbeats 4000000 in
theorem specRegisterTrains {w : World} {v : Value} {ns : List Mv} (h : Mvs w v ns) : Calls Try.prog 28 #[v] w (MadeInts w (trL ns)) := by
  obtain ⟨i0, hi, hz0, hz1, hz2⟩ := info_parts info_int
  have q0 := below_alloc w (.cells #[] 3)
  have o0 := own_empty w
  obtain ⟨W, hW⟩ : ∃ W, W = w.alloc (.cells #[] 3) := ⟨_, rfl⟩
  rw [← hW] at q0 o0
  have HW := Lib.hid hW
  have Q0 := Lib.hid q0
  have O0 := Lib.hid o0
  have RS := Lib.hid (fun (X : World) (c : Below w.heap.size w X) => specRegisterSound (Rd.below h c))
  obtain ⟨a, cap, rfl⟩ := Rd.slice h
  have AT := Lib.hid (fun (i : Nat) (hi : i < ns.length) => Mvs.at h hi)
  have hl := Rd.len h
  have hl' : (ns.length : Int) ≤ 1048576 := by omega
  clear hW q0 o0 h
  cases hs : soundB ns
  · rw [hs] at RS
    have FIN := Lib.hid (show trL ns = [] by unfold trL; rw [if_neg (by simp [hs])])
    clear hs
    by_cases h0 : ns = []
    · subst h0
      go_enter Try.func28, Try.ntmps28
      go_wp2_with fail
      rw [← HW.out]
      refine wp_loop_rounds 1 ?_
      rw [rounds_succ]
      go_wp2_with fail
      go_ret
      exact ⟨_, rfl, by rw [FIN.out]; exact O0.out, Q0.out⟩
    · have hpos : (0 : Int) < (ns.length : Int) := by have := List.length_pos_iff.2 h0; omega
      go_enter Try.func28, Try.ntmps28
      go_wp2_with fail
      rw [← HW.out]
      refine wp_loop_rounds 1 ?_
      rw [rounds_succ]
      go_wp2_with (go_at_call 74; refine (RS.out _ Q0.out).mono ?_; rintro e w1 ⟨rfl, b1⟩)
      go_ret
      exact ⟨_, rfl, by rw [FIN.out]; exact O0.out.below b1, Q0.out.trans (b1.mono Q0.out.size)⟩
  · rw [hs] at RS
    have FIN := Lib.hid (show trL ns = trT ns ns.length by unfold trL; rw [if_pos hs])
    have NR := Lib.hid (fun i (hi : i < ns.length) => reg_note (sound_is hs).1 hi)
    have EL := Lib.hid (fun i (hi : i + 1 < ns.length) => sound_el hs hi)
    have L0 := Lib.hid (fun (hi : 0 < ns.length) => sound_l0 hs hi)
    have h30 := (regB_is (sound_is hs).1).1
    clear hs
    go_enter Try.func28, Try.ntmps28
    go_wp2_with fail
    rw [← HW.out]
    go_loopw [3, 4, 5] (fun v f i wr => ∃ (k : Nat) (fr : Int), k ≤ ns.length ∧ i = .int .i64 k ∧ f = .int .i64 fr ∧ Hid (∀ j, k = j + 1 → (ns.getD j noMv).2 = ltS 2 → fr = (ns.getD j noMv).1) ∧ Hid (OwnI wr w.heap.size v (trT ns k)) ∧ Hid (Below w.heap.size w wr)) (fun _ _ i _ => ns.length - (intOf i).toNat)
    case atStart => exact ⟨0, 0, by omega, rfl, rfl, Lib.hid (fun j hj => by omega), O0, Q0⟩
    case round =>
      obtain ⟨k, fr, hk, rfl, rfl, HF, HO, HB⟩ := hrel
      obtain ⟨av, cv, hav⟩ := own_slice2 HO.out
      subst hav
      by_cases hlt : k < ns.length
      · obtain ⟨b, o, rfl, hb, hcell⟩ := AT.out k hlt
        obtain ⟨e0, e1⟩ := hcell k hlt
        have hki : (k : Int) < (ns.length : Int) := by omega
        have SND := Lib.hid (RS.out _ HB.out)
        have hn := NR.out k hlt
        have LE := Lib.hid (show (ns.getD k noMv).2 = ltS 4 → ∃ j, k = j + 1 ∧ fr = (ns.getD j noMv).1 from fun g => by
          cases k with
          | zero => exact absurd g (L0.out hlt)
          | succ j => exact ⟨j, rfl, HF.out j rfl ((EL.out j hlt).2 g)⟩)
        have NRJ := Lib.hid (fun j (hj : j < ns.length) => NR.out j hj)
        have TN := Lib.hid (fun (g : (ns.getD k noMv).2 ≠ ltS 4) => trT_next g)
        have TY := Lib.hid (fun j (q : k = j + 1) (g : (ns.getD k noMv).2 = ltS 4) => show trT ns (k + 1) = trT ns k ++ [(ns.getD k noMv).1 - (ns.getD j noMv).1] by subst q; exact trT_yes g)
        obtain ⟨S, hS⟩ : ∃ S, S = (ns.getD k noMv).2 := ⟨_, rfl⟩
        obtain ⟨x, hx⟩ : ∃ x, x = (ns.getD k noMv).1 := ⟨_, rfl⟩
        have HS := Lib.hid hS
        have HX := Lib.hid hx
        rw [← hS] at e1 LE TN TY
        rw [← hx] at e0 TY hn
        have C0 := Lib.hid (fun (X : World) (c : Below w.heap.size w X) => (c.cell (p := ⟨b, o + k * 2, none⟩) hb).trans e0)
        have C1 := Lib.hid (fun (X : World) (c : Below w.heap.size w X) => show X.cell? ⟨b, o + k * 2 + 1, none⟩ = _ from (c.cell (p := ⟨b, o + k * 2 + 1, none⟩) hb).trans e1)
        have hx2 : 0 ≤ x ∧ x ≤ 2000 := ⟨hn.1, hn.2.1⟩
        clear hS hx hcell e0 e1 hn
        by_cases g : S = ltS 4
        · have t1 : (S.toList == [(101 : UInt8)]) = false := by rw [lit_e, decide_eq_false (by rw [g]; decide)]
          have t2 : (S.toList == [(108 : UInt8)]) = true := by rw [lit_l, decide_eq_true g]
          obtain ⟨j, hkj, hfr⟩ := LE.out g
          have nj := NRJ.out j (by omega)
          have NX := Lib.hid (show trT ns (k + 1) = trT ns k ++ [x - fr] by rw [TY.out j hkj g, hfr])
          have hf2 : 0 ≤ fr ∧ fr ≤ 2000 := by rw [hfr]; exact ⟨nj.1, nj.2.1⟩
          have hw1 : wrap64 (x - fr) = x - fr := (IntWalk.i64_left _).symm.trans (IntWalk.i64_in _ (by omega))
          have NF := Lib.hid (show ∀ j, k + 1 = j + 1 → (ns.getD j noMv).2 = ltS 2 → fr = (ns.getD j noMv).1 from fun j' q e => by
            obtain rfl : k = j' := by omega
            rw [← HS.out, g] at e
            exact absurd e (by decide))
          obtain ⟨n, hnl⟩ : ∃ n, n = (trT ns k).length := ⟨_, rfl⟩
          have hn30 : n ≤ 30 := by have := trT_length ns k; omega
          have NL := Lib.hid hnl
          rw [← hnl]
          clear g hkj hfr nj LE TY TN hnl
          go_wp2_with (first
            | (go_at_call 74; refine SND.out.mono ?_; rintro e w1 ⟨rfl, b1⟩; have BB := Lib.hid (HB.out.trans (b1.mono HB.out.size)); have c0 := C0.out _ BB.out; have c1 := C1.out _ BB.out; have O1 := Lib.hid (show w1.ownsRow w.heap.size 3 1 (.slice av n cv) n ((trT ns k).map (Value.int .i64)) by rw [NL.out]; exact HO.out.below b1); clear b1)
            | (at_builtin; refine wpList_append_own _ rfl _ _ 41 rfl w.heap.size 3 i0 (.int .i64 0) 1 8 Try.underlying41 hi hz0 hz1 hz2 rfl (by decide) _ _ _ rfl (O1.out.alloc _) ⟨w1.heap.size, 0, none⟩ 1 1 [.int .i64 (x - fr)] rfl rfl ?k1 ?k2 ?k3 ?k4 ?k5 ?_))
          case k1 => exact cell_one_new _ _ _
          case k2 => intro u hu; simp at hu; subst hu; rfl
          case k3 => simp only [maxLen]; omega
          case k4 => omega
          case k5 => have := BB.out.size; simp; omega
          intro v' w5 hown' hgrow _
          have B5 := Lib.hid ((BB.out.alloc BB.out.size _).grown hgrow (Nat.le_trans BB.out.size (by simp)) (fun g hg => (O1.out.lt g hg).1))
          have O5 := Lib.hid (show OwnI w5 w.heap.size v' (trT ns (k + 1)) by rw [NX.out]; refine ints_more ?_; rw [← NL.out]; exact hown')
          obtain ⟨av', cv', rfl⟩ := own_slice2 hown'
          clear hown' hgrow
          go_wp2_with fail
          go_roundw
          case rel => exact ⟨k + 1, fr, by omega, by go_num, rfl, NF, O5, B5⟩
          case measure => simp [intOf]; omega
        · have t2 : (S.toList == [(108 : UInt8)]) = false := by rw [lit_l, decide_eq_false g]
          have NX := Lib.hid (TN.out g)
          by_cases g2 : S = ltS 2
          · have t1 : (S.toList == [(101 : UInt8)]) = true := by rw [lit_e, decide_eq_true g2]
            have NF := Lib.hid (show ∀ j, k + 1 = j + 1 → (ns.getD j noMv).2 = ltS 2 → x = (ns.getD j noMv).1 from fun j' q e => by
              obtain rfl : k = j' := by omega
              exact HX.out)
            clear g g2 LE TY TN
            go_wp2_with (go_at_call 74; refine SND.out.mono ?_; rintro e w1 ⟨rfl, b1⟩; have BB := Lib.hid (HB.out.trans (b1.mono HB.out.size)); have c0 := C0.out _ BB.out; have c1 := C1.out _ BB.out; have O1 := Lib.hid (HO.out.below b1); clear b1)
            go_roundw
            case rel => exact ⟨k + 1, x, by omega, by go_num, rfl, NF, Lib.hid (by rw [NX.out]; exact O1.out), BB⟩
            case measure => simp [intOf]; omega
          · have t1 : (S.toList == [(101 : UInt8)]) = false := by rw [lit_e, decide_eq_false g2]
            have NF := Lib.hid (show ∀ j, k + 1 = j + 1 → (ns.getD j noMv).2 = ltS 2 → fr = (ns.getD j noMv).1 from fun j' q e => by
              obtain rfl : k = j' := by omega
              rw [← HS.out] at e
              exact absurd e g2)
            clear g g2 LE TY TN
            go_wp2_with (go_at_call 74; refine SND.out.mono ?_; rintro e w1 ⟨rfl, b1⟩; have BB := Lib.hid (HB.out.trans (b1.mono HB.out.size)); have c0 := C0.out _ BB.out; have c1 := C1.out _ BB.out; have O1 := Lib.hid (HO.out.below b1); clear b1)
            go_roundw
            case rel => exact ⟨k + 1, fr, by omega, by go_num, rfl, NF, Lib.hid (by rw [NX.out]; exact O1.out), BB⟩
            case measure => simp [intOf]; omega
      · obtain rfl : k = ns.length := by omega
        go_wp2_with fail
        go_ret
        exact ⟨_, rfl, by rw [FIN.out]; exact HO.out, HB.out⟩

end Go.Proofs.Ytphadofigcipcaa
