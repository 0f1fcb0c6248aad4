/-
  RegisterLate, by the program and by the model. For lists of at most 1048576 notes.
-/
import Derived.Test.YtphadofigcipcaaRegB
import Derived.Test.YtphadofigcipcaaStepA
namespace Go.Proofs.Ytphadofigcipcaa
open Go.RowKit Go.Sort

/-- What RegisterLate hands back. -/
def latV (ns : List Mv) (k : Int) : List Mv := if regB ns = true then regL (latL ns k) else []
def latB (ns : List Mv) (k : Int) : Bool := regB ns && regB (latL ns k)
theorem latV_len (ns : List Mv) (k : Int) : (latV ns k).length ≤ 1048576 := by
  unfold latV
  split
  · have := (regB_is (regL_reg (latL ns k))).1; omega
  · simp
/-- The cells of a list whose first j notes are later already. -/
def lfT (ns : List Mv) (k : Int) (j q : Nat) : Value := if q < j * 2 then mvF (latL ns k) q else mvF ns q
theorem lfT_zero (ns : List Mv) (k : Int) (q : Nat) : lfT ns k 0 q = mvF ns q := by unfold lfT; rw [if_neg (by omega)]
theorem lfT_at (ns : List Mv) (k : Int) (j : Nat) : lfT ns k j (j * 2) = .int .i64 (ns.getD j noMv).1 := by unfold lfT; rw [if_neg (by omega), mvF0]
theorem lfT_succ {ns : List Mv} {k : Int} {j q : Nat} (hj : j < ns.length) : (if q = j * 2 then Value.int .i64 (wrap64 ((ns.getD j noMv).1 + k)) else lfT ns k j q) = lfT ns k (j + 1) q := by
  unfold lfT
  by_cases h : q = j * 2
  · rw [if_pos h, if_pos (by omega), h, mvF0, latL_get hj]
  · rw [if_neg h]
    by_cases h2 : q < j * 2
    · rw [if_pos h2, if_pos (by omega)]
    · rw [if_neg h2]
      by_cases h3 : q = j * 2 + 1
      · rw [if_pos (by omega), h3, mvF1, mvF1, latL_get hj]
      · rw [if_neg (by omega)]

set_option maxRecDepth 100000 in
set_option maxHeartbeats 4000000 in
theorem implRegisterLate {w : World} {v : Value} {ns : List Mv} (h : Mvs w v ns) (k : Int) : Calls Try.prog 17 #[v, .int .i64 k] w (MadeNtsB w (latV ns k) (latB ns k)) := by
  have R := Lib.hid (implRegisterOf h)
  obtain ⟨a, cap, rfl⟩ := Rd.slice h
  clear h
  cases hr : regB ns
  · have S := Lib.hid (show latV ns k = [] by unfold latV; rw [if_neg (by simp [hr])])
    have S2 := Lib.hid (show latB ns k = false by unfold latB; rw [hr]; rfl)
    have P := Lib.hid hr
    clear hr
    go_enter Try.func17, Try.ntmps17
    go_wp2_with (go_at_call 60; refine R.out.mono ?_)
    rintro e w1 ⟨p, rfl, ch, b1⟩
    rw [P.out]
    obtain ⟨ap, rfl⟩ := ch.ptr
    have O := Lib.hid (show OwnN (w1.alloc (.cells #[] 29)) w.heap.size (.slice (some ⟨w1.heap.size, 0, none⟩) 0 0) [] from (ow_empty w1 29 2 (mvF [])).mono b1.size)
    clear ch
    go_wp2_with fail
    go_ret2
    exact ⟨.slice (some ⟨w1.heap.size, 0, none⟩) 0 0, by rw [S2.out]; rfl, by rw [S.out]; exact O.out, b1.alloc b1.size _⟩
  · have S := Lib.hid (show latV ns k = regL (latL ns k) by unfold latV; rw [if_pos hr])
    have S2 := Lib.hid (show latB ns k = regB (latL ns k) by unfold latB; rw [hr]; rfl)
    have P := Lib.hid hr
    have h30 := (regB_is hr).1
    have h30' : (ns.length : Int) ≤ 30 := by omega
    clear hr
    go_enter Try.func17, Try.ntmps17
    go_wp2_with (go_at_call 60; refine R.out.mono ?_)
    rintro e w1 ⟨p, rfl, ch, b1⟩
    rw [P.out]
    rw [regL_yes P.out] at ch
    have NT := Lib.hid (implNotes ch (by omega))
    obtain ⟨ap, rfl⟩ := ch.ptr
    clear ch
    go_wp2_with (go_at_call 66; refine NT.out.mono ?_)
    rintro e w2 ⟨u, rfl, o2, b2⟩
    have B2 := Lib.hid (chain b1 b2)
    have o3 := Ow.mono o2 b1.size
    have O3 := Lib.hid (Ow.congr o3 (G := lfT ns k 0) (fun q _ => (lfT_zero ns k q).symm))
    have SHP := Ow.shape o2
    have TI := Lib.hid (fun (X : World) (u : Value) (i : Mvs X u (latL ns k)) => implRegisterNotes i)
    obtain ⟨rs, hrs⟩ : ∃ rs, rs = regL (latL ns k) := ⟨_, rfl⟩
    obtain ⟨t, ht⟩ : ∃ t, t = regB (latL ns k) := ⟨_, rfl⟩
    rw [← hrs, ← ht] at TI
    rw [← hrs] at S
    rw [← ht] at S2
    have LL := Lib.hid (latL_length ns k)
    clear b1 b2 o2 o3 hrs ht
    rcases SHP with ⟨rfl, h0⟩ | ⟨g, c2, rfl, hgb, hgl, hgc⟩
    · have hn : ns = [] := List.eq_nil_of_length_eq_zero h0
      subst hn
      have TN := Lib.hid (TI.out w2 (.slice none 0 0) ⟨none, 0, rfl, ⟨Nat.zero_le _, Nat.le_refl _⟩, .inl rfl⟩)
      go_wp2_with fail
      refine wp_loop_rounds 1 ?_
      rw [rounds_succ]
      go_wp2_with (go_at_call 67; refine TN.out.mono ?_; rintro e w4 ⟨u4, rfl, o4, b4⟩; obtain ⟨a4, c4, rfl⟩ := Ow.slice o4; have O4 := Lib.hid (Ow.mono o4 B2.out.size); have B4 := Lib.hid (chain B2.out b4); clear o4 b4)
      go_ret2
      exact ⟨.slice a4 rs.length c4, by rw [S2.out]; rfl, by rw [S.out]; exact O4.out, B4.out⟩
    · go_wp2_with fail
      go_loopw [22] (fun i wr => ∃ j : Nat, j ≤ ns.length ∧ i = .int .i64 j ∧ Hid (Ow wr w.heap.size 29 2 (.slice (some ⟨g, 0, none⟩) ns.length c2) ns.length (lfT ns k j)) ∧ Hid (Below w.heap.size w wr)) (fun i _ => ns.length - (intOf i).toNat)
      case atStart => exact ⟨0, by omega, rfl, O3, B2⟩
      case round =>
        obtain ⟨j, hj, rfl, HO, HB⟩ := hrel
        by_cases hlt : j < ns.length
        · have hji : (j : Int) < (ns.length : Int) := by omega
          have c0 := HO.out.cell (q := j * 2) (by omega)
          have f0 := HO.out.frozen (j * 2)
          rw [lfT_at] at c0
          have ST := HO.out.set (j * 2) (.int .i64 (wrap64 ((ns.getD j noMv).1 + k)))
          have OS := Lib.hid (ST.1.congr (G := lfT ns k (j + 1)) (fun q _ => lfT_succ hlt))
          have hgw : w.heap.size ≤ g := by have := (HO.out.under g rfl).1; exact this
          have BS := Lib.hid (HB.out.setCell (p := ⟨g, j * 2, none⟩) hgw (.int .i64 (wrap64 ((ns.getD j noMv).1 + k))))
          obtain ⟨x, hx⟩ : ∃ x, x = (ns.getD j noMv).1 := ⟨_, rfl⟩
          rw [← hx] at c0 OS BS
          clear ST hx
          go_wp2_with fail
          go_roundw
          case rel => exact ⟨j + 1, by omega, by go_num, OS, BS⟩
          case measure => simp [intOf]; omega
        · obtain rfl : j = ns.length := by omega
          have MV := HO.out.congr (G := mvF (latL ns k)) (fun q hq => by unfold lfT; rw [if_pos hq])
          have MR := Lib.hid (show Mvs wr (.slice (some ⟨g, 0, none⟩) ns.length c2) (latL ns k) by unfold Mvs; rw [LL.out]; exact Ow.rd MV (by omega))
          have TN := Lib.hid (TI.out wr _ MR.out)
          clear MV
          go_wp2_with (go_at_call 67; refine TN.out.mono ?_; rintro e w4 ⟨u4, rfl, o4, b4⟩; obtain ⟨a4, c4, rfl⟩ := Ow.slice o4; have O4 := Lib.hid (Ow.mono o4 HB.out.size); have B4 := Lib.hid (HB.out.trans (b4.mono HB.out.size)); clear o4 b4)
          go_ret2
          exact ⟨.slice a4 rs.length c4, by rw [S2.out]; rfl, by rw [S.out]; exact O4.out, B4.out⟩

set_option maxRecDepth 100000 in
set_option maxHeartbeats 4000000 in
theorem specRegisterLate {w : World} {v : Value} {ns : List Mv} (h : Mvs w v ns) {k : Int} (hk : -9223372036854775808 ≤ k ∧ k ≤ 9223372036854775807) : Calls Try.prog 38 #[v, .int .i64 k] w (MadeNtsB w (latV ns k) (latB ns k)) := by
  obtain ⟨j0, hj, hy0, hy1, hy2⟩ := info_parts info_note
  have q0 := below_alloc w (.cells #[] 29)
  have o0 := ow_empty w 29 2 (mvF [])
  obtain ⟨W, hW⟩ : ∃ W, W = w.alloc (.cells #[] 29) := ⟨_, rfl⟩
  rw [← hW] at q0 o0
  have HW := Lib.hid hW
  have Q0 := Lib.hid q0
  have O0 := Lib.hid (show OwnN W w.heap.size _ [] from o0)
  have RV := Lib.hid (fun (X : World) (c : Below w.heap.size w X) => specRegisterValid (Rd.below h c))
  have RW := Lib.hid (fun (X : World) (p : Value) (ms : List Mv) (i : Mvs X p ms) => specRegisterValid i)
  obtain ⟨a, cap, rfl⟩ := Rd.slice h
  have AT := Lib.hid (fun (i : Nat) (hi : i < ns.length) => Mvs.at h hi)
  have hl := Rd.len h
  have hl' : (ns.length : Int) ≤ 1048576 := by omega
  clear hW q0 o0 h
  by_cases h0 : ns = []
  · subst h0
    have S := Lib.hid (show latV [] k = [] from rfl)
    have S2 := Lib.hid (show latB [] k = true from rfl)
    have TN := Lib.hid (RW.out W _ [] (OwnN.nts O0.out (Nat.zero_le _)))
    have RN := Lib.hid (show regB [] = true from rfl)
    rw [RN.out] at TN
    go_enter Try.func38, Try.ntmps38
    go_wp2_with fail
    rw [← HW.out]
    refine wp_loop_rounds 1 ?_
    rw [rounds_succ]
    go_wp2_with (go_at_call 62; refine TN.out.mono ?_; rintro e w1 ⟨rfl, b1⟩; have B1 := Lib.hid (Q0.out.trans (b1.mono Q0.out.size)); have O1 := Lib.hid (O0.out.below b1); clear b1)
    go_ret2
    exact ⟨_, by rw [S2.out]; rfl, by rw [S.out]; exact O1.out, B1.out⟩
  have hpos : 0 < ns.length := List.length_pos_iff.2 h0
  have hposi : (0 : Int) < (ns.length : Int) := by omega
  have hne : ¬ (0 : Int) = (ns.length : Int) := by omega
  have hne2 : ¬ (ns.length : Int) = 0 := by omega
  have IN := Lib.hid (fun (X : World) => in_is k (-2000) 2000 X)
  cases hr : regB ns
  · rw [hr] at RV
    have S := Lib.hid (show latV ns k = [] by unfold latV; rw [if_neg (by simp [hr])])
    have S2 := Lib.hid (show latB ns k = false by unfold latB; rw [hr]; rfl)
    clear hr h0
    go_enter Try.func38, Try.ntmps38
    go_wp2_with fail
    rw [← HW.out]
    refine wp_loop_rounds 1 ?_
    rw [rounds_succ]
    go_wp2_with (go_at_call 62; refine (RV.out _ Q0.out).mono ?_; rintro e w1 ⟨rfl, b1⟩; have B1 := Lib.hid (Q0.out.trans (b1.mono Q0.out.size)); clear b1)
    have O := Lib.hid (show OwnN (w1.alloc (.cells #[] 29)) w.heap.size (.slice (some ⟨w1.heap.size, 0, none⟩) 0 0) [] from (ow_empty w1 29 2 (mvF [])).mono B1.out.size)
    go_ret2
    exact ⟨.slice (some ⟨w1.heap.size, 0, none⟩) 0 0, by rw [S2.out]; rfl, by rw [S.out]; exact O.out, B1.out.alloc B1.out.size _⟩
  rw [hr] at RV
  by_cases hin : -2000 ≤ k ∧ k ≤ 2000
  · rw [decide_eq_true hin] at IN
    have S := Lib.hid (show latV ns k = regL (latL ns k) by unfold latV; rw [if_pos hr])
    have S2 := Lib.hid (show latB ns k = regB (latL ns k) by unfold latB; rw [hr]; rfl)
    have NR := Lib.hid (fun i (hi : i < ns.length) => reg_note hr hi)
    have h30 := (regB_is hr).1
    have h30' : (ns.length : Int) ≤ 30 := by omega
    have LL := Lib.hid (latL_length ns k)
    have GET := Lib.hid (fun i (hi : i < ns.length) => latL_get (k := k) hi)
    have MORE := Lib.hid (fun i (hi : i < ns.length) => take_more (ns := latL ns k) (j := i) (by rw [latL_length]; exact hi))
    obtain ⟨ls, hls⟩ : ∃ ls, ls = latL ns k := ⟨_, rfl⟩
    rw [← hls] at S S2 LL GET MORE
    clear hr h0 hls
    go_enter Try.func38, Try.ntmps38
    go_wp2_with fail
    rw [← HW.out]
    go_loopw [6, 7] (fun v i wr => ∃ j : Nat, j ≤ ns.length ∧ i = .int .i64 j ∧ Hid (OwnN wr w.heap.size v (ls.take j)) ∧ Hid (Below w.heap.size w wr)) (fun _ i _ => ns.length - (intOf i).toNat)
    case atStart => exact ⟨0, by omega, rfl, O0, Q0⟩
    case round =>
      obtain ⟨j, hj', rfl, HO, HB⟩ := hrel
      have hlen : (ls.take j).length = j := by rw [List.length_take, LL.out]; omega
      obtain ⟨al, cl, hal⟩ := Ow.slice HO.out
      rw [hlen] at hal
      subst hal
      by_cases hlt : j < ns.length
      · obtain ⟨b, o, rfl, hb, hcell⟩ := AT.out j hlt
        obtain ⟨e0, e1⟩ := hcell j hlt
        have hji : (j : Int) < (ns.length : Int) := by omega
        have VL := Lib.hid (RV.out _ HB.out)
        have hn := NR.out j hlt
        have TM := Lib.hid (MORE.out j hlt)
        have GT := Lib.hid (GET.out j hlt)
        obtain ⟨x, hx⟩ : ∃ x, x = (ns.getD j noMv).1 := ⟨_, rfl⟩
        obtain ⟨S1, hS1⟩ : ∃ S, S = (ns.getD j noMv).2 := ⟨_, rfl⟩
        rw [← hx] at e0 hn GT
        rw [← hS1] at e1 GT
        have hx2 : 0 ≤ x ∧ x ≤ 2000 := ⟨hn.1, hn.2.1⟩
        have hw1 : IntKind.i64.wrap (x + k) = x + k := IntWalk.i64_in _ (by omega)
        have hw2 : wrap64 (x + k) = x + k := (IntWalk.i64_left _).symm.trans hw1
        rw [hw2] at GT
        have C0 := Lib.hid (fun (X : World) (c : Below w.heap.size w X) => (c.cell (p := ⟨b, o + j * 2, none⟩) hb).trans e0)
        have C1 := Lib.hid (fun (X : World) (c : Below w.heap.size w X) => show X.cell? ⟨b, o + j * 2 + 1, none⟩ = _ from (c.cell (p := ⟨b, o + j * 2 + 1, none⟩) hb).trans e1)
        have own0 := HO.out
        unfold OwnN at own0
        rw [hlen] at own0
        have OWN := Lib.hid own0
        have HL := Lib.hid hlen
        have HL1 := Lib.hid (show (ls.take (j + 1)).length = j + 1 by rw [List.length_take, LL.out]; omega)
        clear hx hS1 e0 e1 hcell hn own0 hlen
        go_wp2_with (first
          | (go_at_call 62; refine VL.out.mono ?_; rintro e w1 ⟨rfl, b1⟩; have BB := Lib.hid (HB.out.trans (b1.mono HB.out.size)); have O1 := Lib.hid (OWN.out.below b1); have c0 := C0.out _ BB.out; have c1 := C1.out _ BB.out; clear b1)
          | (go_at_call 64; refine (IN.out _).mono ?_; rintro e w2 ⟨rfl, rfl⟩))
        have HOD := Lib.hid (show ((w1.alloc (.cells #[.int .i64 (x + k), .string S1] 29)).drew).ownsRow w.heap.size 29 2 (.slice al j cl) j ((List.range (j * 2)).map (mvF (ls.take j))) from (World.ownsRow.alloc O1.out _).drew)
        have CON := Lib.hid (show ∀ q u, [Value.int .i64 (x + k), Value.string S1][q]? = some u → ((w1.alloc (.cells #[.int .i64 (x + k), .string S1] 29)).drew).cell? ((⟨w1.heap.size, 0, none⟩ : Addr).add q) = some u from lit_two_n w1 _ _ _)
        have SZ := Lib.hid (show w.heap.size ≤ ((w1.alloc (.cells #[.int .i64 (x + k), .string S1] 29)).drew).heap.size from Nat.le_trans BB.out.size (below_alloc w1 (.cells #[.int .i64 (x + k), .string S1] 29)).size)
        have BD := Lib.hid (show Below w.heap.size w (w1.alloc (.cells #[.int .i64 (x + k), .string S1] 29)).drew from (BB.out.alloc BB.out.size _).drew)
        go_region_law (refine step_append_own rfl (.tmp 23) (.tmp 37) 23 rfl w.heap.size 29 j0 (.agg #[.int .i64 0, .string ⟨#[]⟩]) 2 24 Try.underlying23 hj hy0 hy1 hy2 rfl (by decide) (.slice al j cl) j _ (by simp [Act.eval]) HOD.out ⟨w1.heap.size, 0, none⟩ 1 1 [.int .i64 (x + k), .string S1] (by simp [Act.eval]) rfl CON.out (by intro u hu; simp at hu; rcases hu with rfl | rfl <;> rfl) (by simp only [maxLen]; omega) (by omega) SZ.out ?_; intro v2 w2 hown2 hgrow; have HO2 := Lib.hid (show OwnN w2 w.heap.size v2 (ls.take (j + 1)) by rw [TM.out, GT.out]; refine nts_more ?_; rw [HL.out]; exact hown2); have HB2 := Lib.hid (BD.out.grown hgrow SZ.out (fun c hc => (HOD.out.lt c hc).1)); obtain ⟨av2, cv2, hv2⟩ := Ow.slice HO2.out; rw [HL1.out] at hv2; subst hv2)
        all_goals
          (clear hown2 hgrow
           go_wp2_with fail
           go_roundw
           case rel => exact ⟨j + 1, by omega, by go_num, HO2, HB2⟩
           case measure => simp [intOf]; omega)
      · have hje : j = ns.length := by omega
        subst hje
        have OA := HO.out
        rw [show ls.take ns.length = ls by rw [← LL.out]; exact List.take_length] at OA
        have OL := Lib.hid OA
        have VW := Lib.hid (RW.out _ _ ls (OwnN.nts OA (by rw [LL.out]; omega)))
        have RL := Lib.hid (show regL ls = if regB ls = true then ls else [] from rfl)
        obtain ⟨t, ht⟩ : ∃ t, t = regB ls := ⟨_, rfl⟩
        rw [← ht] at VW S2 RL
        clear OA ht hlen
        cases t
        · go_wp2_with (go_at_call 62; refine VW.out.mono ?_; rintro e w1 ⟨rfl, b1⟩; have B1 := Lib.hid (HB.out.trans (b1.mono HB.out.size)); clear b1)
          have O := Lib.hid (show OwnN (w1.alloc (.cells #[] 29)) w.heap.size (.slice (some ⟨w1.heap.size, 0, none⟩) 0 0) [] from (ow_empty w1 29 2 (mvF [])).mono B1.out.size)
          go_ret2
          exact ⟨.slice (some ⟨w1.heap.size, 0, none⟩) 0 0, by rw [S2.out]; rfl, by rw [S.out, RL.out]; exact O.out, B1.out.alloc B1.out.size _⟩
        · go_wp2_with (go_at_call 62; refine VW.out.mono ?_; rintro e w1 ⟨rfl, b1⟩; have B1 := Lib.hid (HB.out.trans (b1.mono HB.out.size)); have O1 := Lib.hid (OL.out.below b1); clear b1)
          go_ret2
          exact ⟨.slice al ns.length cl, by rw [S2.out]; rfl, by rw [S.out, RL.out]; exact O1.out, B1.out⟩
  · rw [decide_eq_false hin] at IN
    have S := Lib.hid (show latV ns k = [] by unfold latV; rw [if_pos hr, regL_no (latL_far hr hk (by omega) h0)])
    have S2 := Lib.hid (show latB ns k = false by unfold latB; rw [hr, latL_far hr hk (by omega) h0]; rfl)
    clear hr h0 hin
    go_enter Try.func38, Try.ntmps38
    go_wp2_with fail
    rw [← HW.out]
    refine wp_loop_rounds 1 ?_
    rw [rounds_succ]
    go_wp2_with (first
      | (go_at_call 62; refine (RV.out _ Q0.out).mono ?_; rintro e w1 ⟨rfl, b1⟩; have B1 := Lib.hid (Q0.out.trans (b1.mono Q0.out.size)); clear b1)
      | (go_at_call 64; refine (IN.out _).mono ?_; rintro e w2 ⟨rfl, rfl⟩))
    have O := Lib.hid (show OwnN (w1.alloc (.cells #[] 29)) w.heap.size (.slice (some ⟨w1.heap.size, 0, none⟩) 0 0) [] from (ow_empty w1 29 2 (mvF [])).mono B1.out.size)
    go_ret2
    exact ⟨.slice (some ⟨w1.heap.size, 0, none⟩) 0 0, by rw [S2.out]; rfl, by rw [S.out]; exact O.out, B1.out.alloc B1.out.size _⟩

end Go.Proofs.Ytphadofigcipcaa
