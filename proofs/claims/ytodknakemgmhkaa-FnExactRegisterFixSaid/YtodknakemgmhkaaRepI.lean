/-
  The program's BlockRepair. For texts of at most 1048576 bytes.
-/
import Derived.Test.YtodknakemgmhkaaStrO
import Derived.Test.YtodknakemgmhkaaBlockE
namespace Go.Proofs.Ytodknakemgmhkaa
open Go.RowKit Go.Sort

set_option maxRecDepth 100000 in
set_option maxHeartbeats 8000000 in
theorem implRepair (S : ByteArray) (hS : S.size ≤ 1048576) (w : World) :
    Calls Try.prog 81 #[.string S] w (MadeStrs w (repL S)) := by
  obtain ⟨i0, hi, hz0, hz1, hz2⟩ := info_parts info_str
  have q0 := below_alloc w (.cells #[] 9)
  have o0 := ownS_empty w
  obtain ⟨W, hW⟩ : ∃ W, W = w.alloc (.cells #[] 9) := ⟨_, rfl⟩
  rw [← hW] at q0 o0
  have HW := Lib.hid hW
  have Q0 := Lib.hid q0
  have O0 := Lib.hid o0
  clear hW q0 o0
  rcases Nat.lt_or_ge S.size 30 with hsm | hbig
  · have hb : (S.size : Int) < 30 := by omega
    have D := Lib.hid (repL_is hb)
    have hw1 : wrap64 ((S.size : Int) + 1) = (S.size : Int) + 1 := (IntWalk.i64_left _).symm.trans (IntWalk.i64_in _ (by omega))
    clear hsm
    go_enter Try.func81, Try.ntmps81
    go_wp2_with fail
    rw [← HW.out]
    go_loopw [3, 16] (fun v i wr => ∃ p : Nat, p ≤ S.size + 1 ∧ i = .int .i64 p ∧ OwnS wr w.heap.size v (repTo S (7 * p)) ∧ Below w.heap.size w wr) (fun _ i _ => S.size + 1 - (intOf i).toNat)
    case atStart => exact ⟨0, by omega, rfl, O0.out, Q0.out⟩
    case round =>
      obtain ⟨p, hp, rfl, hown, hbel⟩ := hrel
      by_cases hlt : p < S.size + 1
      · obtain ⟨wo, rfl⟩ : ∃ X, X = wr := ⟨_, rfl⟩
        have hpi : (p : Int) < (S.size : Int) + 1 := by omega
        have hsz : w.heap.size ≤ wo.heap.size := hbel.size
        have hit : (wo.iter lts 0).heap[wo.heap.size]? = some (.stringIter lts 0) := World.iter_heap _ _ _
        have bi : Below wo.heap.size wo (wo.iter lts 0) := below_alloc _ _
        obtain ⟨W3, hW3⟩ : ∃ X, X = wo.iter lts 0 := ⟨_, rfl⟩
        have O1 := Lib.hid (hown.below bi)
        have B1 := Lib.hid (hbel.trans (bi.mono hsz))
        have I1 := Lib.hid hit
        rw [← hW3] at O1 B1 I1
        have HW3 := Lib.hid hW3
        obtain ⟨A, hA⟩ : ∃ A, A = S.extract 0 p := ⟨_, rfl⟩
        obtain ⟨B, hB⟩ : ∃ B, B = S.extract p S.size := ⟨_, rfl⟩
        have hAs : A.size ≤ 30 := by rw [hA, ByteArray.size_extract]; omega
        have hBs : B.size ≤ 30 := by rw [hB, ByteArray.size_extract]; omega
        have p1 := part_to (S := S) (k := p) (by omega)
        have p2 := part_from (S := S) (k := p) (by omega)
        rw [← hA] at p1
        rw [← hB] at p2
        have HI := Lib.hid (fun (k : Nat) => (show A ++ ltS k ++ B = insAt S p k by rw [hA, hB]; rfl))
        clear hA hB hit bi hown hbel hW3
        go_wp2_with fail
        rw [← show W3 = wo.iter ⟨#[97, 99, 101, 102, 108, 111, 114]⟩ 0 from HW3.out]
        go_loopw [3] (fun v wr => ∃ k : Nat, k ≤ 7 ∧ OwnS wr w.heap.size v (repTo S (7 * p + k)) ∧ wr.heap[wo.heap.size]? = some (.stringIter lts k) ∧ Below w.heap.size w wr) (fun _ wr => 7 - wr.iterPos wo.heap.size)
        case atStart => exact ⟨0, by omega, O1.out, I1.out, B1.out⟩
        case round =>
          obtain ⟨k, hk, hown, hit, hbel⟩ := hrel
          have hK : wo.heap.size < wr.heap.size := (Array.getElem?_eq_some_iff.1 hit).1
          have HT := Lib.hid hit
          by_cases hlt7 : k < 7
          · obtain ⟨x, hx⟩ : ∃ x, x = ltr k := ⟨_, rfl⟩
            obtain ⟨q, hq⟩ : ∃ q, q = ltS k := ⟨_, rfl⟩
            have hqs : q.size = 1 := by rw [hq]; exact ltS_size k
            have hnx : ∀ ty, (Instr.next (.pointer (some ⟨wo.heap.size, 0, none⟩)) true ty).run Try.prog wr = .ok (.tuple #[.bool true, .int .i64 k, .int .i32 x]) (wr.iterAt wo.heap.size lts (k + 1)) := by rw [hx]; exact fun ty => lts_next hlt7 HT.out ty
            have hcv : ∀ w, (Go.convert 21 9 (.int .i32 x)).run Try.prog w = .ok (.string q) w := by rw [hx, hq]; exact fun w => ltr_convert hlt7 w
            have O2 := Lib.hid (hown.iterAt HT.out (k + 1))
            have I2 := Lib.hid (Lib.iterAt_heap wr wo.heap.size lts k (k + 1) HT.out)
            have B2 := Lib.hid (Lib.below_iterAt hbel (k := wo.heap.size) hsz lts (k + 1))
            have s2 : (wr.iterAt wo.heap.size lts (k + 1)).heap.size = wr.heap.size := Lib.iterAt_size _ _ _ _
            obtain ⟨WI, hWI⟩ : ∃ X, X = wr.iterAt wo.heap.size lts (k + 1) := ⟨_, rfl⟩
            rw [← hWI] at hnx O2 I2 B2 s2
            obtain ⟨A1, hA1⟩ : ∃ X, X = A ++ q := ⟨_, rfl⟩
            obtain ⟨C, hC⟩ : ∃ X, X = A1 ++ B := ⟨_, rfl⟩
            have hA1s : A1.size ≤ 31 := by rw [hA1, ByteArray.size_append]; omega
            have hCs : C.size ≤ 61 := by rw [hC, ByteArray.size_append]; omega
            have p3 : ∀ w, (Op.stringOp .add A q).run Try.prog w = .ok (.string A1) w := fun w => by rw [hA1]; exact run_string_add_sum (P := Try.prog) w A q (by omega)
            have p4 : ∀ w, (Op.stringOp .add A1 B).run Try.prog w = .ok (.string C) w := fun w => by rw [hC]; exact run_string_add_sum (P := Try.prog) w A1 B (by omega)
            have hCI : C = insAt S p k := by rw [hC, hA1, hq]; exact HI.out k
            obtain ⟨t, ht⟩ : ∃ t, t = bkLegal C := ⟨_, rfl⟩
            have LG := Lib.hid (implLegal C (by omega))
            rw [← ht] at LG
            have HL := Lib.hid (ht.trans (by rw [hCI] : bkLegal C = bkLegal (insAt S p k)))
            have HC := Lib.hid hCI
            have hsI : w.heap.size ≤ WI.heap.size := by omega
            clear hx hq hWI hA1 hC hCI ht hown hit hbel hqs
            go_wp2_with fail
            refine wp_region_quiet_below (by kernel_rfl) (by kernel_rfl) ?_
            repeat (go_big_quiet_step (fail))
            refine wpQuiet_nil ?_
            intro _ hw'
            obtain ⟨⟨dq, osq⟩, hw''⟩ := hw'
            subst hw''
            have br := below_regrown WI dq osq
            obtain ⟨wz, hwz⟩ : ∃ X, X = grow (redrawn WI dq) osq := ⟨_, rfl⟩
            rw [← hwz] at br ⊢
            have O3 := Lib.hid (O2.out.below br)
            have I3 := Lib.hid ((br.block wo.heap.size (by omega)).trans I2.out)
            have B3 := Lib.hid (B2.out.trans (br.mono hsI))
            have s3 : WI.heap.size ≤ wz.heap.size := br.size
            clear br hwz p3 p4 hnx hcv
            go_wp2_with (go_at_call 87; refine (LG.out _).mono ?_)
            rintro e w4 ⟨rfl, b4⟩
            have O4 := O3.out.below b4
            have I4 := Lib.hid ((b4.block wo.heap.size (by omega)).trans I3.out)
            have B4 := Lib.hid (B3.out.trans (b4.mono (by omega)))
            have s4 : wz.heap.size ≤ w4.heap.size := b4.size
            clear b4
            cases t
            · have N := Lib.hid (repTo_no hlt7 HL.out.symm)
              have OO := Lib.hid O4
              clear O4
              go_wp2_with fail
              go_roundw
              case rel => exact ⟨k + 1, by omega, N.out ▸ OO.out, I4.out, B4.out⟩
              case measure =>
                simp only [World.iterPos, I4.out, HT.out]
                omega
            · have Y := Lib.hid (repTo_yes hlt7 HL.out.symm)
              obtain ⟨m, hm⟩ : ∃ m, m = (repTo S (7 * p + k)).length := ⟨_, rfl⟩
              have hm5 : m ≤ 300 := by have := repTo_length S (7 * p + k); omega
              unfold OwnS at O4
              rw [← hm] at O4
              obtain ⟨av, cv, rfl⟩ := own_slice2 O4
              have HM := Lib.hid hm
              have NI := Lib.hid (show (Value.slice av m cv).ownBlock ≠ some wo.heap.size by
                have := OwnS.not_iter (show OwnS w4 w.heap.size (.slice av m cv) (repTo S (7 * p + k)) by unfold OwnS; rw [← HM.out]; exact O4) I4.out
                exact this)
              clear hm
              go_wp2_with (at_builtin; refine wpList_append_own _ rfl _ _ 90 rfl w.heap.size 9 i0 (.string ⟨#[]⟩) 1 16 Try.underlying90 hi hz0 hz1 hz2 rfl (by decide) _ _ _ rfl (O4.alloc _) ⟨w4.heap.size, 0, none⟩ 1 1 [.string C] rfl rfl ?c1 ?c2 ?c3 ?c4 ?c5 ?_)
              case c1 => exact cell_one_new _ _ _
              case c2 => intro u hu; simp at hu; subst hu; rfl
              case c3 => simp only [maxLen]; omega
              case c4 => omega
              case c5 => simp; omega
              intro v' w5 hown' hgrow _
              have HB := Lib.hid ((B4.out.alloc (by omega) _).grown hgrow (by simp; omega) (fun g hg => (O4.lt g hg).1))
              have I5 := Lib.hid ((hgrow.block wo.heap.size (by simp; omega) (fun e => NI.out e.symm)).trans ((Go.Deep.blk_alloc_lt w4 (.cells #[.string C] 9) _ (by omega)).trans I4.out))
              have HO := Lib.hid (show OwnS w5 w.heap.size v' (repTo S (7 * p + (k + 1))) by
                unfold OwnS
                rw [Y.out, List.length_append, List.map_append, ← HM.out, ← HC.out]
                exact hown')
              obtain ⟨av', cv', rfl⟩ := own_slice2 hown'
              clear hown' hgrow O4
              go_wp2_with fail
              go_roundw
              case rel => exact ⟨k + 1, by omega, HO.out, I5.out, HB.out⟩
              case measure =>
                simp only [World.iterPos, I5.out, HT.out]
                omega
          · obtain rfl : k = 7 := by omega
            have hnx : ∀ ty, (Instr.next (.pointer (some ⟨wo.heap.size, 0, none⟩)) true ty).run Try.prog wr = .ok (.tuple #[.bool false]) wr := fun ty => lts_stop HT.out ty
            have OO := Lib.hid hown
            have BB := Lib.hid hbel
            clear hown hit hbel
            go_wp2_with fail
            go_roundw
            case rel => exact ⟨p + 1, by omega, by go_num, by rw [show 7 * (p + 1) = 7 * p + 7 by omega]; exact OO.out, BB.out⟩
            case measure => simp [intOf]; omega
      · obtain rfl : p = S.size + 1 := by omega
        go_wp2_with fail
        go_ret
        exact ⟨_, rfl, D.out ▸ hown, hbel⟩
  · have hb : (30 : Int) ≤ (S.size : Int) := by omega
    have N := Lib.hid (repL_long hb)
    go_enter Try.func81, Try.ntmps81
    go_wp2_with fail
    rw [← HW.out]
    go_ret
    exact ⟨_, rfl, N.out ▸ O0.out, Q0.out⟩

end Go.Proofs.Ytodknakemgmhkaa
