/-
  The model's BlockRepair. For texts of at most 1048576 bytes.
-/
import Derived.Test.YtilkphehonilbaaStrO
import Derived.Test.YtilkphehonilbaaBlockN
namespace Go.Proofs.Ytilkphehonilbaa
open Go.RowKit Go.Sort

theorem str_ne {s t : ByteArray} (h : s ≠ t) : (s.toList == t.toList) = false := by
  rw [ByteArray.toList_eq, ByteArray.toList_eq, beq_eq_false_iff_ne]
  exact fun q => h (by rw [ByteArray.ext_iff, ← Array.toList_inj]; exact q)

set_option maxHeartbeats 1000000 in
theorem has_not {w : World} {base : Nat} {v : Value} {ss : List ByteArray} {s : ByteArray} (h : OwnS w base v ss) (hl : ss.length ≤ 1048576) (hno : ∀ X ∈ ss, X ≠ s) :
    Calls Try.prog 45 #[v, .string s] w fun e w' => e = .returned (.bool false) ∧ w = w' := by
  obtain ⟨a, cap, rfl, hcap, hc⟩ := h.cells
  have hl' : (ss.length : Int) ≤ 1048576 := by omega
  have NO := Lib.hid hno
  have HH := Lib.hid h
  clear hno h
  rcases hc with rfl | ⟨g, rfl, hb, hlt, hcell⟩
  · go_enter Try.func45, Try.ntmps45
    go_wp2_with fail
    refine wp_loop_rounds 1 ?_
    rw [rounds_succ]
    go_wp2_with fail
    go_ret
    exact ⟨rfl, rfl⟩
  · have HC := Lib.hid hcell
    clear hcell
    go_enter Try.func45, Try.ntmps45
    go_wp2_with fail
    go_loop [5] (fun i => ∃ k : Nat, k ≤ ss.length ∧ i = .int .i64 k) (fun i => ss.length - (intOf i).toNat)
    case atStart => exact ⟨0, by omega, rfl⟩
    case round =>
      obtain ⟨k, hk, rfl⟩ := hrel
      by_cases hlt2 : k < ss.length
      · obtain ⟨t, ht⟩ : ∃ t, t = ss.getD k ⟨#[]⟩ := ⟨_, rfl⟩
        have hc1 : w.cell? ⟨g, k, none⟩ = some (.string t) := by rw [ht]; exact HC.out k hlt2
        have hc2 : w.cell? ⟨g, 0 + k, none⟩ = some (.string t) := by rw [Nat.zero_add]; exact hc1
        have hne : t ≠ s := NO.out t (by rw [ht, List.getD_eq_getElem?_getD, List.getElem?_eq_getElem hlt2]; exact List.getElem_mem hlt2)
        have e1 := str_ne hne
        have e2 := str_ne (Ne.symm hne)
        have hki : (k : Int) < (ss.length : Int) := by omega
        clear ht hne
        go_wp2_with fail
        go_round
        case rel => exact ⟨k + 1, by omega, by go_num⟩
        case measure => simp [intOf]; omega
      · obtain rfl : k = ss.length := by omega
        go_wp2_with fail
        go_ret
        exact ⟨rfl, rfl⟩

set_option maxRecDepth 100000 in
set_option maxHeartbeats 8000000 in
theorem specRepair (S : ByteArray) (hS : S.size ≤ 1048576) (w : World) :
    Calls Try.prog 32 #[.string S] w (MadeStrs w (repL S)) := by
  obtain ⟨i0, hi, hz0, hz1, hz2⟩ := info_parts info_str
  have q0 := below_alloc w (.cells #[] 9)
  have o0 := ownS_empty w
  obtain ⟨W, hW⟩ : ∃ W, W = w.alloc (.cells #[] 9) := ⟨_, rfl⟩
  rw [← hW] at q0 o0
  have HW := Lib.hid hW
  have Q0 := Lib.hid q0
  have O0 := Lib.hid o0
  clear hW q0 o0
  rcases Nat.lt_or_ge S.size 30 with hsm | hbig
  · have hb : (S.size : Int) < 30 := by omega
    have D := Lib.hid (repL_is hb)
    clear hsm
    go_enter Try.func32, Try.ntmps32
    go_wp2_with fail
    rw [← HW.out]
    go_loopw [3, 5] (fun v i wr => ∃ p : Nat, p ≤ S.size + 1 ∧ i = .int .i64 p ∧ OwnS wr w.heap.size v (repTo S (7 * p)) ∧ Below w.heap.size w wr) (fun _ i _ => S.size + 1 - (intOf i).toNat)
    case atStart => exact ⟨0, by omega, rfl, O0.out, Q0.out⟩
    case round =>
      obtain ⟨p, hp, rfl, hown, hbel⟩ := hrel
      by_cases hlt : p < S.size + 1
      · obtain ⟨wo, rfl⟩ : ∃ X, X = wr := ⟨_, rfl⟩
        have hpi : (p : Int) ≤ (S.size : Int) := by omega
        have hsz : w.heap.size ≤ wo.heap.size := hbel.size
        have O1 := Lib.hid hown
        have B1 := Lib.hid hbel
        obtain ⟨A, hA⟩ : ∃ A, A = S.extract 0 p := ⟨_, rfl⟩
        obtain ⟨B, hB⟩ : ∃ B, B = S.extract p S.size := ⟨_, rfl⟩
        have hAs : A.size ≤ 30 := by rw [hA, ByteArray.size_extract]; omega
        have hBs : B.size ≤ 30 := by rw [hB, ByteArray.size_extract]; omega
        have p1 := part_to (S := S) (k := p) (by omega)
        have p2 := part_from (S := S) (k := p) (by omega)
        rw [← hA] at p1
        rw [← hB] at p2
        have HI := Lib.hid (fun (k : Nat) => (show A ++ ltS k ++ B = insAt S p k by rw [hA, hB]; rfl))
        clear hA hB hown hbel
        go_wp2_with fail
        go_loopw [3, 6] (fun v i wr => ∃ k : Nat, k ≤ 7 ∧ i = .int .i64 k ∧ OwnS wr w.heap.size v (repTo S (7 * p + k)) ∧ Below w.heap.size w wr) (fun _ i _ => 7 - (intOf i).toNat)
        case atStart => exact ⟨0, by omega, rfl, O1.out, B1.out⟩
        case round =>
          obtain ⟨k, hk, rfl, hown, hbel⟩ := hrel
          by_cases hlt7 : k < 7
          · have hki : (k : Int) < 7 := by omega
            have hsI : w.heap.size ≤ wr.heap.size := hbel.size
            obtain ⟨q, hq⟩ : ∃ q, q = ltS k := ⟨_, rfl⟩
            have hqs : q.size = 1 := by rw [hq]; exact ltS_size k
            have hsl := fun w => lts_part hlt7 w
            rw [← hq] at hsl
            have hw1 : IntKind.i64.wrap ((k : Int) + 1) = (k : Int) + 1 := IntWalk.i64_in _ (by omega)
            obtain ⟨A1, hA1⟩ : ∃ X, X = A ++ q := ⟨_, rfl⟩
            obtain ⟨C, hC⟩ : ∃ X, X = A1 ++ B := ⟨_, rfl⟩
            have hA1s : A1.size ≤ 31 := by rw [hA1, ByteArray.size_append]; omega
            have hCs : C.size ≤ 61 := by rw [hC, ByteArray.size_append]; omega
            have p3 : ∀ w, (Op.stringOp .add A q).run Try.prog w = .ok (.string A1) w := fun w => by rw [hA1]; exact run_string_add_sum (P := Try.prog) w A q (by omega)
            have p4 : ∀ w, (Op.stringOp .add A1 B).run Try.prog w = .ok (.string C) w := fun w => by rw [hC]; exact run_string_add_sum (P := Try.prog) w A1 B (by omega)
            have hCI : C = insAt S p k := by rw [hC, hA1, hq]; exact HI.out k
            obtain ⟨t, ht⟩ : ∃ t, t = bkLegal C := ⟨_, rfl⟩
            have LG := Lib.hid (specLegal C (by omega))
            rw [← ht] at LG
            have HL := Lib.hid (ht.trans (by rw [hCI] : bkLegal C = bkLegal (insAt S p k)))
            have HC := Lib.hid hCI
            have O2 := Lib.hid hown
            have B2 := Lib.hid hbel
            clear hq hA1 hC hCI ht hown hbel hqs
            go_wp2_with fail
            refine wp_region_quiet_below (by kernel_rfl) (by kernel_rfl) ?_
            repeat (go_big_quiet_step (fail))
            refine wpQuiet_nil ?_
            intro _ hw'
            obtain ⟨⟨dq, osq⟩, hw''⟩ := hw'
            subst hw''
            have br := below_regrown wr dq osq
            obtain ⟨wz, hwz⟩ : ∃ X, X = grow (redrawn wr dq) osq := ⟨_, rfl⟩
            rw [← hwz] at br ⊢
            have O3 := Lib.hid (O2.out.below br)
            have B3 := Lib.hid (B2.out.trans (br.mono hsI))
            have s3 : wr.heap.size ≤ wz.heap.size := br.size
            clear br hwz p3 p4 hsl hw1
            have hlen : (repTo S (7 * p + k)).length ≤ 1048576 := by have := repTo_length S (7 * p + k); omega
            cases t
            · have N := Lib.hid (repTo_no hlt7 HL.out.symm)
              go_wp2_with (go_at_call 44; refine (LG.out _).mono ?_)
              rintro e w4 ⟨rfl, b4⟩
              have O4 := Lib.hid (O3.out.below b4)
              have B4 := Lib.hid (B3.out.trans (b4.mono (by omega)))
              clear b4
              go_wp2_with fail
              go_roundw
              case rel => exact ⟨k + 1, by omega, by go_num, N.out ▸ O4.out, B4.out⟩
              case measure => simp [intOf]; omega
            · have Y := Lib.hid (repTo_yes hlt7 HL.out.symm)
              have NW := Lib.hid (show ∀ X ∈ repTo S (7 * p + k), X ≠ C by rw [HC.out]; exact repTo_new (by omega) hlt7 HL.out.symm)
              go_wp2_with (go_at_call 44; refine (LG.out _).mono ?_)
              rintro e w4 ⟨rfl, b4⟩
              have O4 := O3.out.below b4
              have B4 := Lib.hid (B3.out.trans (b4.mono (by omega)))
              have s4 : wz.heap.size ≤ w4.heap.size := b4.size
              have HN := Lib.hid (has_not O4 hlen NW.out)
              clear b4
              obtain ⟨m, hm⟩ : ∃ m, m = (repTo S (7 * p + k)).length := ⟨_, rfl⟩
              have hm5 : m ≤ 300 := by have := repTo_length S (7 * p + k); omega
              unfold OwnS at O4
              rw [← hm] at O4
              obtain ⟨av, cv, rfl⟩ := own_slice2 O4
              have HM := Lib.hid hm
              clear hm hlen
              go_wp2_with (first | (go_at_call 45; refine HN.out.mono ?_; rintro e w' ⟨rfl, rfl⟩) | (at_builtin; refine wpList_append_own _ rfl _ _ 37 rfl w.heap.size 9 i0 (.string ⟨#[]⟩) 1 16 Try.underlying37 hi hz0 hz1 hz2 rfl (by decide) _ _ _ rfl (O4.alloc _) ⟨w4.heap.size, 0, none⟩ 1 1 [.string C] rfl rfl ?c1 ?c2 ?c3 ?c4 ?c5 ?_))
              case c1 => exact cell_one_new _ _ _
              case c2 => intro u hu; simp at hu; subst hu; rfl
              case c3 => simp only [maxLen]; omega
              case c4 => omega
              case c5 => simp; omega
              intro v' w5 hown' hgrow _
              have HB := Lib.hid ((B4.out.alloc (by omega) _).grown hgrow (by simp; omega) (fun g hg => (O4.lt g hg).1))
              have HO := Lib.hid (show OwnS w5 w.heap.size v' (repTo S (7 * p + (k + 1))) by
                unfold OwnS
                rw [Y.out, List.length_append, List.map_append, ← HM.out, ← HC.out]
                exact hown')
              obtain ⟨av', cv', rfl⟩ := own_slice2 hown'
              clear hown' hgrow O4
              go_wp2_with fail
              go_roundw
              case rel => exact ⟨k + 1, by omega, by go_num, HO.out, HB.out⟩
              case measure => simp [intOf]; omega
          · obtain rfl : k = 7 := by omega
            have OO := Lib.hid hown
            have BB := Lib.hid hbel
            clear hown hbel
            go_wp2_with fail
            go_roundw
            case rel => exact ⟨p + 1, by omega, by go_num, by rw [show 7 * (p + 1) = 7 * p + 7 by omega]; exact OO.out, BB.out⟩
            case measure => simp [intOf]; omega
      · obtain rfl : p = S.size + 1 := by omega
        have hno : ¬ ((S.size + 1 : Nat) : Int) ≤ (S.size : Int) := by omega
        go_wp2_with fail
        go_ret
        exact ⟨_, rfl, D.out ▸ hown, hbel⟩
  · have hb : (30 : Int) ≤ (S.size : Int) := by omega
    have N := Lib.hid (repL_long hb)
    go_enter Try.func32, Try.ntmps32
    go_wp2_with fail
    refine wp_loop_rounds 1 ?_
    rw [rounds_succ]
    go_wp2_with fail
    rw [← HW.out]
    go_ret
    exact ⟨_, rfl, N.out ▸ O0.out, Q0.out⟩

end Go.Proofs.Ytilkphehonilbaa
