/-
  A step at a circuit and the circuits that can change, by the model. For texts of at most 1048576 bytes.
-/
import Derived.Test.YtilkphehonilbaaDoorTrkD
import Derived.Test.YtilkphehonilbaaDoorStrP
import Derived.BigQuiet
namespace Go.Proofs.YtilkphehonilbaaDoor
open Go.RowKit Go.Sort

theorem can_zero {n o : Nat} (h : o.testBit 0 = false) : can n o 0 = true := by unfold can; rw [h]; simp
theorem can_off {n o j : Nat} (h : o.testBit (j + 1) = false) : can n o (j + 1) = o.testBit j := by unfold can; rw [h]; simp
theorem can_last {n o k : Nat} (h : o.testBit k = true) (hk : k + 1 = n) : can n o k = true := by unfold can; rw [h]; simp [hk]
theorem can_on {n o k : Nat} (h : o.testBit k = true) (hk : k + 1 ≠ n) : can n o k = o.testBit (k + 1) := by unfold can; rw [h]; simp [hk]
theorem cat_q (A B : ByteArray) (h : A.size + B.size ≤ 9223372036854775807) : ∀ w, (Op.stringOp .add A B).run Tryd.prog w = .ok (.string (A ++ B)) w := fun w => run_string_add_sum (P := Tryd.prog) w A B h

set_option maxHeartbeats 4000000 in
theorem specStep7 (S : ByteArray) (k : Nat) (ht : trB S = true) (hk : k < S.size) (w : World) :
    Calls Tryd.prog 45 #[.string S, .int .i64 k] w fun e w' => e = .returned (stR S.size (oc S) k) ∧ Below w.heap.size w w' := by
  have h8 : S.size ≤ 8 := (trB_of ht).1.2
  have h8' : (S.size : Int) ≤ 8 := by omega
  have hki : (k : Int) < (S.size : Int) := by omega
  have hix := index_is hk
  have AT := fun (i : Nat) (hi : i < S.size) => oc_at ht hi
  rw [AT k hk] at hix
  have ST := fun (b : UInt8) (hb : (b.toNat : Int) = if (oc S).testBit k then 48 else 49) => step_text ht hk b hb
  have YES := @stR_yes S.size (oc S) k
  have NO := @stR_no S.size (oc S) k
  have CZ := @can_zero S.size (oc S)
  have CF := @can_off S.size (oc S)
  have CL := @can_last S.size (oc S) k
  have CN := @can_on S.size (oc S) k
  obtain ⟨n, hn⟩ : ∃ n, n = S.size := ⟨_, rfl⟩
  obtain ⟨o, ho⟩ : ∃ o, o = oc S := ⟨_, rfl⟩
  simp only [← ho] at hix AT ST YES NO CZ CF CL CN ⊢
  obtain ⟨A, hA⟩ : ∃ A, A = S.extract 0 k := ⟨_, rfl⟩
  obtain ⟨B, hB⟩ : ∃ B, B = S.extract (k + 1) S.size := ⟨_, rfl⟩
  have hAs : A.size ≤ 8 := by rw [hA, ByteArray.size_extract]; omega
  have hBs : B.size ≤ 8 := by rw [hB, ByteArray.size_extract]; omega
  have p1 := part_to (S := S) (k := k) (by omega)
  have p2 : ∀ w, (Instr.slice 9 (.string S) (some (.int .i64 ((k : Int) + 1))) none none).run Tryd.prog w = .ok (.string B) w := by
    intro w
    rw [hB]
    exact part_from (S := S) (k := k + 1) (by omega) w
  rw [← hA] at p1 ST
  rw [← hB] at ST
  have hw1 : IntKind.i64.wrap ((k : Int) + 1) = (k : Int) + 1 := IntWalk.i64_in _ (by omega)
  clear hA hB ho
  obtain ⟨t, htt⟩ : ∃ t, t = o.testBit k := ⟨_, rfl⟩
  rw [← htt] at hix
  simp only [← htt] at ST
  cases t
  · simp only [Bool.false_eq_true, ↓reduceIte] at hix ST
    by_cases h0 : k = 0
    · have t0 : ((k : Int) == 0) = true := by rw [h0]; rfl
      have E := Lib.hid (YES (by rw [h0]; exact CZ (by rw [← h0]; exact htt.symm)))
      obtain ⟨X, hX⟩ : ∃ X, X = A ++ (⟨#[49]⟩ : ByteArray) := ⟨_, rfl⟩
      obtain ⟨Y, hY⟩ : ∃ Y, Y = X ++ B := ⟨_, rfl⟩
      have hXs : X.size ≤ 9 := by rw [hX, ByteArray.size_append]; show A.size + 1 ≤ 9; omega
      have p3 := cat_q A ⟨#[49]⟩ (by show A.size + 1 ≤ 9223372036854775807; omega)
      have p4 := cat_q X B (by omega)
      rw [← hX] at p3
      rw [← hY] at p4
      have HY := Lib.hid (show Y = trS S.size (fl o k) by rw [hY, hX]; exact ST 49 rfl)
      clear hX hY ST YES NO CZ CF CL CN AT htt h0
      go_enter Tryd.func45, Tryd.ntmps45
      go_wp2_with fail
      refine wp_region_quiet_below (by kernel_rfl) (by kernel_rfl) ?_
      repeat (go_big_quiet_step (fail))
      refine wpQuiet_nil ?_
      intro _ hw'
      obtain ⟨⟨dq, osq⟩, hw''⟩ := hw'
      subst hw''
      have BR := below_regrown w dq osq
      go_wp2_with fail
      go_ret2
      exact ⟨by rw [E.out, ← HY.out]; rfl, BR⟩
    · obtain ⟨j, rfl⟩ : ∃ j, k = j + 1 := ⟨k - 1, by omega⟩
      have hiy := index_is (S := S) (k := j) (by omega)
      rw [AT j (by omega)] at hiy
      have CF := CF htt.symm
      have hki2 : (j : Int) < (S.size : Int) := by omega
      have hw2 : IntKind.i64.wrap ((j : Int) + 1 - 1) = (j : Int) := by rw [show (j : Int) + 1 - 1 = (j : Int) by omega]; exact IntWalk.i64_in _ (by omega)
      have hix : ∀ w : World, (Instr.index 9 (.string S) (.int .i64 ((j : Int) + 1))).run Tryd.prog w = .ok (.int .u8 48) w := hix
      have p1 : ∀ w : World, (Instr.slice 9 (.string S) none (some (.int .i64 ((j : Int) + 1))) none).run Tryd.prog w = .ok (.string A) w := p1
      have p2 : ∀ w : World, (Instr.slice 9 (.string S) (some (.int .i64 ((j : Int) + 1 + 1))) none none).run Tryd.prog w = .ok (.string B) w := p2
      have hw1 : IntKind.i64.wrap ((j : Int) + 1 + 1) = (j : Int) + 1 + 1 := IntWalk.i64_in _ (by omega)
      obtain ⟨s, hs⟩ : ∃ s, s = o.testBit j := ⟨_, rfl⟩
      rw [← hs] at hiy CF
      clear h0
      cases s
      · simp only [Bool.false_eq_true, ↓reduceIte] at hiy
        have E := Lib.hid (NO (CF))
        clear ST YES NO CZ CL CN AT htt p1 p2 hw1 hs CF
        go_enter Tryd.func45, Tryd.ntmps45
        go_wp2_with fail
        go_ret2
        exact ⟨by rw [E.out]; rfl, Below.refl _ _⟩
      · simp only [↓reduceIte] at hiy
        have E := Lib.hid (YES (CF))
        obtain ⟨X, hX⟩ : ∃ X, X = A ++ (⟨#[49]⟩ : ByteArray) := ⟨_, rfl⟩
        obtain ⟨Y, hY⟩ : ∃ Y, Y = X ++ B := ⟨_, rfl⟩
        have hXs : X.size ≤ 9 := by rw [hX, ByteArray.size_append]; show A.size + 1 ≤ 9; omega
        have p3 := cat_q A ⟨#[49]⟩ (by show A.size + 1 ≤ 9223372036854775807; omega)
        have p4 := cat_q X B (by omega)
        rw [← hX] at p3
        rw [← hY] at p4
        have HY := Lib.hid (show Y = trS S.size (fl o (j + 1)) by rw [hY, hX]; exact ST 49 rfl)
        clear hX hY ST YES NO CZ CL CN AT htt hs CF
        go_enter Tryd.func45, Tryd.ntmps45
        go_wp2_with fail
        refine wp_region_quiet_below (by kernel_rfl) (by kernel_rfl) ?_
        repeat (go_big_quiet_step (fail))
        refine wpQuiet_nil ?_
        intro _ hw'
        obtain ⟨⟨dq, osq⟩, hw''⟩ := hw'
        subst hw''
        have BR := below_regrown w dq osq
        go_wp2_with fail
        go_ret2
        exact ⟨by rw [E.out, ← HY.out]; rfl, BR⟩
  · simp only [↓reduceIte] at hix ST
    by_cases hl : k + 1 = S.size
    · have hl1 : ((k : Int) == (S.size : Int) - 1) = true := by rw [beq_iff_eq]; omega
      have E := Lib.hid (YES (CL htt.symm hl))
      obtain ⟨X, hX⟩ : ∃ X, X = A ++ (⟨#[48]⟩ : ByteArray) := ⟨_, rfl⟩
      obtain ⟨Y, hY⟩ : ∃ Y, Y = X ++ B := ⟨_, rfl⟩
      have hXs : X.size ≤ 9 := by rw [hX, ByteArray.size_append]; show A.size + 1 ≤ 9; omega
      have p3 := cat_q A ⟨#[48]⟩ (by show A.size + 1 ≤ 9223372036854775807; omega)
      have p4 := cat_q X B (by omega)
      rw [← hX] at p3
      rw [← hY] at p4
      have HY := Lib.hid (show Y = trS S.size (fl o k) by rw [hY, hX]; exact ST 48 rfl)
      clear hX hY ST YES NO CZ CF CL CN AT htt hl
      go_enter Tryd.func45, Tryd.ntmps45
      go_wp2_with fail
      refine wp_region_quiet_below (by kernel_rfl) (by kernel_rfl) ?_
      repeat (go_big_quiet_step (fail))
      refine wpQuiet_nil ?_
      intro _ hw'
      obtain ⟨⟨dq, osq⟩, hw''⟩ := hw'
      subst hw''
      have BR := below_regrown w dq osq
      go_wp2_with fail
      go_ret2
      exact ⟨by rw [E.out, ← HY.out]; rfl, BR⟩
    · have hl1 : ((k : Int) == (S.size : Int) - 1) = false := by rw [beq_eq_false_iff_ne]; omega
      have hiy := index_is (S := S) (k := k + 1) (by omega)
      rw [AT (k + 1) (by omega)] at hiy
      have hiy : ∀ w : World, (Instr.index 9 (.string S) (.int .i64 ((k : Int) + 1))).run Tryd.prog w = _ := hiy
      have CN := CN htt.symm hl
      have hki2 : (k : Int) + 1 < (S.size : Int) := by omega
      obtain ⟨s, hs⟩ : ∃ s, s = o.testBit (k + 1) := ⟨_, rfl⟩
      rw [← hs] at hiy CN
      cases s
      · simp only [Bool.false_eq_true, ↓reduceIte] at hiy
        have E := Lib.hid (NO (CN))
        clear ST YES NO CZ CF CL AT htt p1 p2 hw1 hs CN hl
        go_enter Tryd.func45, Tryd.ntmps45
        go_wp2_with fail
        go_ret2
        exact ⟨by rw [E.out]; rfl, Below.refl _ _⟩
      · simp only [↓reduceIte] at hiy
        have E := Lib.hid (YES (CN))
        obtain ⟨X, hX⟩ : ∃ X, X = A ++ (⟨#[48]⟩ : ByteArray) := ⟨_, rfl⟩
        obtain ⟨Y, hY⟩ : ∃ Y, Y = X ++ B := ⟨_, rfl⟩
        have hXs : X.size ≤ 9 := by rw [hX, ByteArray.size_append]; show A.size + 1 ≤ 9; omega
        have p3 := cat_q A ⟨#[48]⟩ (by show A.size + 1 ≤ 9223372036854775807; omega)
        have p4 := cat_q X B (by omega)
        rw [← hX] at p3
        rw [← hY] at p4
        have HY := Lib.hid (show Y = trS S.size (fl o k) by rw [hY, hX]; exact ST 48 rfl)
        clear hX hY ST YES NO CZ CF CL AT htt hs CN hl
        go_enter Tryd.func45, Tryd.ntmps45
        go_wp2_with fail
        refine wp_region_quiet_below (by kernel_rfl) (by kernel_rfl) ?_
        repeat (go_big_quiet_step (fail))
        refine wpQuiet_nil ?_
        intro _ hw'
        obtain ⟨⟨dq, osq⟩, hw''⟩ := hw'
        subst hw''
        have BR := below_regrown w dq osq
        go_wp2_with fail
        go_ret2
        exact ⟨by rw [E.out, ← HY.out]; rfl, BR⟩

theorem sp_in {S : ByteArray} {k : Nat} (ht : trB S = true) (hk : k < S.size) : stR S.size (oc S) k = .tuple #[.string (spS S k), .bool (spB S k)] := by
  have hb := spB_in ht hk
  unfold stR
  rw [hb]
  cases h : can S.size (oc S) k
  · rw [h] at hb
    rw [spS_no hb]
    rfl
  · rw [h] at hb
    rw [spS_yes hb]
    rfl

set_option maxHeartbeats 2000000 in
theorem specTrackStep (S : ByteArray) (i : Int) (hS : S.size ≤ 1048576) (w : World) :
    Calls Tryd.prog 49 #[.string S, .int .i64 i] w fun e w' => e = .returned (.tuple #[.string (spS S i), .bool (spB S i)]) ∧ Below w.heap.size w w' := by
  have V := specTrackValid S hS w
  obtain ⟨t, ht⟩ : ∃ t, t = trB S := ⟨_, rfl⟩
  rw [← ht] at V
  have V := Lib.hid V
  cases t
  · have N := spB_not (i := i) ht.symm
    have E := Lib.hid (And.intro (spS_no N) N)
    clear ht N
    go_enter Tryd.func49, Tryd.ntmps49
    go_wp2_with (go_at_call 30; refine V.out.mono ?_; rintro e w1 ⟨rfl, b1⟩)
    go_ret2
    exact ⟨by rw [E.out.1, E.out.2]; rfl, b1⟩
  have h8 := (trB_of ht.symm).1
  have h8' : (S.size : Int) ≤ 8 := by omega
  have IL := in_is i 0 ((S.size : Int) - 1)
  obtain ⟨u, hu⟩ : ∃ u, u = decide (0 ≤ i ∧ i ≤ (S.size : Int) - 1) := ⟨_, rfl⟩
  rw [← hu] at IL
  have IL := Lib.hid IL
  cases u
  · have N := spB_out (S := S) (i := i) (by have := of_decide_eq_false hu.symm; omega)
    have E := Lib.hid (And.intro (spS_no N) N)
    clear ht N hu
    go_enter Tryd.func49, Tryd.ntmps49
    go_wp2_with (first | (go_at_call 30; refine V.out.mono ?_; rintro e w1 ⟨rfl, b1⟩) | (go_at_call 38; refine (IL.out _).mono ?_; rintro e w2 ⟨rfl, rfl⟩))
    go_ret2
    exact ⟨by rw [E.out.1, E.out.2]; rfl, b1⟩
  · have hi := of_decide_eq_true hu.symm
    obtain ⟨k, rfl⟩ : ∃ k : Nat, i = k := ⟨i.toNat, by omega⟩
    have hk : k < S.size := by omega
    have S7 := specStep7 S k ht.symm hk
    rw [sp_in ht.symm hk] at S7
    have S7 := Lib.hid S7
    clear ht hu hi
    go_enter Tryd.func49, Tryd.ntmps49
    go_wp2_with (first | (go_at_call 30; refine V.out.mono ?_; rintro e w1 ⟨rfl, b1⟩) | (go_at_call 38; refine (IL.out _).mono ?_; rintro e w2 ⟨rfl, rfl⟩) | (go_at_call 45; refine (S7.out _).mono ?_; rintro e w3 ⟨rfl, b3⟩))
    go_ret2
    exact ⟨rfl, chain b1 b3⟩

/-- The circuits below k that can change, whatever the text. -/
def nxA (S : ByteArray) : Nat → List Int
  | 0 => []
  | k + 1 => if spB S k then nxA S k ++ [(k : Int)] else nxA S k
theorem nxA_yes {S : ByteArray} {k : Nat} (h : spB S k = true) : nxA S (k + 1) = nxA S k ++ [(k : Int)] := by simp [nxA, h]
theorem nxA_no {S : ByteArray} {k : Nat} (h : spB S k = false) : nxA S (k + 1) = nxA S k := by simp [nxA, h]
theorem nxA_length (S : ByteArray) (k : Nat) : (nxA S k).length ≤ k := by
  induction k with
  | zero => exact Nat.le_refl _
  | succ k ih => simp only [nxA]; split <;> first | omega | (simp only [List.length_append, List.length_cons, List.length_nil]; omega)
theorem nxA_is (S : ByteArray) : nxA S S.size = nxT S := by
  cases h : trB S
  · rw [nxT_no h]
    have : ∀ k, nxA S k = [] := by
      intro k
      induction k with
      | zero => rfl
      | succ k ih => rw [nxA_no (spB_not h), ih]
    exact this _
  · rw [nxT_yes h]
    have : ∀ k, k ≤ S.size → nxA S k = nxC S.size (oc S) k := by
      intro k
      induction k with
      | zero => intro _; rfl
      | succ k ih =>
        intro hk
        have e := spB_in h (show k < S.size by omega)
        cases hc : can S.size (oc S) k
        · rw [nxA_no (e.trans hc), nxC_no hc, ih (by omega)]
        · rw [nxA_yes (e.trans hc), nxC_yes hc, ih (by omega)]
    exact this _ (Nat.le_refl _)

set_option maxHeartbeats 2000000 in
theorem specTrackNext (S : ByteArray) (hS : S.size ≤ 1048576) (w : World) : Calls Tryd.prog 48 #[.string S] w (MadeInts w (nxT S)) := by
  obtain ⟨i0, hi, hz0, hz1, hz2⟩ := info_parts info_int
  have hSi : (S.size : Int) ≤ 1048576 := by omega
  have SP := Lib.hid (fun (i : Int) (w : World) => specTrackStep S i hS w)
  have B1 := Lib.hid (below_alloc w (.cells #[] 3))
  have O1 := Lib.hid (own_empty w)
  have E := Lib.hid (nxA_is S)
  go_enter Tryd.func48, Tryd.ntmps48
  go_wp2_with fail
  go_loopw [3, 4, 5, 6] (fun v i _ _ wr => ∃ k : Nat, k ≤ S.size ∧ i = .int .i64 k ∧ OwnI wr w.heap.size v (nxA S k) ∧ Below w.heap.size w wr) (fun _ i _ _ _ => S.size - (intOf i).toNat)
  case atStart => exact ⟨0, by omega, rfl, O1.out, B1.out⟩
  case round =>
    obtain ⟨k, hk, rfl, hown, hbel⟩ := hrel
    by_cases hlt : k < S.size
    · have hki : (k : Int) < (S.size : Int) := by omega
      have YES := @nxA_yes S k
      have NO := @nxA_no S k
      have SK := SP.out k
      obtain ⟨X, hX⟩ : ∃ X, X = spS S k := ⟨_, rfl⟩
      obtain ⟨r, hr⟩ : ∃ r, r = spB S k := ⟨_, rfl⟩
      rw [← hX, ← hr] at SK
      rw [← hr] at YES NO
      have C1 := Lib.hid SK
      have BB := Lib.hid hbel
      clear hr hX hbel
      obtain ⟨m, hm⟩ : ∃ m, m = (nxA S k).length := ⟨_, rfl⟩
      have hm8 : m ≤ 1048576 := by have := nxA_length S k; omega
      have OW := Lib.hid hown
      cases r
      · have HC := Lib.hid (NO rfl)
        clear YES NO hown hm
        go_wp2_with (go_at_call 49; refine (C1.out _).mono ?_; rintro e w3 ⟨rfl, b3⟩)
        have O3 := Lib.hid (OW.out.below b3)
        have B3 := Lib.hid (BB.out.trans (b3.mono BB.out.size))
        clear b3
        go_roundw
        case rel => exact ⟨k + 1, by omega, by go_num, HC.out ▸ O3.out, B3.out⟩
        case measure => simp [intOf]; omega
      · have HC := Lib.hid (YES rfl)
        have OWM := fun (X : World) (q : Below wr.heap.size wr X) => hown.below q
        unfold OwnI at OWM
        simp only [← hm] at OWM
        have OWM := Lib.hid OWM
        have BX := Lib.hid (fun (X : World) (q : Below wr.heap.size wr X) => BB.out.trans (q.mono BB.out.size))
        have HM := Lib.hid hm
        clear YES NO hown hm
        go_wp2_with (first
          | (go_at_call 49; refine (C1.out _).mono ?_; rintro e w3 ⟨rfl, b3⟩; have hor := OWM.out _ b3; have hsz := (BX.out _ b3).size)
          | (at_builtin; refine wpList_append_own _ rfl _ _ 41 rfl w.heap.size 3 i0 (.int .i64 0) 1 8 Tryd.underlying41 hi hz0 hz1 hz2 rfl (by decide) _ _ _ rfl (hor.alloc _) ⟨w3.heap.size, 0, none⟩ 1 1 [.int .i64 k] rfl rfl ?c1 ?c2 ?c3 ?c4 ?c5 ?_))
        case c1 => exact cell_one_new _ _ _
        case c2 => intro u hu; simp at hu; subst hu; rfl
        case c3 => simp only [maxLen]; omega
        case c4 => omega
        case c5 => simp; omega
        intro v' w4 hown' hgrow _
        have B3 := Lib.hid (BX.out _ b3)
        clear b3
        have HB := Lib.hid ((B3.out.alloc (by omega) _).grown hgrow (by simp; omega) (fun g hg => (World.ownsRow.lt hor g hg).1))
        have HO := Lib.hid (show OwnI w4 w.heap.size v' (nxA S (k + 1)) by
          unfold OwnI
          rw [HC.out, List.length_append, List.map_append, ← HM.out]
          exact hown')
        clear hown' hgrow hor
        go_wp2_with fail
        go_roundw
        case rel => exact ⟨k + 1, by omega, by go_num, HO.out, HB.out⟩
        case measure => simp [intOf]; omega
    · obtain rfl : k = S.size := by omega
      have OW := Lib.hid hown
      have BB := Lib.hid hbel
      clear hown hbel
      go_wp2_with fail
      go_ret
      exact ⟨_, rfl, E.out ▸ OW.out, BB.out⟩

end Go.Proofs.YtilkphehonilbaaDoor
