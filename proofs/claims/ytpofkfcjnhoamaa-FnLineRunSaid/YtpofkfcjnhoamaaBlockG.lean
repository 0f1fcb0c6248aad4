/-
  The model's BlockStep, BlockLegal, BlockNormal, BlockNext. For texts of at most 2097152 bytes.
-/
import Derived.Test.YtpofkfcjnhoamaaBlockF
import Derived.Test.YtpofkfcjnhoamaaBlockE
namespace Go.Proofs.Ytpofkfcjnhoamaa
open Go.RowKit Go.Sort

set_option maxHeartbeats 4000000 in
theorem specStep (b : Blk) (S : ByteArray) (w : World) :
    Calls Try.prog 78 #[bkV b, .string S] w fun e w' => e = .returned (bkR (bkOne b S)) ∧ Below w.heap.size w w' := by
  unfold bkV
  obtain ⟨W, hW⟩ : ∃ W, W = (w.alloc (.cells #[.int .i64 b.1, .bool b.2.1, .bool b.2.2] 33)).alloc (.cells #[.int .i64 0, .bool false, .bool false] 33) := ⟨_, rfl⟩
  obtain ⟨T1, T2, B0, SZ⟩ := two_tri _ _ _ _ _ _ _ _ _ W hW
  have HW := Lib.hid hW
  have HB := Lib.hid B0
  have HS := Lib.hid SZ
  have HT := Lib.hid (And.intro T1 T2)
  clear hW B0 SZ T2 T1
  have SP := Lib.hid (specPossible b)
  by_cases hno : bkPos b = false ∨ S.size ≠ 1
  · have N := Lib.hid (show bkOne b S = none by
      rcases hno with h | h
      · unfold bkOne; split
        · exact bkStep_not h _
        · rfl
      · exact bkOne_no h)
    have t1 : (decide (bkPos b = false) || ((S.size : Int) != 1)) = true := by
      rcases hno with h | h
      · simp [h]
      · have : ((S.size : Int) != 1) = true := by simp; omega
        rw [this, Bool.or_true]
    obtain ⟨p, hp⟩ : ∃ p, p = bkPos b := ⟨_, rfl⟩
    rw [← hp] at SP t1
    clear hp hno
    go_enter Try.func78, Try.ntmps78
    go_wp2_with (rw [← HW.out]; go_at_call 42; refine (SP.out _).mono ?_)
    rintro e w1 ⟨rfl, b1⟩
    have t1' := HT.out.2.below b1
    have c0 := t1'.cell0
    have c1 := t1'.cell1
    have c2 := t1'.cell2
    have f0 := t1'.frozen 0
    have f1 := t1'.frozen 1
    have f2 := t1'.frozen 2
    have st := t1'.stored (.int .i64 0) (.bool false) (.bool false)
    have l0 := st.cell0
    have l1 := st.cell1
    have l2 := st.cell2
    have bw := Lib.hid (stored_below (HB.out.trans (b1.mono HB.out.size)) (show w.heap.size ≤ w.heap.size + 1 by omega) (.int .i64 0) (.bool false) (.bool false))
    clear st t1'
    cases p
    · clear t1
      go_wp2_with fail
      exact bodyPost_ret (v := .tuple #[.agg #[.int .i64 0, .bool false, .bool false], .bool false]) (by simp [results, Try.results78, go_sem, l0, l1, l2]) rfl ⟨by rw [N.out]; rfl, bw.out⟩
    · have hb : ((S.size : Int) != 1) = true := by simpa using t1
      clear t1
      go_wp2_with fail
      exact bodyPost_ret (v := .tuple #[.agg #[.int .i64 0, .bool false, .bool false], .bool false]) (by simp [results, Try.results78, go_sem, l0, l1, l2]) rfl ⟨by rw [N.out]; rfl, bw.out⟩
  · have hb : bkPos b = true := by
      cases e : bkPos b
      · exact absurd (.inl e) hno
      · rfl
    have h1 : S.size = 1 := by
      rcases Nat.decEq S.size 1 with h | h
      · exact absurd (.inr h) hno
      · exact h
    have t1 : ((S.size : Int) != 1) = false := by rw [h1]; rfl
    have hix : ∀ (w : World), (Instr.index 9 (.string S) (.int .i64 0)).run Try.prog w = .ok (.int .u8 (bt S 0)) w := by
      intro w
      rw [run_index_string _ _ _ _ _ Try.underlying9, dif_pos ⟨by omega, by omega⟩, ← bt_get (show 0 < S.size by omega)]
      rfl
    have L3 := Lib.hid (l3StepE b (bt S 0) hb)
    have O := Lib.hid (bkOne_yes (b := b) h1)
    obtain ⟨o, ho⟩ : ∃ o, o = bkStep b (bt S 0) := ⟨_, rfl⟩
    rw [← ho] at L3 O
    obtain ⟨y, hy⟩ : ∃ y, y = o.getD nb := ⟨_, rfl⟩
    obtain ⟨t, ht⟩ : ∃ t, t = o.isSome := ⟨_, rfl⟩
    rw [← hy, ← ht] at L3
    have E := Lib.hid (show bkR (bkOne b S) = .tuple #[.agg #[.int .i64 y.1, .bool y.2.1, .bool y.2.2], .bool t] by rw [O.out, hy, ht]; rfl)
    rw [hb] at SP
    clear ho hy ht hb hno h1
    go_enter Try.func78, Try.ntmps78
    go_wp2_with (rw [← HW.out]; go_at_call 42; refine (SP.out _).mono ?_)
    rintro e w1 ⟨rfl, b1⟩
    have s1 := HT.out.1.below b1
    have s2 := HT.out.2.below b1
    have R2 := Lib.hid s2
    have B1 := Lib.hid (HB.out.trans (b1.mono HB.out.size))
    have c0 := s1.cell0
    have c1 := s1.cell1
    have c2 := s1.cell2
    clear s1 s2 b1
    go_upto_region 3 with fail
    go_region_with (go_at_call 93; refine (L3.out _).mono ?_; rintro e wA ⟨rfl, bA⟩; have z := R2.out.below (show Below w1.heap.size w1 wA from ((Below.refl _ w1).drew).trans bA); have z0 := z.cell0; have z1 := z.cell1; have z2 := z.cell2; have g0 := z.frozen 0; have g1 := z.frozen 1; have g2 := z.frozen 2)
    all_goals
      have st := z.stored (.int .i64 y.1) (.bool y.2.1) (.bool y.2.2)
      have l0 := st.cell0
      have l1 := st.cell1
      have l2 := st.cell2
      have bw := Lib.hid (stored_below ((B1.out.drew).trans (bA.mono B1.out.size)) (show w.heap.size ≤ w.heap.size + 1 by omega) (.int .i64 y.1) (.bool y.2.1) (.bool y.2.2))
      clear z st
      go_wp2_with fail
      exact bodyPost_ret (v := .tuple #[.agg #[.int .i64 y.1, .bool y.2.1, .bool y.2.2], .bool t]) (by simp [results, Try.results78, go_sem, l0, l1, l2]) rfl ⟨by rw [E.out], bw.out⟩

theorem specStepE (b : Blk) (S : ByteArray) (w : World) :
    Calls Try.prog 78 #[bkV b, .string S] w fun e w' => e = .returned (.tuple #[.agg #[.int .i64 ((bkOne b S).getD nb).1, .bool ((bkOne b S).getD nb).2.1, .bool ((bkOne b S).getD nb).2.2], .bool (bkOne b S).isSome]) ∧ Below w.heap.size w w' :=
  specStep b S w


end Go.Proofs.Ytpofkfcjnhoamaa
