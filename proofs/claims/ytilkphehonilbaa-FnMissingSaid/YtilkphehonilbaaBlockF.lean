/-
  The model's BlockRun and BlockStep. For texts of at most 2097152 bytes.
-/
import Derived.Test.YtilkphehonilbaaBlockD
import Derived.Lib.OthersKept
import Derived.Deep.RegionWith
import Derived.Deep.DeepCutAuto
namespace Go.Proofs.Ytilkphehonilbaa
open Go.RowKit Go.Sort

theorem l3StepE (b : Blk) (c : Int) (hb : bkPos b = true) (w : World) :
    Calls Try.prog 59 #[bkV b, .int .u8 c] w fun e w' => e = .returned (.tuple #[.agg #[.int .i64 ((bkStep b c).getD nb).1, .bool ((bkStep b c).getD nb).2.1, .bool ((bkStep b c).getD nb).2.2], .bool (bkStep b c).isSome]) ∧ Below w.heap.size w w' :=
  l3Step b c hb w

/-- Where the step ends: the call ahead of the new block, or behind it. -/
theorem step_endA {wr wA : World} (z : Below wr.heap.size wr wA) (t : Bool) (n : Int) (i o : Bool) :
    ∃ g, Value.pointer (some ⟨wA.heap.size, 0, none⟩) = Value.pointer (some ⟨g, 0, none⟩) ∧ Value.bool t = Value.bool t ∧
      Tri3 (wA.alloc (.cells #[.int .i64 n, .bool i, .bool o] 79)) g (.int .i64 n) (.bool i) (.bool o) 79 ∧ Below wr.heap.size wr (wA.alloc (.cells #[.int .i64 n, .bool i, .bool o] 79)) :=
  ⟨_, rfl, rfl, Tri3.new _ _ _ _ _, z.alloc z.size _⟩
theorem step_endB {wr wA : World} {x y z' : Value} (bA : Below (wr.alloc (.cells #[.int .i64 0, .bool false, .bool false] 79)).drew.heap.size (wr.alloc (.cells #[.int .i64 0, .bool false, .bool false] 79)).drew wA) (z : Tri3 wA wr.heap.size x y z' 79) (t : Bool) (n : Int) (i o : Bool) :
    ∃ g, Value.pointer (some ⟨wr.heap.size, 0, none⟩) = Value.pointer (some ⟨g, 0, none⟩) ∧ Value.bool t = Value.bool t ∧
      Tri3 (((wA.setCell ⟨wr.heap.size, 0, none⟩ (.int .i64 n)).setCell ⟨wr.heap.size, 1, none⟩ (.bool i)).setCell ⟨wr.heap.size, 2, none⟩ (.bool o)) g (.int .i64 n) (.bool i) (.bool o) 79 ∧
      Below wr.heap.size wr (((wA.setCell ⟨wr.heap.size, 0, none⟩ (.int .i64 n)).setCell ⟨wr.heap.size, 1, none⟩ (.bool i)).setCell ⟨wr.heap.size, 2, none⟩ (.bool o)) :=
  have d0 : Below wr.heap.size wr (wr.alloc (.cells #[.int .i64 0, .bool false, .bool false] 79)).drew := (below_alloc _ _).drew
  ⟨_, rfl, rfl, z.stored _ _ _, stored_below (d0.trans (bA.mono d0.size)) (Nat.le_refl _) _ _ _⟩

set_option maxHeartbeats 8000000 in
theorem specRun (b : Blk) (S : ByteArray) (hS : S.size ≤ 2097152) (w : World) :
    Calls Try.prog 51 #[bkV b, .string S] w fun e w' => e = .returned (bkR (bkRun b S)) ∧ Below w.heap.size w w' := by
  unfold bkV
  obtain ⟨W, hW⟩ : ∃ W, W = (w.alloc (.cells #[.int .i64 b.1, .bool b.2.1, .bool b.2.2] 79)).alloc (.cells #[.int .i64 0, .bool false, .bool false] 79) := ⟨_, rfl⟩
  obtain ⟨T1, T2, B0, SZ⟩ := two_tri _ _ _ _ _ _ _ _ _ W hW
  have HW := Lib.hid hW
  have HB := Lib.hid B0
  have HS := Lib.hid SZ
  have HT := Lib.hid (And.intro T1 T2)
  clear hW B0 SZ T2 T1
  have zero : ∀ (wr : World), Below w.heap.size w wr → bkRun b S = none →
      (Below w.heap.size w (((wr.setCell ⟨w.heap.size + 1, 0, none⟩ (.int .i64 0)).setCell ⟨w.heap.size + 1, 1, none⟩ (.bool false)).setCell ⟨w.heap.size + 1, 2, none⟩ (.bool false))) ∧ Ending.returned (.tuple #[.agg #[.int .i64 0, .bool false, .bool false], .bool false]) = .returned (bkR (bkRun b S)) :=
    fun wr c e => ⟨stored_below c (by omega) _ _ _, by rw [e]; rfl⟩
  have Z := Lib.hid zero
  clear zero
  have SP := Lib.hid (specPossible b)
  by_cases hno : bkPos b = false ∨ 30 < (S.size : Int)
  · have N := Lib.hid (show bkRun b S = none from hno.elim bkRun_not bkRun_long)
    have t1 : (decide (bkPos b = false) || decide (30 < (S.size : Int))) = true := by simpa using hno
    obtain ⟨p, hp⟩ : ∃ p, p = bkPos b := ⟨_, rfl⟩
    rw [← hp] at SP t1
    clear hp hno
    go_enter Try.func51, Try.ntmps51
    go_wp2_with (rw [← HW.out]; go_at_call 58; refine (SP.out _).mono ?_)
    rintro e w1 ⟨rfl, b1⟩
    have t1' := HT.out.2.below b1
    have c0 := t1'.cell0
    have c1 := t1'.cell1
    have c2 := t1'.cell2
    have f0 := t1'.frozen 0
    have f1 := t1'.frozen 1
    have f2 := t1'.frozen 2
    have st := t1'.stored (.int .i64 0) (.bool false) (.bool false)
    have l0 := st.cell0
    have l1 := st.cell1
    have l2 := st.cell2
    have bw := HB.out.trans (b1.mono HB.out.size)
    clear st t1'
    cases p
    · clear t1
      go_wp2_with fail
      exact bodyPost_ret (v := .tuple #[.agg #[.int .i64 0, .bool false, .bool false], .bool false]) (by simp [results, Try.results51, go_sem, l0, l1, l2]) rfl ⟨(Z.out _ bw N.out).2, (Z.out _ bw N.out).1⟩
    · have hb : (30 : Int) < (S.size : Int) := by simpa using t1
      clear t1
      go_wp2_with fail
      exact bodyPost_ret (v := .tuple #[.agg #[.int .i64 0, .bool false, .bool false], .bool false]) (by simp [results, Try.results51, go_sem, l0, l1, l2]) rfl ⟨(Z.out _ bw N.out).2, (Z.out _ bw N.out).1⟩
  · have hb : bkPos b = true := by
      cases e : bkPos b
      · exact absurd (.inl e) hno
      · rfl
    have hs : (S.size : Int) ≤ 30 := by omega
    have R := Lib.hid (bkRun_is hb hs)
    rw [hb] at SP
    have HP := Lib.hid hb
    clear hb hno
    go_enter Try.func51, Try.ntmps51
    go_wp2_with (rw [← HW.out]; go_at_call 58; refine (SP.out _).mono ?_)
    rintro e w1 ⟨rfl, b1⟩
    have B1 := Lib.hid b1
    clear b1
    go_wp2_with fail
    go_loopw [6] (fun i wr => ∃ (k : Nat) (x : Blk), k ≤ S.size ∧ i = .int .i64 k ∧ bkTo b S k = some x ∧ bkPos x = true ∧ Tri3 wr w.heap.size (.int .i64 x.1) (.bool x.2.1) (.bool x.2.2) 79 ∧ Tri3 wr (w.heap.size + 1) (.int .i64 0) (.bool false) (.bool false) 79 ∧ Below w.heap.size w wr) (fun i _ => S.size - (intOf i).toNat)
    case atStart => exact ⟨0, b, by omega, rfl, rfl, HP.out, HT.out.1.below B1.out, HT.out.2.below B1.out, HB.out.trans (B1.out.mono HB.out.size)⟩
    case round =>
      obtain ⟨k, x, hk, rfl, hto, hx, t1, t2, hbel⟩ := hrel
      have TO := Lib.hid hto
      have HX := Lib.hid hx
      clear hto hx
      by_cases hlt : k < S.size
      · have hki : (k : Int) < (S.size : Int) := by omega
        have hix : ∀ (w : World), (Instr.index 9 (.string S) (.int .i64 k)).run Try.prog w = .ok (.int .u8 (bt S k)) w := by
          intro w
          rw [run_index_string _ _ _ _ _ Try.underlying9, dif_pos ⟨by omega, hki⟩, ← bt_get hlt]
          rfl
        have L3 := Lib.hid (l3StepE x (bt S k) HX.out)
        have SU := Lib.hid (bkTo_succ TO.out)
        have NO := Lib.hid (fun (e : bkTo b S (k + 1) = none) => bkRun_none (b := b) (S := S) (k := k + 1) (by omega) e)
        obtain ⟨o, ho⟩ : ∃ o, o = bkStep x (bt S k) := ⟨_, rfl⟩
        rw [← ho] at L3 SU
        obtain ⟨y, hy⟩ : ∃ y, y = o.getD nb := ⟨_, rfl⟩
        obtain ⟨t, ht⟩ : ∃ t, t = o.isSome := ⟨_, rfl⟩
        rw [← hy, ← ht] at L3
        have HO := Lib.hid ho
        have HY := Lib.hid hy
        have HTT := Lib.hid ht
        have R1 := Lib.hid t1
        have R2 := Lib.hid t2
        have RB := Lib.hid hbel
        have c0 := t1.cell0
        have c1 := t1.cell1
        have c2 := t1.cell2
        clear ho hy ht t1 t2 hbel
        go_upto_region 6 with fail
        go_cut [7, 8] (fun p q wx => ∃ (g : Nat), p = .pointer (some ⟨g, 0, none⟩) ∧ q = .bool t ∧ Tri3 wx g (.int .i64 y.1) (.bool y.2.1) (.bool y.2.2) 79 ∧ Below wr.heap.size wr wx)
        case first =>
          have d0 : Below wr.heap.size wr wr.drew := (Below.refl _ _).drew
          have l0 : w.heap.size < wr.heap.size := R1.out.lt
          go_region_with (go_at_call 59; refine (L3.out _).mono ?_; rintro e wA ⟨rfl, bA⟩; first | (have z : Tri3 wA wr.heap.size (.int .i64 0) (.bool false) (.bool false) 79 := (Tri3.new wr.drew (.int .i64 0) (.bool false) (.bool false) 79).below bA; have z0 := z.cell0; have z1 := z.cell1; have z2 := z.cell2; have g0 := z.frozen 0; have g1 := z.frozen 1; have g2 := z.frozen 2) | (have z := d0.trans bA))
          all_goals (go_wp2_with fail; go_meet; first
            | with_reducible exact step_endA z _ _ _ _
            | with_reducible exact step_endB bA z _ _ _ _)
        case rest =>
        obtain ⟨g, rfl, rfl, tg, bx⟩ := hcut
        have s1 := R1.out.below bx
        have s2 := R2.out.below bx
        have bw := RB.out.trans (bx.mono RB.out.size)
        cases t
        · have e : o = none := by
            have := HTT.out
            cases o
            · rfl
            · cases this
          have N := Lib.hid (NO.out (SU.out.trans e))
          have c0 := s2.cell0
          have c1 := s2.cell1
          have c2 := s2.cell2
          have f0 := s2.frozen 0
          have f1 := s2.frozen 1
          have f2 := s2.frozen 2
          have st := s2.stored (.int .i64 0) (.bool false) (.bool false)
          have l0 := st.cell0
          have l1 := st.cell1
          have l2 := st.cell2
          clear st s1 s2 tg e
          go_wp2_with fail
          exact bodyPost_ret (v := .tuple #[.agg #[.int .i64 0, .bool false, .bool false], .bool false]) (by simp [results, Try.results51, go_sem, l0, l1, l2]) rfl ⟨(Z.out _ bw N.out).2, (Z.out _ bw N.out).1⟩
        · have e : o = some y := by
            have h1 := HTT.out
            have h2 := HY.out
            cases o
            · cases h1
            · rw [h2]; rfl
          have E := Lib.hid e
          have e0 := tg.cell0
          have e1 := tg.cell1
          have e2 := tg.cell2
          have c0 := s1.cell0
          have c1 := s1.cell1
          have c2 := s1.cell2
          have f0 := s1.frozen 0
          have f1 := s1.frozen 1
          have f2 := s1.frozen 2
          have st := Lib.hid (s1.stored (.int .i64 y.1) (.bool y.2.1) (.bool y.2.2))
          have s3 := Lib.hid (((s2.other (a := ⟨w.heap.size, 0, none⟩) (by simp only; omega) (.int .i64 y.1)).other (a := ⟨w.heap.size, 1, none⟩) (by simp only; omega) (.bool y.2.1)).other (a := ⟨w.heap.size, 2, none⟩) (by simp only; omega) (.bool y.2.2))
          have b3 := Lib.hid (stored_below bw (Nat.le_refl _) (.int .i64 y.1) (.bool y.2.1) (.bool y.2.2))
          clear s1 s2 tg e
          go_wp2_with fail
          go_roundw
          case rel => exact ⟨k + 1, y, by omega, by go_num, SU.out.trans E.out, (bkStep_pos (HO.out.symm.trans E.out)).2, st.out, s3.out, b3.out⟩
          case measure => simp [intOf]; omega
      · obtain rfl : k = S.size := by omega
        have c0 := t2.cell0
        have c1 := t2.cell1
        have c2 := t2.cell2
        have f0 := t2.frozen 0
        have f1 := t2.frozen 1
        have f2 := t2.frozen 2
        have d0 := t1.cell0
        have d1 := t1.cell1
        have d2 := t1.cell2
        have st := t2.stored (.int .i64 x.1) (.bool x.2.1) (.bool x.2.2)
        have l0 := st.cell0
        have l1 := st.cell1
        have l2 := st.cell2
        clear t1 t2 st
        go_wp2_with fail
        exact bodyPost_ret (v := .tuple #[.agg #[.int .i64 x.1, .bool x.2.1, .bool x.2.2], .bool true]) (by simp [results, Try.results51, go_sem, l0, l1, l2]) rfl ⟨by rw [R.out, TO.out]; rfl, stored_below hbel (by omega) _ _ _⟩

end Go.Proofs.Ytilkphehonilbaa
