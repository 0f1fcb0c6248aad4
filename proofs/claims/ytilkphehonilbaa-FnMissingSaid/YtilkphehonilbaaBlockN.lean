/-
  The model's BlockNext. No condition.
-/
import Derived.Test.YtilkphehonilbaaBlockG
import Derived.IntWalk
namespace Go.Proofs.Ytilkphehonilbaa
open Go.RowKit Go.Sort

theorem lts_part {k : Nat} (hk : k < 7) (w : World) : (Instr.slice 9 (.string ⟨#[97, 99, 101, 102, 108, 111, 114]⟩) (some (.int .i64 k)) (some (.int .i64 ((k : Int) + 1))) none).run Try.prog w = .ok (.string (ltS k)) w := by
  rw [run_slice_string _ _ _ _ _ _ _ Try.underlying9 (by omega) (by omega) (by show (k : Int) + 1 ≤ (7 : Nat); omega)]
  have e1 : (k : Int).toNat = k := by omega
  have e2 : ((k : Int) + 1).toNat = k + 1 := by omega
  rw [e1, e2]
  match k, hk with
  | 0, _ | 1, _ | 2, _ | 3, _ | 4, _ | 5, _ | 6, _ => rfl

/-- The step of this loop ends with a new block; nothing that was there has turned. -/
theorem next_endA {wr wA : World} (z : Below wr.heap.size wr wA) (t : Bool) (n : Int) (i o : Bool) :
    Value.bool t = Value.bool t ∧ Below wr.heap.size wr (wA.alloc (.cells #[.int .i64 n, .bool i, .bool o] 79)) := ⟨rfl, z.alloc z.size _⟩
theorem next_endB {wr wA : World} (bA : Below (wr.alloc (.cells #[.int .i64 0, .bool false, .bool false] 79)).drew.heap.size (wr.alloc (.cells #[.int .i64 0, .bool false, .bool false] 79)).drew wA) (t : Bool) (n : Int) (i o : Bool) :
    Value.bool t = Value.bool t ∧ Below wr.heap.size wr (((wA.setCell ⟨wr.heap.size, 0, none⟩ (.int .i64 n)).setCell ⟨wr.heap.size, 1, none⟩ (.bool i)).setCell ⟨wr.heap.size, 2, none⟩ (.bool o)) :=
  have d0 : Below wr.heap.size wr (wr.alloc (.cells #[.int .i64 0, .bool false, .bool false] 79)).drew := (below_alloc _ _).drew
  ⟨rfl, stored_below (d0.trans (bA.mono d0.size)) (Nat.le_refl _) _ _ _⟩

set_option maxHeartbeats 8000000 in
theorem specNext (b : Blk) (w : World) :
    Calls Try.prog 61 #[bkV b] w fun e w' => e = .returned (.string (nxS b)) ∧ Below w.heap.size w w' := by
  unfold bkV
  obtain ⟨W, hW⟩ : ∃ W, W = w.alloc (.cells #[.int .i64 b.1, .bool b.2.1, .bool b.2.2] 79) := ⟨_, rfl⟩
  have t1 := Tri3.new w (.int .i64 b.1) (.bool b.2.1) (.bool b.2.2) 79
  have b1 := below_alloc w (.cells #[.int .i64 b.1, .bool b.2.1, .bool b.2.2] 79)
  rw [← hW] at t1 b1
  have HW := Lib.hid hW
  have HT := Lib.hid t1
  have HB := Lib.hid b1
  clear hW t1 b1
  go_enter Try.func61, Try.ntmps61
  go_wp2_with fail
  rw [← HW.out]
  go_loopw [4, 5] (fun s i wr => ∃ k : Nat, k ≤ 7 ∧ i = .int .i64 k ∧ s = .string (nxB b k) ∧ Tri3 wr w.heap.size (.int .i64 b.1) (.bool b.2.1) (.bool b.2.2) 79 ∧ Below w.heap.size w wr) (fun _ i _ => 7 - (intOf i).toNat)
  case atStart => exact ⟨0, by omega, rfl, rfl, HT.out, HB.out⟩
  case round =>
    obtain ⟨k, hk, rfl, rfl, t1, hbel⟩ := hrel
    by_cases hlt : k < 7
    · have hki : (k : Int) < 7 := by omega
      obtain ⟨q, hq⟩ : ∃ q, q = ltS k := ⟨_, rfl⟩
      obtain ⟨s, hs⟩ : ∃ s, s = nxB b k := ⟨_, rfl⟩
      have hsz := nxB_size b k
      have hqz : q.size = 1 := by rw [hq]; exact ltS_size k
      rw [← hs] at hsz ⊢
      have hadd : ¬ 9223372036854775807 < s.size + q.size := by omega
      have hsl := fun w => lts_part hlt w
      rw [← hq] at hsl
      have hw1 : IntKind.i64.wrap ((k : Int) + 1) = (k : Int) + 1 := IntWalk.i64_in _ (by omega)
      have hw2 : wrap64 ((k : Int) + 1) = (k : Int) + 1 := (IntWalk.i64_left _).symm.trans hw1
      have HQ := Lib.hid (show bkOne b q = bkStep b (ltr k) by rw [hq]; exact bkOne_ltS b k)
      have SP := Lib.hid (specStepE b q)
      have Y := Lib.hid (fun b' (h : bkStep b (ltr k) = some b') => nxB_yes h)
      have N := Lib.hid (fun (h : bkStep b (ltr k) = none) => nxB_no h)
      obtain ⟨y, hy⟩ : ∃ y, y = (bkOne b q).getD nb := ⟨_, rfl⟩
      obtain ⟨t, ht⟩ : ∃ t, t = (bkOne b q).isSome := ⟨_, rfl⟩
      rw [← hy, ← ht] at SP
      have HQQ := Lib.hid hq
      have HSS := Lib.hid hs
      have HTT := Lib.hid ht
      have R1 := Lib.hid t1
      have RB := Lib.hid hbel
      have c0 := t1.cell0
      have c1 := t1.cell1
      have c2 := t1.cell2
      clear hq hs hy ht hqz t1 hbel
      go_upto_region 6 with fail
      go_cut [7] (fun p wx => p = .bool t ∧ Below wr.heap.size wr wx)
      case first =>
        have d0 : Below wr.heap.size wr wr.drew := (Below.refl _ _).drew
        have l0 : w.heap.size < wr.heap.size := R1.out.lt
        go_region_with (go_at_call 62; refine (SP.out _).mono ?_; rintro e wA ⟨rfl, bA⟩; first | (have z : Tri3 wA wr.heap.size (.int .i64 0) (.bool false) (.bool false) 79 := (Tri3.new wr.drew (.int .i64 0) (.bool false) (.bool false) 79).below bA; have z0 := z.cell0; have z1 := z.cell1; have z2 := z.cell2; have g0 := z.frozen 0; have g1 := z.frozen 1; have g2 := z.frozen 2) | (have z := d0.trans bA))
        all_goals (go_wp2_with fail; go_meet; first
          | with_reducible exact next_endA z _ _ _ _
          | with_reducible exact next_endB bA _ _ _ _)
      case rest =>
      obtain ⟨rfl, bx⟩ := hcut
      have T4 := Lib.hid (R1.out.below bx)
      have B4 := Lib.hid (RB.out.trans (bx.mono RB.out.size))
      clear bx c0 c1 c2
      cases t
      · have e : bkStep b (ltr k) = none := by
          rw [← HQ.out]
          cases q0 : bkOne b q
          · rfl
          · have := HTT.out; rw [q0] at this; cases this
        have E := Lib.hid (N.out e)
        clear e
        go_wp2_with fail
        go_roundw
        case rel => exact ⟨k + 1, by omega, by go_num, by rw [E.out, ← HSS.out], T4.out, B4.out⟩
        case measure => simp [intOf]; omega
      · have e : ∃ b', bkStep b (ltr k) = some b' := by
          rw [← HQ.out]
          cases q0 : bkOne b q
          · have := HTT.out; rw [q0] at this; cases this
          · exact ⟨_, rfl⟩
        obtain ⟨b', e⟩ := e
        have E := Lib.hid (Y.out b' e)
        clear e
        go_wp2_with fail
        go_roundw
        case rel => exact ⟨k + 1, by omega, by go_num, by rw [E.out, ← HSS.out, ← HQQ.out], T4.out, B4.out⟩
        case measure => simp [intOf]; omega
    · obtain rfl : k = 7 := by omega
      go_wp2_with fail
      go_ret
      exact ⟨rfl, hbel⟩

end Go.Proofs.Ytilkphehonilbaa
