/-
  How often directions change: the model's and the program's DirectionsChanges. For texts of at most 1048576 bytes; the variable MaxLen holds a number.
-/
import Derived.Test.YthjodagbgmpbhaaDoorDirA
import Derived.Test.YthjodagbgmpbhaaDoorShp
namespace Go.Proofs.YthjodagbgmpbhaaDoor
open Go.RowKit Go.Sort

theorem chN_no {S : ByteArray} (h : dirB S = false) : chN S = -1 := by unfold chN; rw [h]; rfl
theorem chN_yes {S : ByteArray} (h : dirB S = true) : chN S = chTo S S.size := by unfold chN; rw [h]; rfl
theorem dir_len {S : ByteArray} (h : dirB S = true) : (S.size : Int) ≤ 30 := by have := (dirB_of h).1; omega
theorem chTo_one (S : ByteArray) : chTo S 1 = 0 := by simp [chTo]
theorem chTo_same {S : ByteArray} {k : Nat} (h : bt S (k + 1) = bt S k) : chTo S (k + 2) = chTo S (k + 1) := by
  have : chTo S (k + 2) = chTo S (k + 1) + (if 0 < k + 1 ∧ bt S (k + 1) ≠ bt S (k + 1 - 1) then 1 else 0) := rfl
  rw [this, if_neg (fun q => q.2 h)]; omega
theorem chTo_other {S : ByteArray} {k : Nat} (h : bt S (k + 1) ≠ bt S k) : chTo S (k + 2) = chTo S (k + 1) + 1 := by
  have : chTo S (k + 2) = chTo S (k + 1) + (if 0 < k + 1 ∧ bt S (k + 1) ≠ bt S (k + 1 - 1) then 1 else 0) := rfl
  rw [this, if_pos ⟨by omega, h⟩]

set_option maxHeartbeats 1000000 in
theorem implChanges (S : ByteArray) (hS : S.size ≤ 1048576) (w : World) (hm : ∃ m : Int, w.cell? ⟨maxLenG, 0, none⟩ = some (.int .i64 m)) :
    Calls Tryd.prog 7 #[.string S] w fun e w' => e = .returned (.int .i64 (chN S)) ∧ Below w.heap.size w w' := by
  have V := Lib.hid (implDirections S (by omega) w)
  obtain ⟨d, hd⟩ : ∃ d, d = dirB S := ⟨_, rfl⟩
  rw [← hd] at V
  cases d
  · have E := Lib.hid (chN_no hd.symm)
    clear hd
    go_enter Tryd.func7, Tryd.ntmps7
    go_wp2_with (go_at_call 19; refine V.out.mono ?_)
    rintro e w1 ⟨rfl, b1⟩
    go_wp2_with fail
    go_ret
    exact ⟨ret_int E.out.symm, b1⟩
  · obtain ⟨m, hm⟩ := hm
    have hlt := World.block_lt_of_cell? w _ hm
    have HM := Lib.hid (fun (w1 : World) (b1 : Below w.heap.size w w1) => (b1.cell (p := ⟨maxLenG, 0, none⟩) hlt).trans hm)
    have HC := Lib.hid (fun (w1 : World) (b1 : Below w.heap.size w w1) (C : ByteArray) (h2 : 2 ≤ C.size) => Tryd.strings_Count S C m w1 (by omega) (HM.out w1 b1) h2)
    have E := chN_yes hd.symm
    have hc := count_changes hd.symm
    have hr := chTo_range S S.size
    have h30 := dir_len hd.symm
    obtain ⟨x, hx⟩ : ∃ x : Nat, x = Lib.countB S ⟨#[85, 68]⟩ := ⟨_, rfl⟩
    obtain ⟨y, hy⟩ : ∃ y : Nat, y = Lib.countB S ⟨#[68, 85]⟩ := ⟨_, rfl⟩
    have C1 := Lib.hid (fun w1 b1 => HC.out w1 b1 ⟨#[85, 68]⟩ (Nat.le_refl 2))
    have C2 := Lib.hid (fun w1 b1 => HC.out w1 b1 ⟨#[68, 85]⟩ (Nat.le_refl 2))
    rw [← hx] at C1 hc
    rw [← hy] at C2 hc
    have hx30 : (x : Int) ≤ 30 := by omega
    have hy30 : (y : Int) ≤ 30 := by omega
    have EE := Lib.hid (show (x : Int) + (y : Int) = chN S by rw [E, hc])
    clear hd hm hlt HM HC E hc hr h30 hx hy
    go_enter Tryd.func7, Tryd.ntmps7
    go_wp2_with (go_at_call 19; refine V.out.mono ?_)
    rintro e w1 ⟨rfl, b1⟩
    go_wp2_with (first
      | (go_at_call_of 20 (Value.string ⟨#[85, 68]⟩); refine (C1.out _ b1).mono ?_; rintro e w2 ⟨rfl, rfl⟩)
      | (go_at_call_of 20 (Value.string ⟨#[68, 85]⟩); refine (C2.out _ b1).mono ?_; rintro e w2 ⟨rfl, rfl⟩))
    go_ret
    exact ⟨ret_int EE.out, b1⟩

set_option maxHeartbeats 1000000 in
theorem specChanges (S : ByteArray) (hS : S.size ≤ 1048576) (w : World) :
    Calls Tryd.prog 8 #[.string S] w fun e w' => e = .returned (.int .i64 (chN S)) ∧ Below w.heap.size w w' := by
  have V := Lib.hid (specDirections S (by omega) w)
  obtain ⟨d, hd⟩ : ∃ d, d = dirB S := ⟨_, rfl⟩
  rw [← hd] at V
  cases d
  · have E := Lib.hid (chN_no hd.symm)
    clear hd
    go_enter Tryd.func8, Tryd.ntmps8
    go_wp2_with (go_at_call 21; refine V.out.mono ?_)
    rintro e w1 ⟨rfl, b1⟩
    go_wp2_with fail
    go_ret
    exact ⟨ret_int E.out.symm, b1⟩
  · have E := Lib.hid (chN_yes hd.symm)
    have h30 := dir_len hd.symm
    clear hd
    go_enter Tryd.func8, Tryd.ntmps8
    go_wp2_with (go_at_call 21; refine V.out.mono ?_)
    rintro e w1 ⟨rfl, b1⟩
    have B1 := Lib.hid b1
    clear b1
    go_wp2_with fail
    go_loopw [3, 4] (fun n i wr => ∃ (k : Nat) (x : Int), (k + 1 ≤ S.size ∨ k = 0) ∧ i = .int .i64 ((k : Int) + 1) ∧ n = .int .i64 x ∧ x = chTo S (k + 1) ∧ Below w.heap.size w wr) (fun _ i _ => S.size + 1 - (intOf i).toNat)
    case atStart => exact ⟨0, 0, .inr rfl, rfl, rfl, (chTo_one S).symm, B1.out⟩
    case round =>
      obtain ⟨k, x, hk, rfl, rfl, hq, hbel⟩ := hrel
      have g := chTo_range S (k + 1)
      rw [← hq] at g
      obtain ⟨g0, g1⟩ := g
      have hkk : (k : Int) ≤ 30 := by omega
      have Q := Lib.hid hq
      clear hq
      by_cases hlt : k + 1 < S.size
      · have hki : (k : Int) + 1 < (S.size : Int) := by omega
        have hix : ∀ (w : World), (Instr.index 9 (.string S) (.int .i64 ((k : Int) + 1))).run Tryd.prog w = .ok (.int .u8 (bt S (k + 1))) w := by
          intro w
          rw [run_index_string _ _ _ _ _ Tryd.underlying9, dif_pos ⟨by omega, hki⟩, ← bt_get hlt]
          rfl
        have hiy : ∀ (w : World), (Instr.index 9 (.string S) (.int .i64 k)).run Tryd.prog w = .ok (.int .u8 (bt S k)) w := by
          intro w
          rw [run_index_string _ _ _ _ _ Tryd.underlying9, dif_pos ⟨by omega, by omega⟩, ← bt_get (by omega : k < S.size)]
          rfl
        have hw1 : IntKind.i64.wrap ((k : Int) + 1 - 1) = (k : Int) := by rw [show (k : Int) + 1 - 1 = (k : Int) by omega]; exact IntWalk.i64_in _ (by omega)
        have SA := Lib.hid (@chTo_same S k)
        have OT := Lib.hid (@chTo_other S k)
        obtain ⟨c, hc⟩ : ∃ c, c = bt S (k + 1) := ⟨_, rfl⟩
        obtain ⟨p, hp⟩ : ∃ p, p = bt S k := ⟨_, rfl⟩
        rw [← hc] at hix SA OT
        rw [← hp] at hiy SA OT
        clear hc hp hk
        by_cases h1 : c = p
        · have t1 : (c != p) = false := by simp [h1]
          have S2 := Lib.hid (SA.out h1)
          clear SA OT h1
          go_wp2_with fail
          refine wp_region_quiet_below (by kernel_rfl) (by kernel_rfl) ?_
          repeat (go_big_quiet_step (skip))
          refine wpQuiet_nil ?_
          intro _ hw'
          obtain ⟨⟨dq, osq⟩, hw''⟩ := hw'
          subst hw''
          have BR := (below_regrown wr dq osq).mono hbel.size
          clear hw1 hix hiy
          go_wp2_with fail
          go_roundw
          case rel => exact ⟨k + 1, _, by omega, by go_num, rfl, by rw [Q.out]; exact S2.out.symm, hbel.trans BR⟩
          case measure => simp [intOf]; omega
        · have t1 : (c != p) = true := by simp [h1]
          have S2 := Lib.hid (OT.out h1)
          clear SA OT h1
          go_wp2_with fail
          refine wp_region_quiet_below (by kernel_rfl) (by kernel_rfl) ?_
          repeat (go_big_quiet_step (skip))
          refine wpQuiet_nil ?_
          intro _ hw'
          obtain ⟨⟨dq, osq⟩, hw''⟩ := hw'
          subst hw''
          have BR := (below_regrown wr dq osq).mono hbel.size
          clear hw1 hix hiy
          go_wp2_with fail
          go_roundw
          case rel => exact ⟨k + 1, _, by omega, by go_num, rfl, by rw [Q.out]; exact S2.out.symm, hbel.trans BR⟩
          case measure => simp [intOf]; omega
      · have hf : chTo S (k + 1) = chTo S S.size := by
          rcases hk with h | h
          · rw [show k + 1 = S.size by omega]
          · subst h
            rcases Nat.lt_or_ge 0 S.size with h0 | h0
            · rw [show S.size = 1 by omega]
            · rw [show S.size = 0 by omega]; exact chTo_one S
        have EE := Lib.hid (show x = chN S by rw [E.out, ← hf, Q.out])
        have hki : ¬ (k : Int) + 1 < (S.size : Int) := by omega
        clear hf
        go_wp2_with fail
        go_ret
        exact ⟨ret_int EE.out, hbel⟩

end Go.Proofs.YthjodagbgmpbhaaDoor
