/-
  How often directions change: the model's and the program's DirectionsChanges. For texts of at most 1048576 bytes; the variable MaxLen holds a number.
-/
import Derived.Test.YtlcmkocbpnekhaaDoorDirA
import Derived.Test.YtlcmkocbpnekhaaDoorShp
namespace Go.Proofs.YtlcmkocbpnekhaaDoor
open Go.RowKit Go.Sort

theorem chN_no {S : ByteArray} (h : dirB S = false) : chN S = -1 := by unfold chN; rw [h]; rfl
theorem chN_yes {S : ByteArray} (h : dirB S = true) : chN S = chTo S S.size := by unfold chN; rw [h]; rfl
theorem dir_len {S : ByteArray} (h : dirB S = true) : (S.size : Int) ≤ 30 := by have := (dirB_of h).1; omega
theorem chTo_one (S : ByteArray) : chTo S 1 = 0 := by simp [chTo]
theorem chTo_same {S : ByteArray} {k : Nat} (h : bt S (k + 1) = bt S k) : chTo S (k + 2) = chTo S (k + 1) := by
  have : chTo S (k + 2) = chTo S (k + 1) + (if 0 < k + 1 ∧ bt S (k + 1) ≠ bt S (k + 1 - 1) then 1 else 0) := rfl
  rw [this, if_neg (fun q => q.2 h)]; omega
theorem chTo_other {S : ByteArray} {k : Nat} (h : bt S (k + 1) ≠ bt S k) : chTo S (k + 2) = chTo S (k + 1) + 1 := by
  have : chTo S (k + 2) = chTo S (k + 1) + (if 0 < k + 1 ∧ bt S (k + 1) ≠ bt S (k + 1 - 1) then 1 else 0) := rfl
  rw [this, if_pos ⟨by omega, h⟩]

set_option maxHeartbeats 1000000 in
theorem implChanges (S : ByteArray) (hS : S.size ≤ 1048576) (w : World) (hm : ∃ m : Int, w.cell? ⟨maxLenG, 0, none⟩ = some (.int .i64 m)) :
    Calls Tryd.prog 11 #[.string S] w fun e w' => e = .returned (.int .i64 (chN S)) ∧ Below w.heap.size w w' := by
  have V := Lib.hid (implDirections S (by omega) w)
  obtain ⟨d, hd⟩ : ∃ d, d = dirB S := ⟨_, rfl⟩
  rw [← hd] at V
  cases d
  · have E := Lib.hid (chN_no hd.symm)
    clear hd
    go_enter Tryd.func11, Tryd.ntmps11
    go_wp2_with (go_at_call 20; refine V.out.mono ?_)
    rintro e w1 ⟨rfl, b1⟩
    go_wp2_with fail
    go_ret
    exact ⟨ret_int E.out.symm, b1⟩
  · obtain ⟨m, hm⟩ := hm
    have hlt := World.block_lt_of_cell? w _ hm
    have HM := Lib.hid (fun (w1 : World) (b1 : Below w.heap.size w w1) => (b1.cell (p := ⟨maxLenG, 0, none⟩) hlt).trans hm)
    have HC := Lib.hid (fun (w1 : World) (b1 : Below w.heap.size w w1) (C : ByteArray) (h2 : 2 ≤ C.size) => Tryd.strings_Count S C m w1 (by omega) (HM.out w1 b1) h2)
    have E := chN_yes hd.symm
    have hc := count_changes hd.symm
    have hr := chTo_range S S.size
    have h30 := dir_len hd.symm
    obtain ⟨x, hx⟩ : ∃ x : Nat, x = Lib.countB S ⟨#[85, 68]⟩ := ⟨_, rfl⟩
    obtain ⟨y, hy⟩ : ∃ y : Nat, y = Lib.countB S ⟨#[68, 85]⟩ := ⟨_, rfl⟩
    have C1 := Lib.hid (fun w1 b1 => HC.out w1 b1 ⟨#[85, 68]⟩ (Nat.le_refl 2))
    have C2 := Lib.hid (fun w1 b1 => HC.out w1 b1 ⟨#[68, 85]⟩ (Nat.le_refl 2))
    rw [← hx] at C1 hc
    rw [← hy] at C2 hc
    have hx30 : (x : Int) ≤ 30 := by omega
    have hy30 : (y : Int) ≤ 30 := by omega
    have EE := Lib.hid (show (x : Int) + (y : Int) = chN S by rw [E, hc])
    clear hd hm hlt HM HC E hc hr h30 hx hy
    go_enter Tryd.func11, Tryd.ntmps11
    go_wp2_with (go_at_call 20; refine V.out.mono ?_)
    rintro e w1 ⟨rfl, b1⟩
    go_wp2_with (first
      | (go_at_call_of 24 (Value.string ⟨#[85, 68]⟩); refine (C1.out _ b1).mono ?_; rintro e w2 ⟨rfl, rfl⟩)
      | (go_at_call_of 24 (Value.string ⟨#[68, 85]⟩); refine (C2.out _ b1).mono ?_; rintro e w2 ⟨rfl, rfl⟩))
    go_ret
    exact ⟨ret_int EE.out, b1⟩

end Go.Proofs.YtlcmkocbpnekhaaDoor
