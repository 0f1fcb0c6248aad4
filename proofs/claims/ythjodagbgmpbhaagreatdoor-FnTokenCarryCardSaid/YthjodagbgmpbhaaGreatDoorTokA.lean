/-
  Tokens: is a state valid, and the state behind an event: the model's and the program's. No condition on the state but that its numbers are numbers of the machine.
-/
import Derived.Test.YthjodagbgmpbhaaGreatDoorTokP
import Derived.Test.YthjodagbgmpbhaaGreatDoorTri
import Derived.IntWalk
import Derived.Deep.DeepCutAuto
import Derived.Deep.RegionWith
namespace Go.Proofs.YthjodagbgmpbhaaGreatDoor
open Go.RowKit

/-- The three numbers fit. -/
def tkFits (t : Tk) : Prop := (-9223372036854775808 ≤ t.1 ∧ t.1 ≤ 9223372036854775807) ∧ (-9223372036854775808 ≤ t.2.1 ∧ t.2.1 ≤ 9223372036854775807) ∧ (-9223372036854775808 ≤ t.2.2 ∧ t.2.2 ≤ 9223372036854775807)
theorem tkFits_ok {t : Tk} (h : tkOk t = true) : tkFits t := by have := tkOk_of h; unfold tkFits; omega

set_option maxHeartbeats 1000000 in
theorem specTokenValid (t : Tk) (w : World) :
    Calls Tryz.prog 37 #[tkV t] w fun e w' => e = .returned (.bool (tkOk t)) ∧ Below w.heap.size w w' := by
  obtain ⟨a, b, o⟩ := t
  unfold tkV
  obtain ⟨x, hx⟩ : ∃ x, x = decide (0 ≤ a ∧ a ≤ 12) := ⟨_, rfl⟩
  obtain ⟨y, hy⟩ : ∃ y, y = decide (0 ≤ b ∧ b ≤ 12) := ⟨_, rfl⟩
  obtain ⟨z, hz⟩ : ∃ z, z = decide (0 ≤ o ∧ o ≤ 2) := ⟨_, rfl⟩
  have A := Lib.hid (in_is a 0 12)
  have B := Lib.hid (in_is b 0 12)
  have C := Lib.hid (in_is o 0 2)
  rw [← hx] at A
  rw [← hy] at B
  rw [← hz] at C
  have q := below_alloc w (.cells #[.int .i64 a, .int .i64 b, .int .i64 o] 29)
  by_cases hall : x = true ∧ y = true ∧ z = true
  · obtain ⟨rfl, rfl, rfl⟩ := hall
    have ha := of_decide_eq_true hx.symm
    have hb := of_decide_eq_true hy.symm
    have ho := of_decide_eq_true hz.symm
    have E : tkOk (a, b, o) = decide (a + b + min 1 o ≤ 12) := decide_eq_decide.2 ⟨fun h => h.2.2.2, fun h => ⟨ha, hb, ho, h⟩⟩
    have h1 := ha.1
    have h2 := ha.2
    have h3 := hb.1
    have h4 := hb.2
    have ho3 : o = 0 ∨ o = 1 ∨ o = 2 := by omega
    clear hx hy hz ha hb ho
    rcases ho3 with rfl | rfl | rfl
    · replace E := Lib.hid (show tkOk (a, b, 0) = decide (a + b ≤ 12) by rw [E]; exact decide_eq_decide.2 ⟨fun h => by omega, fun h => by omega⟩)
      go_enter Tryz.func37, Tryz.ntmps37
      go_wp2_with (first
        | (go_at_call_of 46 (Value.int .i64 a); refine (A.out _).mono ?_; rintro e w' ⟨rfl, rfl⟩)
        | (go_at_call_of 46 (Value.int .i64 b); refine (B.out _).mono ?_; rintro e w' ⟨rfl, rfl⟩)
        | (go_at_call_of 46 (Value.int .i64 0); refine (C.out _).mono ?_; rintro e w' ⟨rfl, rfl⟩))
      go_ret
      exact ⟨ret_bool E.out.symm, q⟩
    · replace E := Lib.hid (show tkOk (a, b, 1) = decide (a + b + 1 ≤ 12) from E)
      go_enter Tryz.func37, Tryz.ntmps37
      go_wp2_with (first
        | (go_at_call_of 46 (Value.int .i64 a); refine (A.out _).mono ?_; rintro e w' ⟨rfl, rfl⟩)
        | (go_at_call_of 46 (Value.int .i64 b); refine (B.out _).mono ?_; rintro e w' ⟨rfl, rfl⟩)
        | (go_at_call_of 46 (Value.int .i64 1); refine (C.out _).mono ?_; rintro e w' ⟨rfl, rfl⟩))
      go_ret
      exact ⟨ret_bool E.out.symm, q⟩
    · replace E := Lib.hid (show tkOk (a, b, 2) = decide (a + b + 1 ≤ 12) from E)
      go_enter Tryz.func37, Tryz.ntmps37
      go_wp2_with (first
        | (go_at_call_of 46 (Value.int .i64 a); refine (A.out _).mono ?_; rintro e w' ⟨rfl, rfl⟩)
        | (go_at_call_of 46 (Value.int .i64 b); refine (B.out _).mono ?_; rintro e w' ⟨rfl, rfl⟩)
        | (go_at_call_of 46 (Value.int .i64 2); refine (C.out _).mono ?_; rintro e w' ⟨rfl, rfl⟩))
      go_ret
      exact ⟨ret_bool E.out.symm, q⟩
  · have E := Lib.hid (show tkOk (a, b, o) = false from decide_eq_false fun h => hall ⟨by rw [hx]; exact decide_eq_true h.1, by rw [hy]; exact decide_eq_true h.2.1, by rw [hz]; exact decide_eq_true h.2.2.1⟩)
    clear hx hy hz
    cases x
    · clear hall
      go_enter Tryz.func37, Tryz.ntmps37
      go_wp2_with (first
        | (go_at_call_of 46 (Value.int .i64 a); refine (A.out _).mono ?_; rintro e w' ⟨rfl, rfl⟩))
      go_ret
      exact ⟨ret_bool E.out.symm, q⟩
    · cases y
      · clear hall
        go_enter Tryz.func37, Tryz.ntmps37
        go_wp2_with (first
          | (go_at_call_of 46 (Value.int .i64 a); refine (A.out _).mono ?_; rintro e w' ⟨rfl, rfl⟩)
          | (go_at_call_of 46 (Value.int .i64 b); refine (B.out _).mono ?_; rintro e w' ⟨rfl, rfl⟩))
        go_ret
        exact ⟨ret_bool E.out.symm, q⟩
      · have hz0 : z = false := by
          cases z
          · rfl
          · exact absurd ⟨rfl, rfl, rfl⟩ hall
        subst hz0
        clear hall
        go_enter Tryz.func37, Tryz.ntmps37
        go_wp2_with (first
          | (go_at_call_of 46 (Value.int .i64 a); refine (A.out _).mono ?_; rintro e w' ⟨rfl, rfl⟩)
          | (go_at_call_of 46 (Value.int .i64 b); refine (B.out _).mono ?_; rintro e w' ⟨rfl, rfl⟩)
          | (go_at_call_of 46 (Value.int .i64 o); refine (C.out _).mono ?_; rintro e w' ⟨rfl, rfl⟩))
        go_ret
        exact ⟨ret_bool E.out.symm, q⟩

set_option maxHeartbeats 1000000 in
theorem implTokenValid (t : Tk) (ht : tkFits t) (w : World) :
    Calls Tryz.prog 32 #[tkV t] w fun e w' => e = .returned (.bool (tkOk t)) ∧ Below w.heap.size w w' := by
  obtain ⟨a, b, o⟩ := t
  obtain ⟨⟨a1, a2⟩, ⟨b1, b2⟩, o1, o2⟩ := ht
  unfold tkV
  have q := below_alloc w (.cells #[.int .i64 a, .int .i64 b, .int .i64 o] 29)
  simp only at a1 a2 b1 b2 o1 o2
  by_cases h1 : a < 0
  · have E := Lib.hid (show tkOk (a, b, o) = false from decide_eq_false fun h => by have := h.1.1; simp only at this; omega)
    go_enter Tryz.func32, Tryz.ntmps32
    go_wp2_with fail
    go_ret
    exact ⟨ret_bool E.out.symm, q⟩
  by_cases h2 : b < 0
  · have E := Lib.hid (show tkOk (a, b, o) = false from decide_eq_false fun h => by have := h.2.1.1; simp only at this; omega)
    go_enter Tryz.func32, Tryz.ntmps32
    go_wp2_with fail
    go_ret
    exact ⟨ret_bool E.out.symm, q⟩
  by_cases h3 : o < 0
  · have E := Lib.hid (show tkOk (a, b, o) = false from decide_eq_false fun h => by have := h.2.2.1.1; simp only at this; omega)
    go_enter Tryz.func32, Tryz.ntmps32
    go_wp2_with fail
    go_ret
    exact ⟨ret_bool E.out.symm, q⟩
  by_cases h4 : 2 < o
  · have E := Lib.hid (show tkOk (a, b, o) = false from decide_eq_false fun h => by have := h.2.2.1.2; simp only at this; omega)
    go_enter Tryz.func32, Tryz.ntmps32
    go_wp2_with fail
    go_ret
    exact ⟨ret_bool E.out.symm, q⟩
  by_cases h5 : o = 0
  · subst h5
    have E := Lib.hid (show tkOk (a, b, 0) = decide (a ≤ 12 - b) from decide_eq_decide.2 ⟨fun h => by have := h.2.2.2; simp only at this; omega, fun h => by simp only; omega⟩)
    go_enter Tryz.func32, Tryz.ntmps32
    go_wp2_with fail
    go_ret
    exact ⟨ret_bool E.out.symm, q⟩
  · have E := Lib.hid (show tkOk (a, b, o) = decide (a ≤ 11 - b) from decide_eq_decide.2 ⟨fun h => by have := h.2.2.2; simp only at this; omega, fun h => by simp only; omega⟩)
    have h6 : (o != 0) = true := by simp [h5]
    go_enter Tryz.func32, Tryz.ntmps32
    go_wp2_with fail
    go_ret
    exact ⟨ret_bool E.out.symm, q⟩

end Go.Proofs.YthjodagbgmpbhaaGreatDoor
