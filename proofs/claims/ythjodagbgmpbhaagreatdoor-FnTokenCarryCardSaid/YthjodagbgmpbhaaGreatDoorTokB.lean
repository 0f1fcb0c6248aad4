/-
  The state of tokens behind an event, by the model and by the program. For valid states.
-/
import Derived.Test.YthjodagbgmpbhaaGreatDoorTokA
namespace Go.Proofs.YthjodagbgmpbhaaGreatDoor
open Go.RowKit

set_option maxHeartbeats 4000000 in
theorem tokenAfter (t : Tk) (c : Int) (ht : tkOk t = true) (w : World) :
    Calls Tryz.prog 33 #[tkV t, .int .u8 c] w fun e w' => e = .returned (tkR (tkStep t c)) ∧ Below w.heap.size w w' := by
  obtain ⟨a, b, o⟩ := t
  have hk := tkOk_of ht
  simp only at hk
  obtain ⟨⟨a0, a12⟩, ⟨b0, b12⟩, ⟨o0, o2⟩, hs⟩ := hk
  have h3 : o = 0 ∨ o = 1 ∨ o = 2 := by omega
  clear ht hs o0 o2
  unfold tkV
  have end2 : ∀ (x y z : Value) (t : TypeId) (x' y' z' : Value) (t' : TypeId), Below w.heap.size w ((w.alloc (.cells #[x, y, z] t)).alloc (.cells #[x', y', z'] t')) := fun x y z t x' y' z' t' => ((below_self w).alloc (Nat.le_refl _) _).alloc (by simp) _
  by_cases hc : c = 97 ∨ c = 98 ∨ c = 112 ∨ c = 113
  · rcases hc with rfl | rfl | rfl | rfl <;> rcases h3 with rfl | rfl | rfl
    · by_cases hv : 0 < a
      · skip
        have E := Lib.hid (show tkStep (a, b, 0) 97 = some (a - 1, b, 1) from by simp [tkStep, hv])
        go_enter Tryz.func33, Tryz.ntmps33
        go_wp2_with fail
        exact bodyPost_ret (v := .tuple #[.agg #[.int .i64 (a - 1), .int .i64 b, .int .i64 1], .bool true]) (by simp [results, Tryz.results33, go_sem]) rfl ⟨by rw [E.out]; rfl, end2 _ _ _ _ _ _ _ _⟩
      · obtain rfl : a = 0 := by omega
        clear hv
        have E := Lib.hid (show tkStep (0, b, 0) 97 = none from by simp [tkStep])
        go_enter Tryz.func33, Tryz.ntmps33
        go_wp2_with fail
        exact bodyPost_ret (v := .tuple #[.agg #[.int .i64 0, .int .i64 0, .int .i64 0], .bool false]) (by simp [results, Tryz.results33, go_sem]) rfl ⟨by rw [E.out]; rfl, end2 _ _ _ _ _ _ _ _⟩
    · skip
      have E := Lib.hid (show tkStep (a, b, 1) 97 = none from by simp [tkStep])
      go_enter Tryz.func33, Tryz.ntmps33
      go_wp2_with fail
      exact bodyPost_ret (v := .tuple #[.agg #[.int .i64 0, .int .i64 0, .int .i64 0], .bool false]) (by simp [results, Tryz.results33, go_sem]) rfl ⟨by rw [E.out]; rfl, end2 _ _ _ _ _ _ _ _⟩
    · skip
      have E := Lib.hid (show tkStep (a, b, 2) 97 = none from by simp [tkStep])
      go_enter Tryz.func33, Tryz.ntmps33
      go_wp2_with fail
      exact bodyPost_ret (v := .tuple #[.agg #[.int .i64 0, .int .i64 0, .int .i64 0], .bool false]) (by simp [results, Tryz.results33, go_sem]) rfl ⟨by rw [E.out]; rfl, end2 _ _ _ _ _ _ _ _⟩
    · by_cases hv : 0 < b
      · skip
        have E := Lib.hid (show tkStep (a, b, 0) 98 = some (a, b - 1, 2) from by simp [tkStep, hv])
        go_enter Tryz.func33, Tryz.ntmps33
        go_wp2_with fail
        exact bodyPost_ret (v := .tuple #[.agg #[.int .i64 a, .int .i64 (b - 1), .int .i64 2], .bool true]) (by simp [results, Tryz.results33, go_sem]) rfl ⟨by rw [E.out]; rfl, end2 _ _ _ _ _ _ _ _⟩
      · obtain rfl : b = 0 := by omega
        clear hv
        have E := Lib.hid (show tkStep (a, 0, 0) 98 = none from by simp [tkStep])
        go_enter Tryz.func33, Tryz.ntmps33
        go_wp2_with fail
        exact bodyPost_ret (v := .tuple #[.agg #[.int .i64 0, .int .i64 0, .int .i64 0], .bool false]) (by simp [results, Tryz.results33, go_sem]) rfl ⟨by rw [E.out]; rfl, end2 _ _ _ _ _ _ _ _⟩
    · skip
      have E := Lib.hid (show tkStep (a, b, 1) 98 = none from by simp [tkStep])
      go_enter Tryz.func33, Tryz.ntmps33
      go_wp2_with fail
      exact bodyPost_ret (v := .tuple #[.agg #[.int .i64 0, .int .i64 0, .int .i64 0], .bool false]) (by simp [results, Tryz.results33, go_sem]) rfl ⟨by rw [E.out]; rfl, end2 _ _ _ _ _ _ _ _⟩
    · skip
      have E := Lib.hid (show tkStep (a, b, 2) 98 = none from by simp [tkStep])
      go_enter Tryz.func33, Tryz.ntmps33
      go_wp2_with fail
      exact bodyPost_ret (v := .tuple #[.agg #[.int .i64 0, .int .i64 0, .int .i64 0], .bool false]) (by simp [results, Tryz.results33, go_sem]) rfl ⟨by rw [E.out]; rfl, end2 _ _ _ _ _ _ _ _⟩
    · skip
      have E := Lib.hid (show tkStep (a, b, 0) 112 = none from by simp [tkStep])
      go_enter Tryz.func33, Tryz.ntmps33
      go_wp2_with fail
      exact bodyPost_ret (v := .tuple #[.agg #[.int .i64 0, .int .i64 0, .int .i64 0], .bool false]) (by simp [results, Tryz.results33, go_sem]) rfl ⟨by rw [E.out]; rfl, end2 _ _ _ _ _ _ _ _⟩
    · skip
      have E := Lib.hid (show tkStep (a, b, 1) 112 = some (a, b + 1, 0) from by simp [tkStep])
      go_enter Tryz.func33, Tryz.ntmps33
      go_wp2_with fail
      exact bodyPost_ret (v := .tuple #[.agg #[.int .i64 a, .int .i64 (b + 1), .int .i64 0], .bool true]) (by simp [results, Tryz.results33, go_sem]) rfl ⟨by rw [E.out]; rfl, end2 _ _ _ _ _ _ _ _⟩
    · skip
      have E := Lib.hid (show tkStep (a, b, 2) 112 = some (a + 1, b, 0) from by simp [tkStep])
      go_enter Tryz.func33, Tryz.ntmps33
      go_wp2_with fail
      exact bodyPost_ret (v := .tuple #[.agg #[.int .i64 (a + 1), .int .i64 b, .int .i64 0], .bool true]) (by simp [results, Tryz.results33, go_sem]) rfl ⟨by rw [E.out]; rfl, end2 _ _ _ _ _ _ _ _⟩
    · skip
      have E := Lib.hid (show tkStep (a, b, 0) 113 = none from by simp [tkStep])
      go_enter Tryz.func33, Tryz.ntmps33
      go_wp2_with fail
      exact bodyPost_ret (v := .tuple #[.agg #[.int .i64 0, .int .i64 0, .int .i64 0], .bool false]) (by simp [results, Tryz.results33, go_sem]) rfl ⟨by rw [E.out]; rfl, end2 _ _ _ _ _ _ _ _⟩
    · skip
      have E := Lib.hid (show tkStep (a, b, 1) 113 = some (a + 1, b, 0) from by simp [tkStep])
      go_enter Tryz.func33, Tryz.ntmps33
      go_wp2_with fail
      exact bodyPost_ret (v := .tuple #[.agg #[.int .i64 (a + 1), .int .i64 b, .int .i64 0], .bool true]) (by simp [results, Tryz.results33, go_sem]) rfl ⟨by rw [E.out]; rfl, end2 _ _ _ _ _ _ _ _⟩
    · skip
      have E := Lib.hid (show tkStep (a, b, 2) 113 = some (a, b + 1, 0) from by simp [tkStep])
      go_enter Tryz.func33, Tryz.ntmps33
      go_wp2_with fail
      exact bodyPost_ret (v := .tuple #[.agg #[.int .i64 a, .int .i64 (b + 1), .int .i64 0], .bool true]) (by simp [results, Tryz.results33, go_sem]) rfl ⟨by rw [E.out]; rfl, end2 _ _ _ _ _ _ _ _⟩
  · have hq : c ≠ 97 ∧ c ≠ 98 ∧ c ≠ 112 ∧ c ≠ 113 := ⟨fun e => hc (.inl e), fun e => hc (.inr (.inl e)), fun e => hc (.inr (.inr (.inl e))), fun e => hc (.inr (.inr (.inr e)))⟩
    have E := Lib.hid (tkStep_other (t := (a, b, o)) hq)
    obtain ⟨h1, h2, h3', h4⟩ := hq
    clear hc
    rcases h3 with rfl | rfl | rfl
    all_goals
      go_enter Tryz.func33, Tryz.ntmps33
      go_wp2_with fail
      exact bodyPost_ret (v := .tuple #[.agg #[.int .i64 0, .int .i64 0, .int .i64 0], .bool false]) (by simp [results, Tryz.results33, go_sem]) rfl ⟨by rw [E.out]; rfl, end2 _ _ _ _ _ _ _ _⟩

end Go.Proofs.YthjodagbgmpbhaaGreatDoor
