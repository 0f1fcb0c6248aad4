/-
  The linked notes up to a minute; all but one; the program's exported functions that hand back notes.
-/
import Derived.Test.YtilkphehonilbaaRegT
namespace Go.Proofs.Ytilkphehonilbaa
open Go.RowKit

set_option maxRecDepth 100000 in
set_option maxHeartbeats 2000000 in
theorem implWithout (ns : List Mv) : ∀ (i : Nat) (w : World) (p : Value), ns.length ≤ 1048576 → i < ns.length → Chain w p ns → Calls Try.prog 23 #[p, .int .i64 i] w fun e w' => ∃ q, e = .returned q ∧ Chain w' q (ns.eraseIdx i) ∧ Below w.heap.size w w' := by
  induction ns with
  | nil => intro i w p _ hi _; exact absurd hi (by simp)
  | cons x r ih =>
    intro i w p hl hi h
    have hl2 : r.length + 1 ≤ 1048576 := hl
    have hi2 : i < r.length + 1 := hi
    clear hl hi
    obtain ⟨b, q, rfl, hb, k0, k1, k2, hn⟩ := h.cells
    obtain ⟨aq, rfl⟩ := hn.ptr
    clear h
    cases i with
    | zero =>
      clear ih hi2 hl2
      have e0 : decide (((0 : Nat) : Int) = 0) = true := rfl
      go_enter Try.func23, Try.ntmps23
      go_wp2_with fail
      go_ret
      exact ⟨_, rfl, hn, Below.refl _ _⟩
    | succ i =>
      obtain ⟨J, hJ⟩ : ∃ J : Int, J = ((i + 1 : Nat) : Int) := ⟨_, rfl⟩
      rw [← hJ]
      have hd : (J == 0) = false := by rw [beq_eq_false_iff_ne]; omega
      have hw1 : IntKind.i64.wrap (J - 1) = (i : Int) := by
        rw [show J - 1 = (i : Int) by omega]
        exact IntWalk.i64_in _ (by omega)
      have hw2 : wrap64 (J - 1) = (i : Int) := (IntWalk.i64_left _).symm.trans hw1
      have IH := Lib.hid (fun (X : World) (c : Below w.heap.size w X) => ih i X _ (by omega) (by omega) (hn.below c))
      clear ih hi2 hl2 hJ
      go_enter Try.func23, Try.ntmps23
      go_upto_region 3 with fail
      have d0 : Below w.heap.size w w.drew := (Below.refl _ _).drew
      have CL := Lib.hid (fun (X : World) (c : Below w.heap.size w X) => show X.cell? ⟨b, 0, none⟩ = some (.int .i64 x.1) ∧ X.cell? ⟨b, 1, none⟩ = some (.string x.2) ∧ X.cell? ⟨b, 2, none⟩ = some (.pointer aq) from
        ⟨(c.cell (p := ⟨b, 0, none⟩) hb).trans k0, (c.cell (p := ⟨b, 1, none⟩) hb).trans k1, (c.cell (p := ⟨b, 2, none⟩) hb).trans k2⟩)
      clear hn
      go_region_held3 (fun X => X.cell? ⟨b, 0, none⟩ = some (.int .i64 x.1) ∧ X.cell? ⟨b, 1, none⟩ = some (.string x.2) ∧ X.cell? ⟨b, 2, none⟩ = some (.pointer aq))
        (first | exact CL.out _ d0 | exact CL.out _ (d0.trans (bA.mono d0.size)) | exact CL.out _ ((d0.trans (bA.mono d0.size)).alloc (d0.trans (bA.mono d0.size)).size _) | go_keep)
        (first | (go_at_call 23; refine (IH.out _ d0).mono ?_; rintro e wA ⟨qA, rfl, chA, bA⟩; obtain ⟨aA, rfl⟩ := chA.ptr) | fail)
      all_goals (go_wp2_with fail; go_ret; exact ⟨_, rfl, chA.new x, (d0.trans (bA.mono d0.size)).alloc (d0.trans (bA.mono d0.size)).size _⟩)

end Go.Proofs.Ytilkphehonilbaa
