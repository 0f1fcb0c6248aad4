/-
  The model's BlockStep, BlockLegal, BlockNormal, BlockNext. For texts of at most 2097152 bytes.
-/
import Derived.Test.YtodknakemgmhkaaBlockF
import Derived.Test.YtodknakemgmhkaaBlockE
namespace Go.Proofs.Ytodknakemgmhkaa
open Go.RowKit Go.Sort

theorem specRunE (b : Blk) (S : ByteArray) (hS : S.size ≤ 2097152) (w : World) :
    Calls Try.prog 68 #[bkV b, .string S] w fun e w' => e = .returned (.tuple #[.agg #[.int .i64 ((bkRun b S).getD nb).1, .bool ((bkRun b S).getD nb).2.1, .bool ((bkRun b S).getD nb).2.2], .bool (bkRun b S).isSome]) ∧ Below w.heap.size w w' :=
  specRun b S hS w

set_option maxHeartbeats 2000000 in
theorem specLegal (S : ByteArray) (hS : S.size ≤ 2097152) (w : World) :
    Calls Try.prog 64 #[.string S] w fun e w' => e = .returned (.bool (bkLegal S)) ∧ Below w.heap.size w w' := by
  have HR := Lib.hid (specRunE nb S hS)
  obtain ⟨y, hy⟩ : ∃ y, y = (bkRun nb S).getD nb := ⟨_, rfl⟩
  obtain ⟨t, ht⟩ : ∃ t, t = (bkRun nb S).isSome := ⟨_, rfl⟩
  rw [← hy, ← ht] at HR
  have HTT := Lib.hid ht
  clear hy ht
  go_enter Try.func64, Try.ntmps64
  go_wp2_with (go_at_call 68; refine (HR.out _).mono ?_)
  rintro e w1 ⟨rfl, b1⟩
  go_wp2_with fail
  go_ret
  exact ⟨ret_bool HTT.out, b1.alloc b1.size _⟩


end Go.Proofs.Ytodknakemgmhkaa
