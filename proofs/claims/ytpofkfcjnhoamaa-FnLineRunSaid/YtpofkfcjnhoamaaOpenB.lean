/-
  A block that came in; a block as the laws take it and compare it. No condition.
-/
import Derived.Test.YtpofkfcjnhoamaaBlockD
import Derived.Lib.SmallJoins
namespace Go.Proofs.Ytpofkfcjnhoamaa
open Go.RowKit

/-- What is known of a block that came in. -/
def IsBlockK (_w : World) (v : Value) : Prop := ∃ b : Blk, v = bkV b

section
variable {H : Type} {enc : TypeId × Value → H} {W : World}

set_option maxRecDepth 100000 in
theorem open_block {v : Value} {d : DataW H} {p : List MemPlace} {b0 : Nat} (hv : Value.okWide Try.prog W .any b0 130 v) (h : DataW.Trod enc Try.prog W 0 (fun _ => true) true 130 v d p) : IsBlockK W v := by
  obtain ⟨v0, v1, v2, y0, y1, y2, n, rfl, rfl, rfl, h0, h1, h2⟩ := Go.Joins.open_agg3 Try.underlying130 (by kernel_rfl) (by kernel_rfl) hv h
  have r0 : ∃ k, v0 = .int .i64 k := by
    cases n with
    | zero => simp [DataW.trod] at h0
    | succ n => cases v0 <;> simp [DataW.trod, Try.underlying3] at h0 <;> simp_all
  have r1 : ∃ k, v1 = .bool k := by
    cases n with
    | zero => simp [DataW.trod] at h1
    | succ n => cases v1 <;> simp [DataW.trod, Try.underlying4] at h1 <;> simp_all
  have r2 : ∃ k, v2 = .bool k := by
    cases n with
    | zero => simp [DataW.trod] at h2
    | succ n => cases v2 <;> simp [DataW.trod, Try.underlying4] at h2 <;> simp_all
  obtain ⟨k, rfl⟩ := r0
  obtain ⟨i, rfl⟩ := r1
  obtain ⟨o, rfl⟩ := r2
  exact ⟨(k, i, o), rfl⟩

end

set_option maxHeartbeats 2000000 in
theorem toBlock (b : Blk) (w : World) :
    Calls Try.prog 85 #[.agg #[.int .i64 b.1, .bool b.2.1, .bool b.2.2]] w fun e w' => e = .returned (.agg #[.int .i64 b.1, .bool b.2.1, .bool b.2.2]) ∧ Below w.heap.size w w' := by
  go_enter Try.func85, Try.ntmps85
  go_wp2_with fail
  exact bodyPost_ret (v := .agg #[.int .i64 b.1, .bool b.2.1, .bool b.2.2]) (by simp [results, Try.results85, go_sem]) rfl ⟨rfl, (((below_self w).alloc (Nat.le_refl _) _).alloc (by simp) _).alloc (by simp; omega) _⟩

set_option maxHeartbeats 2000000 in
theorem eqBlock (x : Blk) (w : World) :
    Calls Try.prog 86 #[.agg #[.int .i64 x.1, .bool x.2.1, .bool x.2.2], .agg #[.int .i64 x.1, .bool x.2.1, .bool x.2.2]] w fun e w' => e = .returned (.bool true) ∧ Below w.heap.size w w' := by
  go_enter Try.func86, Try.ntmps86
  go_wp2_with fail
  go_ret
  exact ⟨rfl, ((below_self w).alloc (Nat.le_refl _) _).alloc (by simp) _⟩

end Go.Proofs.Ytpofkfcjnhoamaa
