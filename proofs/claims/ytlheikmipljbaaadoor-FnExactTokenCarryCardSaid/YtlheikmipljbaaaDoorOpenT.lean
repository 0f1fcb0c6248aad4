/-
  A state of tokens that came in; as the laws take it and compare it. No condition.
-/
import Derived.Test.YtlheikmipljbaaaDoorTokA
import Derived.Lib.SmallJoins
namespace Go.Proofs.YtlheikmipljbaaaDoor
open Go.RowKit

/-- What is known of a state of tokens that came in. -/
def IsTokK (_w : World) (v : Value) : Prop := ∃ t : Tk, v = tkV t ∧ tkFits t

section
variable {H : Type} {enc : TypeId × Value → H} {W : World}

set_option maxRecDepth 100000 in
theorem open_token {v : Value} {d : DataW H} {p : List MemPlace} {b0 : Nat} (hv : Value.okWide Tryd.prog W .any b0 28 v) (h : DataW.Trod enc Tryd.prog W 0 (fun _ => true) true 28 v d p) : IsTokK W v := by
  obtain ⟨v0, v1, v2, y0, y1, y2, n, rfl, rfl, rfl, h0, h1, h2⟩ := Go.Joins.open_agg3 Tryd.underlying28 (by kernel_rfl) (by kernel_rfl) hv h
  obtain ⟨k0, e0, _, f0⟩ := DataW.trod_int Tryd.underlying3 h0
  obtain ⟨k1, e1, _, f1⟩ := DataW.trod_int Tryd.underlying3 h1
  obtain ⟨k2, e2, _, f2⟩ := DataW.trod_int Tryd.underlying3 h2
  simp only [List.cons.injEq, and_true] at e0 e1 e2
  subst e0
  subst e1
  subst e2
  have hmin : IntKind.i64.min = -9223372036854775808 := rfl
  have hmax : IntKind.i64.max = 9223372036854775807 := rfl
  have q0 := f0
  have q1 := f1
  have q2 := f2
  simp only [Lit.wf, Bool.and_eq_true, decide_eq_true_eq, hmin, hmax] at q0 q1 q2
  exact ⟨(k0, k1, k2), rfl, ⟨q0, q1, q2⟩⟩

end

set_option maxHeartbeats 2000000 in
theorem toToken (b : Tk) (w : World) :
    Calls Tryd.prog 19 #[.agg #[.int .i64 b.1, .int .i64 b.2.1, .int .i64 b.2.2]] w fun e w' => e = .returned (.agg #[.int .i64 b.1, .int .i64 b.2.1, .int .i64 b.2.2]) ∧ Below w.heap.size w w' := by
  go_enter Tryd.func19, Tryd.ntmps19
  go_wp2_with fail
  exact bodyPost_ret (v := .agg #[.int .i64 b.1, .int .i64 b.2.1, .int .i64 b.2.2]) (by simp [results, Tryd.results19, go_sem]) rfl ⟨rfl, (((below_self w).alloc (Nat.le_refl _) _).alloc (by simp) _).alloc (by simp; omega) _⟩

end Go.Proofs.YtlheikmipljbaaaDoor
