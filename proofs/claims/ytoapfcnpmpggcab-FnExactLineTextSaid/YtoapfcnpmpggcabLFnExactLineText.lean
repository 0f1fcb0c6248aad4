/-
  For every input the law 'FnExactLineText' returns true, and each of its arguments reads behind the call as it read before. Conditions: none beyond those of the row.
-/
import Derived.Test.YtoapfcnpmpggcabRows
import Derived.WalkKit
import Derived.ProofKit
import Derived.OpenShut
import Derived.ShutString
import Derived.ChangeOld
import Derived.Below
import Derived.Deep.Matrix
import Derived.Test.YtoapfcnpmpggcabIo
import Derived.Test.YtoapfcnpmpggcabLineT
import Derived.BigQuiet
namespace Go.Proofs.Ytoapfcnpmpggcab
open Go.RowKit

theorem OwnM.mvs {w : World} {base : Nat} {v : Value} {ms : List Mv} (h : OwnM w base v ms) (hl : ms.length ≤ 1048576) : Mvs w v ms := Ow.rd h hl

set_option maxHeartbeats 1000000 in
theorem walk_FnExactLineText (v0 : Value) (a1 : Int) (w : World) (w0 : IsMvsK w v0) (w1 : (Lit.int .i64 a1).wf = true) :
    Calls Try.prog 11 #[v0, .int .i64 a1] w fun e w' => e = .returned (.bool true) ∧ Below w.heap.size w w' := by
  have _ := w1
  go_enter Try.func11, Try.ntmps11
  go_wp2_with (go_at_call 28; refine (szMovesK w0 (by omega) (by omega)).mono ?_)
  rintro e wa ⟨n, rfl, hn1, hn, ba⟩
  rcases Int.lt_or_le n 0 with hneg | hpos
  · have hd : decide (n < 0) = true := decide_eq_true hneg
    clear hn w0
    go_wp2_with fail
    go_ret
    exact ⟨rfl, ba⟩
  · have hd : decide (n < 0) = false := by simpa using hpos
    obtain ⟨ms, h, hs⟩ := hn hpos
    have hl := Rd.len h
    have hs1 : sumS ms ms.length ≤ 1048576 := by omega
    have SP := Lib.hid (fun (X : World) (v : Value) (i : Mvs X v ms) => specLineText a1 i hs1)
    have IM := Lib.hid (fun (X : World) (v : Value) (i : Mvs X v ms) => implLineText a1 i hs1)
    obtain ⟨y, hy⟩ : ∃ y, y = lnTx ms a1 ms.length := ⟨_, rfl⟩
    rw [← hy] at SP IM
    clear hn w0 hs hs1 hy
    go_wp2_with (go_at_call 30; refine (toMoves (Rd.below h ba)).mono ?_)
    rintro e wb ⟨vb, rfl, o1, b1⟩
    have c1 := chain ba b1
    go_wp2_with (go_at_call 43; refine (SP.out _ _ (o1.mvs hl)).mono ?_)
    rintro e wc ⟨rfl, b2⟩
    have c2 := chain c1 b2
    go_wp2_with (go_at_call 30; refine (toMoves (Rd.below h c2)).mono ?_)
    rintro e wd ⟨vd, rfl, o3, b3⟩
    have c3 := chain c2 b3
    go_wp2_with (go_at_call 44; refine (IM.out _ _ (o3.mvs hl)).mono ?_)
    rintro e we ⟨rfl, b4⟩
    have c4 := chain c3 b4
    go_wp2_with (go_at_call 30; refine (toMoves (Rd.below h c4)).mono ?_)
    rintro e wf ⟨vf, rfl, o5, b5⟩
    have c5 := chain c4 b5
    go_wp2_with (go_at_call 32; refine (eqMovesS (Rd.below (Rd.below (o3.mvs hl) b4) b5) (o5.mvs hl)).mono ?_)
    rintro e wg ⟨rfl, b6⟩
    go_wp2_with fail
    go_ret
    exact ⟨rfl, chain c5 b6⟩

end Go.Proofs.Ytoapfcnpmpggcab

namespace Go.Proofs.Ytoapfcnpmpggcab.fnExactLineText
open Go.ChangeShapes Go.WideShapes Go.ChangeAt Go.RowKit
open Go.ChangeMaps (open_string shut_string)
set_option linter.unusedVariables false

theorem own : ownKnob Try.prog.godebug = none := by kernel_rfl
theorem laidOut : laidOutB Try.prog = true := by kernel_rfl

set_option maxRecDepth 100000 in
theorem lifted (os : Os) (started : os.Started) (H : Type) (enc : TypeId × Value → H) :
    ReturnsInHanded {} Try.checked os 11 .any (Rows.fnExactLineTextSpec.pre6 enc Try.prog Try.f11 Rows.fnExactLineTextRow.domain false) (Rows.fnExactLineTextSpec.post enc Try.prog Try.f11 false true false false) := by
  refine returnsInHanded_of_change (C := Try.checked) own started (by kernel_rfl) Try.func11
    (ChangeSpec.witness6 (enc := enc) (C := Try.checked) false ⟨#[], #[.slice none 0 0, .int .i64 0], []⟩ 8 (by kernel_rfl) (by kernel_rfl) (by kernel_rfl) (by kernel_rfl)) ?_
  intro W base args ds gs before hval0 hW hcnd _
  have hval : ∀ (j : Nat) t v, Try.f11.params[j]? = some t → args[j]? = some v → Value.okWide Try.prog W .any base t v := hval0
  have hW' := hW
  obtain ⟨p, q, hA0, hV, rfl, hfz, hnd⟩ := hW
  have hA : DataW.TrodAll enc Try.prog W 0 (fun _ => true) true Try.f11.params.toList args.toList ds p := hA0
  rw [Try.params11] at hA hval
  obtain ⟨v0, vs0, d0, ds0, p0, q0, hargs, rfl, rfl, h0, r0⟩ := trodAll_cons hA
  obtain ⟨v1, vs1, d1, ds1, p1, q1, rfl, rfl, rfl, h1, r1⟩ := trodAll_cons r0
  obtain ⟨rfl, rfl, rfl⟩ := trodAll_nil r1
  obtain rfl : args = #[v0, v1] := by cases args; simp_all
  obtain ⟨rfl, rfl⟩ := trodVars_none hV
  have w0 := open_moves (hval 0 45 v0 rfl rfl) h0
  have k0 := h0
  have lt0 : ∀ x ∈ p0, x.block < W.heap.size := by obtain ⟨m, hm⟩ := k0; exact DataW.trod_lt m _ _ _ hm
  obtain ⟨a1, rfl, rfl, rfl, w1⟩ := open_int Try.underlying3 (hval 1 3 v1 rfl rfl) h1
  clear hA0 hval0
  refine (walk_FnExactLineText v0 a1 W w0 w1).mono fun e W' ⟨he, bel⟩ => ?_
  subst he
  exact ⟨_, rfl, _, _, _, [], _, [], hW', trodAll_mk1 (shut_bool Try.underlying4 _), (trodAll_cons_mk (Below.trod laidOut (by kernel_rfl) (of_decide_eq_true (by kernel_rfl)) k0 bel lt0) (trodAll_cons_mk (shut_int Try.underlying3 w1) trodAll_mk0)), rfl, bel.frame _, fun h => by cases h⟩

theorem closed : joinedFacts Try.checked.prog 11 Try.f11 Rows.fnExactLineTextSpec Rows.fnExactLineTextRow = true := by
  unfold joinedFacts
  simp only [Bool.and_eq_true]
  repeat' (refine And.intro ?_ ?_)
  all_goals first
    | with_reducible exact may_enter
    | (rw [lifts_final]; kernel_rfl)
    | (rw [make_is]; kernel_rfl)
    | kernel_rfl

theorem over : Rows.fnExactLineTextRow.holds Try.pinned (OpenSpec.ofChange Rows.fnExactLineTextSpec) :=
  OpenClaim.holds_of_wide 11 Try.f11 rfl rfl rfl rfl rfl rfl rfl ⟨rfl, rfl, rfl, rfl, rfl⟩ rfl rfl rfl rfl rfl (by kernel_rfl) Try.func11 closed
    (of_decide_eq_true (by kernel_rfl)) (by unfold Func.isWrapper; first | (rw [if_pos (by decide +kernel)]; kernel_rfl) | (rw [if_neg (by decide +kernel)]; exact ⟨rfl, rfl⟩))
    (fun os started H enc _ => lifted os started H enc)

theorem proved : Rows.FnExactLineTextSaid := over
#print axioms proved
end Go.Proofs.Ytoapfcnpmpggcab.fnExactLineText
