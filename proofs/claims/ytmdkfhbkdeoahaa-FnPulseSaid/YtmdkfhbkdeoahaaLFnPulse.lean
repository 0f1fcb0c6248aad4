/-
  For every input the law 'FnPulse' returns true, and each of its arguments reads behind the call as it read before. Conditions: none beyond those of the row.
-/
import Derived.Test.YtmdkfhbkdeoahaaRows
import Derived.WalkKit
import Derived.ProofKit
import Derived.OpenShut
import Derived.ShutString
import Derived.ChangeOld
import Derived.Below
import Derived.Deep.Matrix
import Derived.Test.YtmdkfhbkdeoahaaIo
import Derived.Test.YtmdkfhbkdeoahaaSumI
import Derived.Test.YtmdkfhbkdeoahaaDrwC
import Derived.Test.YtmdkfhbkdeoahaaSameL
namespace Go.Proofs.Ytmdkfhbkdeoahaa
open Go.RowKit

set_option maxHeartbeats 8000000 in
theorem walk_FnPulse (a0 : Option Addr) (len0 cap0 : Nat) (z0 : List Int) (w : World) (w0 : IsRowK .u8 w a0 len0 cap0 z0) :
    Calls Try.prog 3 #[.slice a0 len0 cap0] w fun e w' => e = .returned (.bool true) ∧ Below w.heap.size w w' := by
  rcases Nat.lt_or_ge 1048576 len0 with hbig | hsm
  · have hb : (1048576 : Int) < (len0 : Int) := by omega
    go_enter Try.func3, Try.ntmps3
    go_wp2_with fail
    go_ret
    exact ⟨rfl, Below.refl _ _⟩
  have hb : (len0 : Int) ≤ 1048576 := by omega
  have DN := Lib.hid (drawCountsPulse w0 hsm)
  clear w0
  go_enter Try.func3, Try.ntmps3
  go_wp2_with (go_at_call 8; refine DN.out.mono ?_)
  rintro e wA ⟨v, cs, p, rfl, iA, hl4, hlo, hp0, hp1, bA⟩
  have h4i : (cs.length : Int) ≤ 4 := by omega
  have BA := Lib.hid bA
  have IP := Lib.hid (implPulse iA (p := p) (by omega))
  have SP := Lib.hid (fun (W : World) (q : Below wA.heap.size wA W) => specPulse (iA.below q) (p := p) (by omega))
  have PB := Lib.hid (fun (W : World) (u : Value) (ds : List Int) (q : Ints W u ds) => implPulse q (p := -1 - p) (by omega))
  have PF := Lib.hid (fun (ds : List Int) (q : pulC cs p = some ds) => pulse_facts q)
  have hol := pulC_len (cs := cs) (p := p)
  obtain ⟨o, ho⟩ : ∃ o, o = pulC cs p := ⟨_, rfl⟩
  rw [← ho] at IP PF hol
  simp only [← ho] at SP
  obtain ⟨a, c, rfl, -⟩ := iA.spot
  have IA := Lib.hid iA
  clear ho bA iA
  go_wp2_with (go_at_call 9; refine IP.out.mono ?_)
  rintro e wB ⟨vB, rfl, oB, bB⟩
  have iB := oB.ints hol
  have BB := Lib.hid bB
  clear oB bB
  go_wp2_with (go_at_call 10; refine (SP.out _ BB.out).mono ?_)
  rintro e wC ⟨vC, rfl, oC, bC⟩
  have SM := sameInts (iB.below bC) (oC.ints hol)
  rw [decide_eq_true rfl] at SM
  have SM := Lib.hid SM
  have IB := Lib.hid (iB.below bC)
  have IC := Lib.hid (oC.ints hol)
  have BC := Lib.hid (chain BB.out bC)
  clear bC oC iB
  cases o with
  | none =>
    go_wp2_with (first
      | (go_at_call 11; refine SM.out.mono ?_)
      | fail)
    rintro e w4 ⟨rfl, b4⟩
    have SM2 := sameInts (IB.out.below b4) (IC.out.below b4)
    rw [decide_eq_true rfl] at SM2
    have SM2 := Lib.hid SM2
    go_wp2_with (go_at_call 11; refine SM2.out.mono ?_; rintro e w5 ⟨rfl, b5⟩)
    go_ret
    exact ⟨rfl, chain (chain BA.out BC.out) (chain b4 b5)⟩
  | some ds =>
    obtain ⟨F1, F2, F3, F4, F5⟩ := PF.out ds rfl
    go_wp2_with (go_at_call 11; refine SM.out.mono ?_; rintro e w4 ⟨rfl, b4⟩)
    have I4 : Ints w4 vB ds := IB.out.below b4
    have PB4 := PB.out w4 vB ds I4
    rw [F4] at PB4
    have PB4 := Lib.hid PB4
    have B4 := Lib.hid (chain BC.out b4)
    have vd := (cntB_of F2).2
    have vc := (cntB_of F1).2
    have hl := (cntB_of F1).1
    have I4 := Lib.hid I4
    clear b4 F4 PB SM IB IC PF
    go_wp2_with (go_at_call 9; refine PB4.out.mono ?_)
    rintro e w5 ⟨v5, rfl, o5, b5⟩
    have I5 : Ints w5 v5 cs := o5.ints (show cs.length ≤ 1048576 by omega)
    have ID : Ints w5 vB ds := I4.out.below b5
    have IA5 := IA.out.below (chain B4.out b5)
    have SD := sumOf ID (by omega) (fun i hi => by have := vd i hi; omega)
    have SC := sumOf IA5 (by omega) (fun i hi => by have := vc i hi; omega)
    have rd := smTo_range (xs := ds) (fun i hi => by have := vd i hi; omega) _ (Nat.le_refl _)
    have rc := smTo_range (xs := cs) (fun i hi => by have := vc i hi; omega) _ (Nat.le_refl _)
    obtain ⟨sd, hsd⟩ : ∃ s, s = smTo ds ds.length := ⟨_, rfl⟩
    obtain ⟨sc, hsc⟩ : ∃ s, s = smTo cs cs.length := ⟨_, rfl⟩
    rw [← hsd] at SD rd
    rw [← hsc] at SC rc
    rw [← hsd, ← hsc] at F5
    have hwd : IntKind.i64.wrap (sd - sc) = sd - sc := IntWalk.i64_in _ (by omega)
    have SD := Lib.hid SD
    have SC := Lib.hid SC
    have SM := sameInts I5 IA5
    rw [decide_eq_true rfl] at SM
    have SM := Lib.hid SM
    have C5 := Lib.hid (chain BA.out (chain B4.out b5))
    clear b5 o5 I5 ID IA5 vd vc hsd hsc PB4
    have tail : ∃ b0 b1 b2 b3 : Bool, (p == 0) = b0 ∧ (p == -1 - (cs.length : Int)) = b1 ∧ (p == -1) = b2 ∧ (p == (cs.length : Int)) = b3 ∧
        ((b0 = true ∧ b2 = false ∧ b3 = false ∧ sd - sc = 1) ∨ (b0 = false ∧ b1 = true ∧ b2 = false ∧ b3 = false ∧ sd - sc = 1) ∨ (b0 = false ∧ b1 = false ∧ b2 = true ∧ sd - sc = -1) ∨ (b0 = false ∧ b1 = false ∧ b2 = false ∧ b3 = true ∧ sd - sc = -1) ∨ (b0 = false ∧ b1 = false ∧ b2 = false ∧ b3 = false ∧ sd - sc = 0)) := by
      refine ⟨_, _, _, _, rfl, rfl, rfl, rfl, ?_⟩
      rw [F5]
      simp only [beq_iff_eq, beq_eq_false_iff_ne]
      repeat' split
      all_goals omega
    clear F5 rd rc
    obtain ⟨b0, b1, b2, b3, e0, e1, e2, e3, h⟩ := tail
    have hne : ∀ x y : Int, x = y → (x == y) = true := fun x y q => beq_iff_eq.2 q
    rcases h with ⟨rfl, rfl, rfl, h⟩ | ⟨rfl, rfl, rfl, rfl, h⟩ | ⟨rfl, rfl, rfl, h⟩ | ⟨rfl, rfl, rfl, rfl, h⟩ | ⟨rfl, rfl, rfl, rfl, h⟩
    all_goals
      have hd := hne _ _ h
      clear h hne
      go_wp2_with (first
        | (go_at_call 12; with_reducible refine SD.out.mono ?_; rintro e w6 ⟨rfl, rfl⟩)
        | (go_at_call 12; with_reducible refine SC.out.mono ?_; rintro e w7 ⟨rfl, rfl⟩)
        | (go_at_call 11; refine SM.out.mono ?_; rintro e w8 ⟨rfl, b8⟩))
      go_ret
      exact ⟨rfl, chain C5.out b8⟩

end Go.Proofs.Ytmdkfhbkdeoahaa

namespace Go.Proofs.Ytmdkfhbkdeoahaa.fnPulse
open Go.ChangeShapes Go.WideShapes Go.ChangeAt Go.RowKit
open Go.ChangeMaps (open_string shut_string)
set_option linter.unusedVariables false

theorem own : ownKnob Try.prog.godebug = none := by kernel_rfl
theorem laidOut : laidOutB Try.prog = true := by kernel_rfl

set_option maxRecDepth 100000 in
theorem lifted (os : Os) (started : os.Started) (H : Type) (enc : TypeId × Value → H) :
    ReturnsInHanded {} Try.checked os 3 .any (Rows.fnPulseSpec.pre6 enc Try.prog Try.f3 Rows.fnPulseRow.domain false) (Rows.fnPulseSpec.post enc Try.prog Try.f3 false true false false) := by
  refine returnsInHanded_of_change (C := Try.checked) own started (by kernel_rfl) Try.func3
    (ChangeSpec.witness6 (enc := enc) (C := Try.checked) false ⟨#[], #[.slice none 0 0], []⟩ 8 (by kernel_rfl) (by kernel_rfl) (by kernel_rfl) (by kernel_rfl)) ?_
  intro W base args ds gs before hval0 hW hcnd _
  have hval : ∀ (j : Nat) t v, Try.f3.params[j]? = some t → args[j]? = some v → Value.okWide Try.prog W .any base t v := hval0
  have hW' := hW
  obtain ⟨p, q, hA0, hV, rfl, hfz, hnd⟩ := hW
  have hA : DataW.TrodAll enc Try.prog W 0 (fun _ => true) true Try.f3.params.toList args.toList ds p := hA0
  rw [Try.params3] at hA hval
  obtain ⟨v0, vs0, d0, ds0, p0, q0, hargs, rfl, rfl, h0, r0⟩ := trodAll_cons hA
  obtain ⟨rfl, rfl, rfl⟩ := trodAll_nil r0
  obtain rfl : args = #[v0] := by cases args; simp_all
  obtain ⟨rfl, rfl⟩ := trodVars_none hV
  obtain ⟨a0, len0, cap0, rfl⟩ := okWide_slice Try.underlying22 (hval 0 22 v0 rfl rfl)
  have k0 := h0
  have lt0 : ∀ x ∈ p0, x.block < W.heap.size := by obtain ⟨m, hm⟩ := k0; exact DataW.trod_lt m _ _ _ hm
  obtain ⟨z0, w0⟩ : ∃ zs, IsRowK .u8 W a0 len0 cap0 zs := by
    obtain ⟨fuel, hf⟩ := h0
    rcases open_ints Try.underlying22 Try.underlying5 (by kernel_rfl) hf with ⟨hcs, _⟩ | ⟨x, l, c, zs, hcs, _, hl, hm, hz, _, hcell, hwz⟩
    · simp [Value.cells] at hcs
      obtain ⟨rfl, rfl, rfl⟩ := hcs
      exact ⟨[], .inl ⟨rfl, rfl, rfl, rfl⟩⟩
    · simp [Value.cells] at hcs
      obtain ⟨rfl, rfl, rfl⟩ := hcs
      exact ⟨zs, .inr ⟨_, rfl, hl, hm, by simpa using hz, hcell, hwz⟩⟩
  clear hA0 hval0
  refine (walk_FnPulse a0 len0 cap0 z0 W w0).mono fun e W' ⟨he, bel⟩ => ?_
  subst he
  exact ⟨_, rfl, _, _, _, [], _, [], hW', trodAll_mk1 (shut_bool Try.underlying4 _), (trodAll_cons_mk (Below.trod laidOut (by kernel_rfl) (of_decide_eq_true (by kernel_rfl)) k0 bel lt0) trodAll_mk0), rfl, bel.frame _, fun h => by cases h⟩

theorem closed : joinedFacts Try.checked.prog 3 Try.f3 Rows.fnPulseSpec Rows.fnPulseRow = true := by
  unfold joinedFacts
  simp only [Bool.and_eq_true]
  repeat' (refine And.intro ?_ ?_)
  all_goals first
    | with_reducible exact may_enter
    | (rw [lifts_final]; kernel_rfl)
    | (rw [make_is]; kernel_rfl)
    | kernel_rfl

theorem over : Rows.fnPulseRow.holds Try.pinned (OpenSpec.ofChange Rows.fnPulseSpec) :=
  OpenClaim.holds_of_wide 3 Try.f3 rfl rfl rfl rfl rfl rfl rfl ⟨rfl, rfl, rfl, rfl, rfl⟩ rfl rfl rfl rfl rfl (by kernel_rfl) Try.func3 closed
    (of_decide_eq_true (by kernel_rfl)) (by unfold Func.isWrapper; first | (rw [if_pos (by decide +kernel)]; kernel_rfl) | (rw [if_neg (by decide +kernel)]; exact ⟨rfl, rfl⟩))
    (fun os started H enc _ => lifted os started H enc)

theorem proved : Rows.FnPulseSaid := over
#print axioms proved
end Go.Proofs.Ytmdkfhbkdeoahaa.fnPulse
