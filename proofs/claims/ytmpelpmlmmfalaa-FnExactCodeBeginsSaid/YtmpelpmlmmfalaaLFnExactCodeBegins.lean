/-
  For every input the law 'FnExactCodeBegins' returns true, and each of its arguments reads behind the call as it read before. Conditions: none beyond those of the row.
-/
import Derived.Test.YtmpelpmlmmfalaaRows
import Derived.WalkKit
import Derived.ProofKit
import Derived.OpenShut
import Derived.ShutString
import Derived.ChangeOld
import Derived.Below
import Derived.Test.YtmpelpmlmmfalaaBegins
namespace Go.Proofs.Ytmpelpmlmmfalaa
open Go.RowKit

set_option maxHeartbeats 400000 in
theorem walk_FnExactCodeBegins (a : Option Addr) (len cap : Nat) (zs : List Int) (a' : Option Addr) (len' cap' : Nat) (zs' : List Int) (w : World) (hr : IsRowI w a len cap zs) (hr' : IsRowI w a' len' cap' zs') :
    Calls Try.prog 10 #[.slice a len cap, .slice a' len' cap'] w fun e w' => e = .returned (.bool true) ∧ Below w.heap.size w w' := by
  rcases Nat.lt_or_ge 1048576 len with hbig | hsm
  · have hb : (1048576 : Int) < (len : Int) := by omega
    go_enter Try.func10, Try.ntmps10
    go_wp2_with fail
    go_ret
    exact ⟨rfl, Below.refl _ _⟩
  have hb : (len : Int) ≤ 1048576 := by omega
  rcases Nat.lt_or_ge 1048576 len' with hbig' | hsm'
  · have hb' : (1048576 : Int) < (len' : Int) := by omega
    go_enter Try.func10, Try.ntmps10
    go_wp2_with fail
    go_ret
    exact ⟨rfl, Below.refl _ _⟩
  · have hb' : (len' : Int) ≤ 1048576 := by omega
    have h := ints_of_row hr hsm
    have k := ints_of_row hr' hsm'
    generalize zs.take len = xs at h
    generalize zs'.take len' = ys at k
    clear hr hsm hr' hsm'
    go_enter Try.func10, Try.ntmps10
    go_wp2_with (go_at_call 30; refine (toInts h).mono ?_)
    rintro e w1 ⟨v1, rfl, o1, b1⟩
    have k1 := k.below b1
    go_wp2_with (go_at_call 30; refine (toInts k1).mono ?_)
    rintro e w2 ⟨v2, rfl, o2, b2⟩
    have i1 := (o1.ints h.len).below b2
    have i2 := o2.ints k.len
    have h2 := (h.below b1).below b2
    have k2 := k1.below b2
    go_wp2_with (go_at_call 36; refine (specBegins i1 i2).mono ?_)
    rintro e w3 ⟨rfl, s3⟩
    have h3 := h2.below s3
    have k3 := k2.below s3
    have c3 := chain b1 (chain b2 s3)
    go_wp2_with (go_at_call 30; refine (toInts h3).mono ?_)
    rintro e w4 ⟨v4, rfl, o4, b4⟩
    have k4 := k3.below b4
    go_wp2_with (go_at_call 30; refine (toInts k4).mono ?_)
    rintro e w5 ⟨v5, rfl, o5, b5⟩
    have i4 := (o4.ints h.len).below b5
    have i5 := o5.ints k.len
    have h5 := (h3.below b4).below b5
    have k5 := k4.below b5
    go_wp2_with (go_at_call 37; refine (implBegins i4 i5).mono ?_)
    rintro e w6 ⟨rfl, b6⟩
    have h6 := h5.below b6
    have k6 := k5.below b6
    have i6 := i4.below b6
    have j6 := i5.below b6
    go_wp2_with (go_at_call 30; refine (toInts h6).mono ?_)
    rintro e w7 ⟨v7, rfl, o7, b7⟩
    have q7 := o7.ints h.len
    have i7 := i6.below b7
    go_wp2_with (go_at_call 32; refine (eqInts i7 q7).mono ?_)
    rintro e w8 ⟨rfl, b8⟩
    have k8 := (k6.below b7).below b8
    have j8 := (j6.below b7).below b8
    go_wp2_with (go_at_call 30; refine (toInts k8).mono ?_)
    rintro e w9 ⟨v9, rfl, o9, b9⟩
    have q9 := o9.ints k.len
    have j9 := j8.below b9
    go_wp2_with (go_at_call 32; refine (eqInts j9 q9).mono ?_)
    rintro e w10 ⟨rfl, b10⟩
    go_wp2_with fail
    go_ret
    exact ⟨rfl, chain c3 (chain b4 (chain b5 (chain b6 (chain b7 (chain b8 (chain b9 b10))))))⟩

end Go.Proofs.Ytmpelpmlmmfalaa

namespace Go.Proofs.Ytmpelpmlmmfalaa.fnExactCodeBegins
open Go.ChangeShapes Go.WideShapes Go.ChangeAt Go.RowKit
open Go.ChangeMaps (open_string shut_string)
set_option linter.unusedVariables false

theorem own : ownKnob Try.prog.godebug = none := by kernel_rfl
theorem laidOut : laidOutB Try.prog = true := by kernel_rfl

def IsRow (k : IntKind) (w : World) (a : Option Addr) (len cap : Nat) (zs : List Int) : Prop :=
  (a = none ∧ len = 0 ∧ cap = 0 ∧ zs = []) ∨
  ∃ x, a = some x ∧ len ≤ cap ∧ cap ≤ maxLen ∧ zs.length = cap ∧ (∀ i, i < zs.length → w.cell? (x.add i) = some (.int k (zs.getD i 0))) ∧ ∀ n ∈ zs, (Lit.int k n).wf = true

theorem walk (a0 : Option Addr) (len0 cap0 : Nat) (z0 : List Int) (a1 : Option Addr) (len1 cap1 : Nat) (z1 : List Int) (w : World) (w0 : IsRow .i64 w a0 len0 cap0 z0) (w1 : IsRow .i64 w a1 len1 cap1 z1) :
    Calls Try.prog 10 #[.slice a0 len0 cap0, .slice a1 len1 cap1] w fun e w' => e = .returned (.bool true) ∧ Below w.heap.size w w' := by
  exact @Go.Proofs.Ytmpelpmlmmfalaa.walk_FnExactCodeBegins a0 len0 cap0 z0 a1 len1 cap1 z1 w w0 w1

set_option maxRecDepth 100000 in
theorem lifted (os : Os) (started : os.Started) (H : Type) (enc : TypeId × Value → H) :
    ReturnsInHanded {} Try.checked os 10 .any (Rows.fnExactCodeBeginsSpec.pre6 enc Try.prog Try.f10 Rows.fnExactCodeBeginsRow.domain false) (Rows.fnExactCodeBeginsSpec.post enc Try.prog Try.f10 false true false false) := by
  refine returnsInHanded_of_change (C := Try.checked) own started (by kernel_rfl) Try.func10
    (ChangeSpec.witness6 (enc := enc) (C := Try.checked) false ⟨#[], #[.slice none 0 0, .slice none 0 0], []⟩ 8 (by kernel_rfl) (by kernel_rfl) (by kernel_rfl) (by kernel_rfl)) ?_
  intro W base args ds gs before hval0 hW hcnd _
  have hval : ∀ (j : Nat) t v, Try.f10.params[j]? = some t → args[j]? = some v → Value.okWide Try.prog W .any base t v := hval0
  have hW' := hW
  obtain ⟨p, q, hA0, hV, rfl, hfz, hnd⟩ := hW
  have hA : DataW.TrodAll enc Try.prog W 0 (fun _ => true) true Try.f10.params.toList args.toList ds p := hA0
  rw [Try.params10] at hA hval
  obtain ⟨v0, vs0, d0, ds0, p0, q0, hargs, rfl, rfl, h0, r0⟩ := trodAll_cons hA
  obtain ⟨v1, vs1, d1, ds1, p1, q1, rfl, rfl, rfl, h1, r1⟩ := trodAll_cons r0
  obtain ⟨rfl, rfl, rfl⟩ := trodAll_nil r1
  obtain rfl : args = #[v0, v1] := by cases args; simp_all
  obtain ⟨rfl, rfl⟩ := trodVars_none hV
  obtain ⟨a0, len0, cap0, rfl⟩ := okWide_slice Try.underlying25 (hval 0 25 v0 rfl rfl)
  have k0 := h0
  have lt0 : ∀ x ∈ p0, x.block < W.heap.size := by obtain ⟨m, hm⟩ := k0; exact DataW.trod_lt m _ _ _ hm
  obtain ⟨z0, w0⟩ : ∃ zs, IsRow .i64 W a0 len0 cap0 zs := by
    obtain ⟨fuel, hf⟩ := h0
    rcases open_ints Try.underlying25 Try.underlying3 (by kernel_rfl) hf with ⟨hcs, _⟩ | ⟨x, l, c, zs, hcs, _, hl, hm, hz, _, hcell, hwz⟩
    · simp [Value.cells] at hcs
      obtain ⟨rfl, rfl, rfl⟩ := hcs
      exact ⟨[], .inl ⟨rfl, rfl, rfl, rfl⟩⟩
    · simp [Value.cells] at hcs
      obtain ⟨rfl, rfl, rfl⟩ := hcs
      exact ⟨zs, .inr ⟨_, rfl, hl, hm, by simpa using hz, hcell, hwz⟩⟩
  obtain ⟨a1, len1, cap1, rfl⟩ := okWide_slice Try.underlying25 (hval 1 25 v1 rfl rfl)
  have k1 := h1
  have lt1 : ∀ x ∈ p1, x.block < W.heap.size := by obtain ⟨m, hm⟩ := k1; exact DataW.trod_lt m _ _ _ hm
  obtain ⟨z1, w1⟩ : ∃ zs, IsRow .i64 W a1 len1 cap1 zs := by
    obtain ⟨fuel, hf⟩ := h1
    rcases open_ints Try.underlying25 Try.underlying3 (by kernel_rfl) hf with ⟨hcs, _⟩ | ⟨x, l, c, zs, hcs, _, hl, hm, hz, _, hcell, hwz⟩
    · simp [Value.cells] at hcs
      obtain ⟨rfl, rfl, rfl⟩ := hcs
      exact ⟨[], .inl ⟨rfl, rfl, rfl, rfl⟩⟩
    · simp [Value.cells] at hcs
      obtain ⟨rfl, rfl, rfl⟩ := hcs
      exact ⟨zs, .inr ⟨_, rfl, hl, hm, by simpa using hz, hcell, hwz⟩⟩
  clear hA0 hval0
  refine (walk a0 len0 cap0 z0 a1 len1 cap1 z1 W w0 w1).mono fun e W' ⟨he, bel⟩ => ?_
  subst he
  exact ⟨_, rfl, _, _, _, [], _, [], hW', trodAll_mk1 (shut_bool Try.underlying4 _), (trodAll_cons_mk (Below.trod laidOut (by kernel_rfl) (of_decide_eq_true (by kernel_rfl)) k0 bel lt0) (trodAll_cons_mk (Below.trod laidOut (by kernel_rfl) (of_decide_eq_true (by kernel_rfl)) k1 bel lt1) trodAll_mk0)), rfl, bel.frame _, fun h => by cases h⟩

theorem over : Rows.fnExactCodeBeginsRow.holds Try.pinned (OpenSpec.ofChange Rows.fnExactCodeBeginsSpec) :=
  OpenClaim.holds_of_wide 10 Try.f10 rfl rfl rfl rfl rfl rfl rfl ⟨rfl, rfl, rfl, rfl, rfl⟩ rfl rfl rfl rfl rfl (by kernel_rfl) Try.func10 (by kernel_rfl)
    (of_decide_eq_true (by kernel_rfl)) (by unfold Func.isWrapper; first | (rw [if_pos (by decide +kernel)]; kernel_rfl) | (rw [if_neg (by decide +kernel)]; exact ⟨rfl, rfl⟩))
    (fun os started H enc _ => lifted os started H enc)

theorem proved : Rows.FnExactCodeBeginsSaid := over
#print axioms proved
end Go.Proofs.Ytmpelpmlmmfalaa.fnExactCodeBegins
