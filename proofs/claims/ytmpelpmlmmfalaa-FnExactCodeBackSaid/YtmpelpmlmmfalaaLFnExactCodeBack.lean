/-
  For every input the law 'FnExactCodeBack' returns true, and each of its arguments reads behind the call as it read before. Conditions: none beyond those of the row.
-/
import Derived.Test.YtmpelpmlmmfalaaRows
import Derived.WalkKit
import Derived.ProofKit
import Derived.OpenShut
import Derived.ShutString
import Derived.ChangeOld
import Derived.Below
import Derived.Test.YtmpelpmlmmfalaaBacks
namespace Go.Proofs.Ytmpelpmlmmfalaa
open Go.RowKit

set_option maxHeartbeats 1000000 in
theorem walk_FnExactCodeBack (a : Option Addr) (len cap : Nat) (zs : List Int) (w : World) (hr : IsRowI w a len cap zs) :
    Calls Try.prog 11 #[.slice a len cap] w fun e w' => e = .returned (.bool true) ∧ Below w.heap.size w w' := by
  rcases Nat.lt_or_ge 1048576 len with hbig | hsm
  · have hb : (1048576 : Int) < (len : Int) := by omega
    go_enter Try.func11, Try.ntmps11
    go_wp2_with fail
    go_ret
    exact ⟨rfl, Below.refl _ _⟩
  · have hb : (len : Int) ≤ 1048576 := by omega
    have h := ints_of_row hr hsm
    generalize zs.take len = xs at h
    clear hr hsm
    have hyl : (backOf xs).length ≤ 1048576 := Nat.le_trans (backOf_length xs) h.len
    obtain ⟨ys, hys⟩ : ∃ ys, ys = backOf xs := ⟨_, rfl⟩
    obtain ⟨ok, hok⟩ : ∃ ok, ok = groupsB xs 1 5 := ⟨_, rfl⟩
    have HS : ∀ {W : World} {v : Value}, Ints W v xs → Calls Try.prog 38 #[v] W (MadeIntsB W ys ok) := by
      intro W v q; rw [hys, hok]; exact specBack q
    have HI : ∀ {W : World} {v : Value}, Ints W v xs → Calls Try.prog 39 #[v] W (MadeIntsB W ys ok) := by
      intro W v q; rw [hys, hok]; exact implBack q
    rw [← hys] at hyl
    clear hys hok
    have hxl : (xs.length : Int) ≤ 1048576 := by have := h.len; omega
    have hyl' : (ys.length : Int) ≤ 1048576 := by omega
    go_enter Try.func11, Try.ntmps11
    go_wp2_with (go_at_call 30; refine (toInts h).mono ?_)
    rintro e w1 ⟨v1, rfl, o1, b1⟩
    go_wp2_with (go_at_call 38; refine (HS (o1.ints h.len)).mono ?_)
    rintro e w2 ⟨vw, rfl, ow, b2⟩
    have c2 := chain b1 b2
    go_wp2_with (go_at_call 30; refine (toInts (h.below c2)).mono ?_)
    rintro e w3 ⟨vx, rfl, ox, b3⟩
    have c3 := chain c2 b3
    go_wp2_with (go_at_call 39; refine (HI (ox.ints h.len)).mono ?_)
    rintro e w4 ⟨vg, rfl, og, b4⟩
    have c4 := chain c3 b4
    have pwx := apart ow (Nat.le_refl _) ox
    have pwg := apart ow b3.size og
    have pxg := apart' ox (Nat.le_refl _) og
    have ow4 := (ow.below b3).below b4
    have ox4 := ox.below b4
    go_wp2_with (go_at_call 32; refine (eqInts (og.ints hyl) (ow4.ints hyl)).mono ?_)
    rintro e w5 ⟨rfl, b5⟩
    have c5 := chain c4 b5
    have ow5 := ow4.below b5
    have ox5 := ox4.below b5
    have og5 := og.below b5
    go_wp2_with (go_at_call 30; refine (toInts (h.below c5)).mono ?_)
    rintro e w6 ⟨v6, rfl, o6, b6⟩
    have ox6 := ox5.below b6
    go_wp2_with (go_at_call 32; refine (eqInts (ox6.ints h.len) (o6.ints h.len)).mono ?_)
    rintro e w7 ⟨rfl, b7⟩
    have c7 := chain c5 (chain b6 b7)
    have ow7 := (ow5.below b6).below b7
    have ox7 := ox6.below b7
    have og7 := (og5.below b6).below b7
    go_wp2_with (go_at_call 40; refine (markInts ox7 h.len (by omega) (by omega)).mono ?_)
    rintro e w8 ⟨rfl, ox8, g8⟩
    have c8 := below_mark c7 ox7 c2.size g8
    have ow8 := ow7.kept g8 pwx
    have og8 := og7.kept g8 pxg
    go_wp2_with (go_at_call 32; refine (eqInts (og8.ints hyl) (ow8.ints hyl)).mono ?_)
    rintro e w9 ⟨rfl, b9⟩
    have c9 := chain c8 b9
    have ow9 := ow8.below b9
    have og9 := og8.below b9
    go_wp2_with (go_at_call 40; refine (markInts og9 hyl (by omega) (by omega)).mono ?_)
    rintro e w10 ⟨rfl, og10, g10⟩
    have c10 := below_mark c9 og9 c3.size g10
    have ow10 := ow9.kept g10 pwg
    go_wp2_with (go_at_call 41; refine (heldInts (og10.ints (by rw [marks_length]; exact hyl)) (marks_held 1 _) (by omega) (by omega)).mono ?_)
    rintro e w10' ⟨rfl, rfl⟩
    rw [marks_length]
    go_wp2_with (go_at_call 30; refine (toInts (h.below c10)).mono ?_)
    rintro e w11 ⟨v11, rfl, o11, b11⟩
    have c11 := chain c10 b11
    go_wp2_with (go_at_call 39; refine (HI (o11.ints h.len)).mono ?_)
    rintro e w12 ⟨vh, rfl, oh, b12⟩
    have c12 := chain c11 b12
    have ow12 := (ow10.below b11).below b12
    have og12 := (og10.below b11).below b12
    go_wp2_with (go_at_call 32; refine (eqInts (oh.ints hyl) (ow12.ints hyl)).mono ?_)
    rintro e w13 ⟨rfl, b13⟩
    have og13 := og12.below b13
    go_wp2_with (go_at_call 41; refine (heldInts (og13.ints (by rw [marks_length]; exact hyl)) (marks_held 1 _) (by omega) (by omega)).mono ?_)
    rintro e w13' ⟨rfl, rfl⟩
    rw [marks_length]
    go_wp2_with fail
    go_ret
    exact ⟨rfl, chain c12 b13⟩

end Go.Proofs.Ytmpelpmlmmfalaa

namespace Go.Proofs.Ytmpelpmlmmfalaa.fnExactCodeBack
open Go.ChangeShapes Go.WideShapes Go.ChangeAt Go.RowKit
open Go.ChangeMaps (open_string shut_string)
set_option linter.unusedVariables false

theorem own : ownKnob Try.prog.godebug = none := by kernel_rfl
theorem laidOut : laidOutB Try.prog = true := by kernel_rfl

def IsRow (k : IntKind) (w : World) (a : Option Addr) (len cap : Nat) (zs : List Int) : Prop :=
  (a = none ∧ len = 0 ∧ cap = 0 ∧ zs = []) ∨
  ∃ x, a = some x ∧ len ≤ cap ∧ cap ≤ maxLen ∧ zs.length = cap ∧ (∀ i, i < zs.length → w.cell? (x.add i) = some (.int k (zs.getD i 0))) ∧ ∀ n ∈ zs, (Lit.int k n).wf = true

theorem walk (a0 : Option Addr) (len0 cap0 : Nat) (z0 : List Int) (w : World) (w0 : IsRow .i64 w a0 len0 cap0 z0) :
    Calls Try.prog 11 #[.slice a0 len0 cap0] w fun e w' => e = .returned (.bool true) ∧ Below w.heap.size w w' := by
  exact @Go.Proofs.Ytmpelpmlmmfalaa.walk_FnExactCodeBack a0 len0 cap0 z0 w w0

set_option maxRecDepth 100000 in
theorem lifted (os : Os) (started : os.Started) (H : Type) (enc : TypeId × Value → H) :
    ReturnsInHanded {} Try.checked os 11 .any (Rows.fnExactCodeBackSpec.pre6 enc Try.prog Try.f11 Rows.fnExactCodeBackRow.domain false) (Rows.fnExactCodeBackSpec.post enc Try.prog Try.f11 false true false false) := by
  refine returnsInHanded_of_change (C := Try.checked) own started (by kernel_rfl) Try.func11
    (ChangeSpec.witness6 (enc := enc) (C := Try.checked) false ⟨#[], #[.slice none 0 0], []⟩ 8 (by kernel_rfl) (by kernel_rfl) (by kernel_rfl) (by kernel_rfl)) ?_
  intro W base args ds gs before hval0 hW hcnd _
  have hval : ∀ (j : Nat) t v, Try.f11.params[j]? = some t → args[j]? = some v → Value.okWide Try.prog W .any base t v := hval0
  have hW' := hW
  obtain ⟨p, q, hA0, hV, rfl, hfz, hnd⟩ := hW
  have hA : DataW.TrodAll enc Try.prog W 0 (fun _ => true) true Try.f11.params.toList args.toList ds p := hA0
  rw [Try.params11] at hA hval
  obtain ⟨v0, vs0, d0, ds0, p0, q0, hargs, rfl, rfl, h0, r0⟩ := trodAll_cons hA
  obtain ⟨rfl, rfl, rfl⟩ := trodAll_nil r0
  obtain rfl : args = #[v0] := by cases args; simp_all
  obtain ⟨rfl, rfl⟩ := trodVars_none hV
  obtain ⟨a0, len0, cap0, rfl⟩ := okWide_slice Try.underlying25 (hval 0 25 v0 rfl rfl)
  have k0 := h0
  have lt0 : ∀ x ∈ p0, x.block < W.heap.size := by obtain ⟨m, hm⟩ := k0; exact DataW.trod_lt m _ _ _ hm
  obtain ⟨z0, w0⟩ : ∃ zs, IsRow .i64 W a0 len0 cap0 zs := by
    obtain ⟨fuel, hf⟩ := h0
    rcases open_ints Try.underlying25 Try.underlying3 (by kernel_rfl) hf with ⟨hcs, _⟩ | ⟨x, l, c, zs, hcs, _, hl, hm, hz, _, hcell, hwz⟩
    · simp [Value.cells] at hcs
      obtain ⟨rfl, rfl, rfl⟩ := hcs
      exact ⟨[], .inl ⟨rfl, rfl, rfl, rfl⟩⟩
    · simp [Value.cells] at hcs
      obtain ⟨rfl, rfl, rfl⟩ := hcs
      exact ⟨zs, .inr ⟨_, rfl, hl, hm, by simpa using hz, hcell, hwz⟩⟩
  clear hA0 hval0
  refine (walk a0 len0 cap0 z0 W w0).mono fun e W' ⟨he, bel⟩ => ?_
  subst he
  exact ⟨_, rfl, _, _, _, [], _, [], hW', trodAll_mk1 (shut_bool Try.underlying4 _), (trodAll_cons_mk (Below.trod laidOut (by kernel_rfl) (of_decide_eq_true (by kernel_rfl)) k0 bel lt0) trodAll_mk0), rfl, bel.frame _, fun h => by cases h⟩

theorem over : Rows.fnExactCodeBackRow.holds Try.pinned (OpenSpec.ofChange Rows.fnExactCodeBackSpec) :=
  OpenClaim.holds_of_wide 11 Try.f11 rfl rfl rfl rfl rfl rfl rfl ⟨rfl, rfl, rfl, rfl, rfl⟩ rfl rfl rfl rfl rfl (by kernel_rfl) Try.func11 (by kernel_rfl)
    (of_decide_eq_true (by kernel_rfl)) (by unfold Func.isWrapper; first | (rw [if_pos (by decide +kernel)]; kernel_rfl) | (rw [if_neg (by decide +kernel)]; exact ⟨rfl, rfl⟩))
    (fun os started H enc _ => lifted os started H enc)

theorem proved : Rows.FnExactCodeBackSaid := over
#print axioms proved
end Go.Proofs.Ytmpelpmlmmfalaa.fnExactCodeBack
