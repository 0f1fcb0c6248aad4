/-
  For every input the law 'FnLineWaits' returns true, and each of its arguments reads behind the call as it read before. Conditions: none beyond those of the row.
-/
import Derived.Test.YtpofkfcjnhoamaaRows
import Derived.WalkKit
import Derived.ProofKit
import Derived.OpenShut
import Derived.ShutString
import Derived.ChangeOld
import Derived.Below
import Derived.Deep.Matrix
import Derived.Test.YtpofkfcjnhoamaaIo
import Derived.Test.YtpofkfcjnhoamaaDrawLW
import Derived.Test.YtpofkfcjnhoamaaLineS
import Derived.Test.YtpofkfcjnhoamaaSpecL
import Derived.Test.YtpofkfcjnhoamaaStepL
namespace Go.Proofs.Ytpofkfcjnhoamaa
open Go.RowKit

set_option maxRecDepth 100000 in
set_option maxHeartbeats 8000000 in
theorem walk_FnLineWaits (a0 : Option Addr) (len0 cap0 : Nat) (z0 : List Int) (w : World) (w0 : IsRowK .u8 w a0 len0 cap0 z0) :
    Calls Try.prog 4 #[.slice a0 len0 cap0] w fun e w' => e = .returned (.bool true) ∧ Below w.heap.size w w' := by
  rcases Nat.lt_or_ge 1048576 len0 with hbig | hsm
  · have hb : (1048576 : Int) < (len0 : Int) := by omega
    go_enter Try.func4, Try.ntmps4
    go_wp2_with fail
    go_ret
    exact ⟨rfl, Below.refl _ _⟩
  have hb : (len0 : Int) ≤ 1048576 := by omega
  have DN := Lib.hid (drawLineWaits w0 hsm)
  clear w0
  go_enter Try.func4, Try.ntmps4
  go_wp2_with (go_at_call 14; refine DN.out.mono ?_)
  rintro e w1 ⟨v, l, k, rfl, ⟨hk0, hk1⟩, o1, hl1, hl2, b1⟩
  obtain ⟨a1, n1, c1, a2, n2, c2, rfl⟩ := own_form o1
  have q2 := below_alloc w1 (.cells #[.slice a1 n1 c1, .slice a2 n2 c2] 26)
  have pw := Pair.new w1 (.slice a1 n1 c1) (.slice a2 n2 c2) 26
  have LV := (o1.below q2).lineV (by omega) (by omega)
  obtain ⟨V, hV⟩ : ∃ X, X = w1.alloc (.cells #[.slice a1 n1 c1, .slice a2 n2 c2] 26) := ⟨_, rfl⟩
  rw [← hV] at q2 pw LV
  have HV := Lib.hid hV.symm
  have B1 := Lib.hid (chain b1 q2)
  obtain ⟨B, hB⟩ : ∃ B, B = w1.heap.size := ⟨_, rfl⟩
  rw [← hB] at pw
  have PW := Lib.hid (fun (X : World) (q : Below V.heap.size V X) => pw.below q)
  have LW := Lib.hid (fun (X : World) (q : Below V.heap.size V X) => LV.below q)
  obtain ⟨_, _, e, ⟨_, _, e1, -, hcB⟩, ⟨_, _, e2, -, hcT⟩⟩ := id LV
  simp only [Value.agg.injEq, Array.mk.injEq, List.cons.injEq, and_true] at e
  obtain ⟨rfl, rfl⟩ := e
  simp only [Value.slice.injEq] at e1 e2
  obtain ⟨rfl, rfl, rfl⟩ := e1
  obtain ⟨rfl, rfl, rfl⟩ := e2
  have HCB := Lib.hid hcB
  have HCT := Lib.hid hcT
  clear hcB hcT
  have V0 := Lib.hid (below_self V)
  have IW := Lib.hid (fun (X : World) (q : Below V.heap.size V X) => implLineWaits k (LV.below q))
  have SW := Lib.hid (fun (X : World) (q : Below V.heap.size V X) => specLineWaits k (LV.below q))
  have IS := Lib.hid (fun (X : World) (q : Below V.heap.size V X) => implLineStep (s := k) (S := ⟨#[101]⟩) (LV.below q) (by decide))
  have LF := Lib.hid (fun (x : Ln) (h : lnStep l (k, ⟨#[101]⟩) = some x) => enter_facts h)
  have cr := cntAt_range l.2 (2 * k)
  have hwl : lnB l = true → l.2.length ≤ 5 := fun h => (lnB_is h).2.1
  have hd : -1 ≤ waitsV l k ∧ waitsV l k ≤ 6 := by
    unfold waitsV
    split
    · omega
    · omega
  obtain ⟨d, hdd⟩ : ∃ d, d = waitsV l k := ⟨_, rfl⟩
  have IW := IW.out
  have SW := SW.out
  have LF := LF.out
  simp only [← hdd] at IW SW LF hd
  have IW := Lib.hid IW
  have SW := Lib.hid SW
  have LF := Lib.hid LF
  clear hV q2 o1 b1 LV pw hdd DN cr hwl
  go_upto_region 4 with fail
  rw [HV.out, ← hB]
  have p0 := PW.out V V0.out
  have x0 := p0.cell0
  have x1 := p0.cell1
  clear hB HV p0
  go_wp2_with (go_at_call 12; refine (IW.out _ V0.out).mono ?_)
  rintro e w2 ⟨rfl, b2⟩
  have B2 := Lib.hid b2
  have p2 := PW.out _ b2
  clear x0 x1 b2
  have x0 := p2.cell0
  have x1 := p2.cell1
  clear p2
  go_wp2_with (go_at_call 15; refine (SW.out _ B2.out).mono ?_)
  rintro e w3 ⟨rfl, b3⟩
  have B3 := Lib.hid (B2.out.trans (b3.mono B2.out.size))
  clear x0 x1 b3
  have p3 := PW.out _ B3.out
  have x0 := p3.cell0
  have x1 := p3.cell1
  clear p3
  have tn : (d != d) = false := bne_self_eq_false d
  have te : (d == d) = true := beq_self_eq_true d
  by_cases hd0 : d < 0
  · go_wp2_with fail
    go_ret
    exact ⟨rfl, chain B1.out B3.out⟩
  have hd1 : 0 ≤ d := by omega
  clear hd0
  have IS := Lib.hid (IS.out _ B3.out)
  obtain ⟨o, ho⟩ : ∃ o, o = lnStep l (k, ⟨#[101]⟩) := ⟨_, rfl⟩
  rw [← ho] at IS LF
  clear ho
  go_upto_region 9 with (go_at_call 16; refine IS.out.mono ?_; rintro e w4 ⟨vs, rfl, os, b4⟩; obtain ⟨a3, n3, c3, a4, n4, c4, rfl⟩ := own_form os)
  have B4 := Lib.hid (B3.out.trans (b4.mono B3.out.size))
  cases o with
  | none =>
    have q5 := below_alloc w4 (.cells #[.slice a3 n3 c3, .slice a4 n4 c4] 26)
    have B5 := Lib.hid (chain B1.out (B4.out.trans (q5.mono B4.out.size)))
    clear q5 b4 os x0 x1
    go_wp2_with fail
    go_ret
    exact ⟨rfl, B5.out⟩
  | some x =>
    obtain ⟨i, hi, e1, e2, e3, e4, e5, e6⟩ := LF.out x rfl
    have hx1 : x.1.length ≤ 1048576 := by omega
    have hx2 : x.2.length ≤ 1048576 := by omega
    have q5 := below_alloc w4 (.cells #[.slice a3 n3 c3, .slice a4 n4 c4] 26)
    have px := Pair.new w4 (.slice a3 n3 c3) (.slice a4 n4 c4) 26
    have os : OwnLine w4 w3.heap.size (.agg #[.slice a3 n3 c3, .slice a4 n4 c4]) x := os
    have LX := (os.below q5).lineV hx1 hx2
    obtain ⟨Y, hY⟩ : ∃ X, X = w4.alloc (.cells #[.slice a3 n3 c3, .slice a4 n4 c4] 26) := ⟨_, rfl⟩
    rw [← hY] at q5 px LX
    have HY := Lib.hid hY.symm
    have B5 := Lib.hid (B4.out.trans (q5.mono B4.out.size))
    have PX := Lib.hid (fun (X : World) (q : Below Y.heap.size Y X) => px.below q)
    have II := Lib.hid (fun (X : World) (q : Below Y.heap.size Y X) => implLineIn k (LX.below q))
    have WX := Lib.hid (fun (X : World) (q : Below Y.heap.size Y X) => implLineWaits k (LX.below q))
    have II := II.out
    have WX := WX.out
    simp only [e1] at II
    simp only [e2] at WX
    have II : ∀ (X : World), Below Y.heap.size Y X → Calls Try.prog 13 #[.agg #[.slice a3 n3 c3, .slice a4 n4 c4], .int .i64 k] X fun e w' => e = .returned (.tuple #[.int .i64 (i : Int), .bool true]) ∧ Below X.heap.size X w' := II
    have II := Lib.hid II
    have WX := Lib.hid WX
    have Y0 := Lib.hid (below_self Y)
    rcases HCT.out with h0 | ⟨gt, ot, rfl, hgt, hct⟩
    · rw [h0] at hi; simp at hi
    have c0 := hct i hi
    rw [e3] at c0
    have C0 := Lib.hid (fun (X : World) (q : Below V.heap.size V X) => (q.cell (p := ⟨gt, ot + i, none⟩) hgt).trans c0)
    have C1 := Lib.hid (fun (X : World) (q : Below V.heap.size V X) (h : 0 < i) => (q.cell (p := ⟨gt, ot + (i - 1), none⟩) hgt).trans (hct (i - 1) (by omega)))
    have E4 := Lib.hid e4
    have hii : (i : Int) < (l.2.length : Int) := by omega
    have hi6 : (i : Int) ≤ 6 := by omega
    clear hY q5 px LX os b4 e1 e2 e3 e4 e5 e6 c0 hct hx1 hx2 LF x0 x1
    go_upto_region 9 with fail
    rw [HY.out]
    have pY := PX.out _ Y0.out
    have y0 := pY.cell0
    have y1 := pY.cell1
    clear pY
    go_wp2_with (go_at_call 13; refine (II.out _ Y0.out).mono ?_)
    rintro e w6 ⟨rfl, b6⟩
    have B6 := Lib.hid b6
    have V6 := Lib.hid (B5.out.trans (b6.mono B5.out.size))
    clear b6 y0 y1
    have p6 := PX.out _ B6.out
    have y0 := p6.cell0
    have y1 := p6.cell1
    clear p6
    have hw1 : IntKind.i64.wrap (d - 1) = d - 1 := IntWalk.i64_in _ (by omega)
    have hw2 : IntKind.i64.wrap (2 * k) = 2 * k := IntWalk.i64_in _ (by omega)
    rcases Nat.eq_zero_or_pos i with h0 | h0
    · have hi0 : ((i : Int) == 0) = true := by rw [h0]; rfl
      clear h0
      go_wp2_with (go_at_call 12; refine (WX.out _ B6.out).mono ?_; rintro e w7 ⟨rfl, b7⟩; have V7 := Lib.hid (V6.out.trans (b7.mono V6.out.size)); have p7 := PW.out _ V7.out; have z0 := p7.cell0; have z1 := p7.cell1; have c0 := C0.out _ V7.out; clear p7 b7)
      go_ret
      exact ⟨rfl, chain B1.out V7.out⟩
    · have hi0 : ((i : Int) == 0) = false := beq_eq_false_iff_ne.2 (by omega)
      have hw3 : IntKind.i64.wrap ((i : Int) - 1) = ((i - 1 : Nat) : Int) := by rw [IntWalk.i64_in _ (by omega)]; omega
      have hii2 : ((i - 1 : Nat) : Int) < (l.2.length : Int) := by omega
      have C1 := Lib.hid (fun (X : World) (q : Below V.heap.size V X) => C1.out X q h0)
      have e4 := E4.out h0
      obtain ⟨y, hy⟩ : ∃ y, y = l.2.getD (i - 1) 0 := ⟨_, rfl⟩
      have C1 := C1.out
      rw [← hy] at C1 e4
      have C1 := Lib.hid C1
      have t2 : decide (2 * k < y) = true := decide_eq_true e4
      obtain ⟨j, hj⟩ : ∃ j, j = i - 1 := ⟨_, rfl⟩
      rw [← hj] at C1 hw3 hii2
      clear hy e4 h0 hj
      go_wp2_with (go_at_call 12; refine (WX.out _ B6.out).mono ?_; rintro e w7 ⟨rfl, b7⟩; have V7 := Lib.hid (V6.out.trans (b7.mono V6.out.size)); have p7 := PW.out _ V7.out; have z0 := p7.cell0; have z1 := p7.cell1; have c0 := C0.out _ V7.out; clear p7 b7; have cj := C1.out _ V7.out)
      go_ret
      exact ⟨rfl, chain B1.out V7.out⟩

end Go.Proofs.Ytpofkfcjnhoamaa

namespace Go.Proofs.Ytpofkfcjnhoamaa.fnLineWaits
open Go.ChangeShapes Go.WideShapes Go.ChangeAt Go.RowKit
open Go.ChangeMaps (open_string shut_string)
set_option linter.unusedVariables false

theorem own : ownKnob Try.prog.godebug = none := by kernel_rfl
theorem laidOut : laidOutB Try.prog = true := by kernel_rfl

set_option maxRecDepth 100000 in
theorem lifted (os : Os) (started : os.Started) (H : Type) (enc : TypeId × Value → H) :
    ReturnsInHanded {} Try.checked os 4 .any (Rows.fnLineWaitsSpec.pre6 enc Try.prog Try.f4 Rows.fnLineWaitsRow.domain false) (Rows.fnLineWaitsSpec.post enc Try.prog Try.f4 false true false false) := by
  refine returnsInHanded_of_change (C := Try.checked) own started (by kernel_rfl) Try.func4
    (ChangeSpec.witness6 (enc := enc) (C := Try.checked) false ⟨#[], #[.slice none 0 0], []⟩ 8 (by kernel_rfl) (by kernel_rfl) (by kernel_rfl) (by kernel_rfl)) ?_
  intro W base args ds gs before hval0 hW hcnd _
  have hval : ∀ (j : Nat) t v, Try.f4.params[j]? = some t → args[j]? = some v → Value.okWide Try.prog W .any base t v := hval0
  have hW' := hW
  obtain ⟨p, q, hA0, hV, rfl, hfz, hnd⟩ := hW
  have hA : DataW.TrodAll enc Try.prog W 0 (fun _ => true) true Try.f4.params.toList args.toList ds p := hA0
  rw [Try.params4] at hA hval
  obtain ⟨v0, vs0, d0, ds0, p0, q0, hargs, rfl, rfl, h0, r0⟩ := trodAll_cons hA
  obtain ⟨rfl, rfl, rfl⟩ := trodAll_nil r0
  obtain rfl : args = #[v0] := by cases args; simp_all
  obtain ⟨rfl, rfl⟩ := trodVars_none hV
  obtain ⟨a0, len0, cap0, rfl⟩ := okWide_slice Try.underlying22 (hval 0 22 v0 rfl rfl)
  have k0 := h0
  have lt0 : ∀ x ∈ p0, x.block < W.heap.size := by obtain ⟨m, hm⟩ := k0; exact DataW.trod_lt m _ _ _ hm
  obtain ⟨z0, w0⟩ : ∃ zs, IsRowK .u8 W a0 len0 cap0 zs := by
    obtain ⟨fuel, hf⟩ := h0
    rcases open_ints Try.underlying22 Try.underlying5 (by kernel_rfl) hf with ⟨hcs, _⟩ | ⟨x, l, c, zs, hcs, _, hl, hm, hz, _, hcell, hwz⟩
    · simp [Value.cells] at hcs
      obtain ⟨rfl, rfl, rfl⟩ := hcs
      exact ⟨[], .inl ⟨rfl, rfl, rfl, rfl⟩⟩
    · simp [Value.cells] at hcs
      obtain ⟨rfl, rfl, rfl⟩ := hcs
      exact ⟨zs, .inr ⟨_, rfl, hl, hm, by simpa using hz, hcell, hwz⟩⟩
  clear hA0 hval0
  refine (walk_FnLineWaits a0 len0 cap0 z0 W w0).mono fun e W' ⟨he, bel⟩ => ?_
  subst he
  exact ⟨_, rfl, _, _, _, [], _, [], hW', trodAll_mk1 (shut_bool Try.underlying4 _), (trodAll_cons_mk (Below.trod laidOut (by kernel_rfl) (of_decide_eq_true (by kernel_rfl)) k0 bel lt0) trodAll_mk0), rfl, bel.frame _, fun h => by cases h⟩

theorem closed : joinedFacts Try.checked.prog 4 Try.f4 Rows.fnLineWaitsSpec Rows.fnLineWaitsRow = true := by
  unfold joinedFacts
  simp only [Bool.and_eq_true]
  repeat' (refine And.intro ?_ ?_)
  all_goals first
    | with_reducible exact may_enter
    | (rw [lifts_final]; kernel_rfl)
    | (rw [make_is]; kernel_rfl)
    | kernel_rfl

theorem over : Rows.fnLineWaitsRow.holds Try.pinned (OpenSpec.ofChange Rows.fnLineWaitsSpec) :=
  OpenClaim.holds_of_wide 4 Try.f4 rfl rfl rfl rfl rfl rfl rfl ⟨rfl, rfl, rfl, rfl, rfl⟩ rfl rfl rfl rfl rfl (by kernel_rfl) Try.func4 closed
    (of_decide_eq_true (by kernel_rfl)) (by unfold Func.isWrapper; first | (rw [if_pos (by decide +kernel)]; kernel_rfl) | (rw [if_neg (by decide +kernel)]; exact ⟨rfl, rfl⟩))
    (fun os started H enc _ => lifted os started H enc)

theorem proved : Rows.FnLineWaitsSaid := over
#print axioms proved
end Go.Proofs.Ytpofkfcjnhoamaa.fnLineWaits
