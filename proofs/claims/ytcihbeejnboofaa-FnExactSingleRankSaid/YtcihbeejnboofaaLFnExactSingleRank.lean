/-
  For every input the law 'FnExactSingleRank' returns true, and each of its arguments reads behind the call as it read before. Conditions: none beyond those of the row.
-/
import Derived.Test.YtcihbeejnboofaaRows
import Derived.WalkKit
import Derived.ProofKit
import Derived.OpenShut
import Derived.ShutString
import Derived.ChangeOld
import Derived.Below
import Derived.Deep.Matrix
import Derived.Test.YtcihbeejnboofaaIo
import Derived.Test.YtcihbeejnboofaaSgQ
import Derived.Deep.DeepCutAuto
import Derived.Deep.RegionWith
namespace Go.Proofs.Ytcihbeejnboofaa
open Go.RowKit

set_option maxHeartbeats 4000000 in
theorem walk_FnExactSingleRank (v0 : Value) (a1 : ByteArray) (w : World) (w0 : IsSingK w v0) (w1 : a1.size ≤ maxLen) :
    Calls Try.prog 11 #[v0, .string a1] w fun e w' => e = .returned (.bool true) ∧ Below w.heap.size w w' := by
  have _ := w0
  have _ := w1
  obtain ⟨u1, u2, r0, h0, rfl⟩ := w0.agg
  have q := below_alloc w (.cells #[u1, u2, .int .i64 r0, .int .i64 h0] 24)
  have pb := Quad.new w u1 u2 (.int .i64 r0) (.int .i64 h0) 24
  have hk := w0.below q
  obtain ⟨W, hW⟩ : ∃ W, W = w.alloc (.cells #[u1, u2, .int .i64 r0, .int .i64 h0] 24) := ⟨_, rfl⟩
  rw [← hW] at q pb hk
  have HW := Lib.hid hW.symm
  have P := Lib.hid pb
  rcases Nat.lt_or_ge 1048576 a1.size with hbig | hsm
  · have hb : (1048576 : Int) < (a1.size : Int) := by omega
    clear hW pb w0 hk
    go_enter Try.func11, Try.ntmps11
    go_wp2_with fail
    rw [HW.out]
    go_ret
    exact ⟨rfl, q⟩
  have hb : (a1.size : Int) ≤ 1048576 := by omega
  have K0 := pb.cell0
  have K1 := pb.cell1
  have K2 := pb.cell2
  have K3 := pb.cell3
  clear hW pb w0
  go_enter Try.func11, Try.ntmps11
  go_wp2_with fail
  rw [HW.out]
  refine (szSingK hk (by omega) (by omega)).mono ?_
  rintro e wa ⟨n, rfl, hn1, hn, ba⟩
  rcases Int.lt_or_le n 0 with hneg | hpos
  · have hd : decide (n < 0) = true := decide_eq_true hneg
    clear hn hk
    go_wp2_with fail
    go_ret
    exact ⟨rfl, chain q ba⟩
  have hd : decide (n < 0) = false := by simpa using hpos
  obtain ⟨s, h, f1, f2⟩ := hn hpos
  clear hn hk hn1 hpos K0 K1 K2 K3
  have hl := h.len
  have H := Lib.hid (fun (X : World) (b : Below W.heap.size W X) => toSingle (h.below b))
  obtain ⟨x0, hx0⟩ : ∃ x, x = rankV s a1 := ⟨_, rfl⟩
  have SP : ∀ (X : World) (v : Value), SgV X v s → Calls Try.prog 38 #[v, .string a1] X fun e w' => e = .returned (.int .i64 x0) ∧ Below X.heap.size X w' := by
    intro X v j; rw [hx0]; exact specRank j hsm
  have IM : ∀ (X : World) (v : Value), SgV X v s → Calls Try.prog 39 #[v, .string a1] X fun e w' => e = .returned (.int .i64 x0) ∧ Below X.heap.size X w' := by
    intro X v j; rw [hx0]; exact implRank j hsm
  have SP := Lib.hid SP
  have IM := Lib.hid IM
  clear hx0 f1 f2 h
  have ka := (P.out.below ba).cell0
  have kb := (P.out.below ba).cell1
  have kc := (P.out.below ba).cell2
  have kd := (P.out.below ba).cell3
  go_wp2_with (go_at_call 17; refine (H.out _ ba).mono ?_)
  rintro e w1 ⟨v1', rfl, o1, b1⟩
  have c1 := chain ba b1
  go_wp2_with (go_at_call 38; refine (SP.out _ _ (o1.sgV hl.1 hl.2)).mono ?_)
  rintro e w2 ⟨rfl, b2⟩
  have c2 := chain c1 b2
  have la := (P.out.below c2).cell0
  have lb := (P.out.below c2).cell1
  have lc := (P.out.below c2).cell2
  have ld := (P.out.below c2).cell3
  clear ka kb kc kd
  go_wp2_with (go_at_call 17; refine (H.out _ c2).mono ?_)
  rintro e w3 ⟨v3, rfl, o3, b3⟩
  have o3v := o3.sgV hl.1 hl.2
  obtain ⟨xa, xn, xc, ya, yn, yc, rfl⟩ := o3.form
  have c3 := chain c2 b3
  have e3 := below_alloc w3 (.cells #[.slice xa xn xc, .slice ya yn yc, .int .i64 s.run, .int .i64 s.head] 27)
  have p3 := Quad.new w3 (.slice xa xn xc) (.slice ya yn yc) (.int .i64 s.run) (.int .i64 s.head) 27
  have ov := o3v.below e3
  have c3' := chain c3 e3
  obtain ⟨r1, hr1⟩ : ∃ r, r = s.run := ⟨_, rfl⟩
  obtain ⟨h1, hh1⟩ : ∃ r, r = s.head := ⟨_, rfl⟩
  rw [← hr1, ← hh1] at p3 ov c3' ⊢
  have RH := Lib.hid (And.intro hr1 hh1)
  have HL := Lib.hid hl
  clear hr1 hh1 hl
  go_wp2_with fail
  generalize hg : w3.alloc (.cells #[.slice xa xn xc, .slice ya yn yc, .int .i64 r1, .int .i64 h1] 27) = w3' at p3 ov c3'
  have P3 := Lib.hid p3
  clear hg p3 e3 o3v o3 b3 b2 b1 o1 la lb lc ld
  refine (IM.out _ _ ov).mono ?_
  rintro e w4 ⟨rfl, b4⟩
  have c4 := chain c3' b4
  have ov4 := ov.below b4
  have P4 := Lib.hid (P3.out.below b4)
  go_upto_region 12 with fail
  go_cut [33] (fun s wx => s = .bool false ∧ Below w4.heap.size w4 wx)
  case first =>
    have PP := Lib.hid (fun (W' : World) (b : Below w4.heap.size w4 W') => P4.out.below b)
    have QQ := Lib.hid (fun (W' : World) (b : Below w4.heap.size w4 W') => (P.out.below c4).below b)
    have d4 : Below w4.heap.size w4 w4.drew := (Below.refl _ _).drew
    have EQ := Lib.hid (fun (W' : World) (v : Value) (b : Below w4.heap.size w4 W') (j : SgV W' v s) => eqSingles2 (ov4.below b) j)
    have TP := Lib.hid (fun (W' : World) (b : Below w4.heap.size w4 W') => H.out _ (chain c4 b))
    have ke := (QQ.out _ (Below.refl _ _)).cell0
    have kf := (QQ.out _ (Below.refl _ _)).cell1
    have kg := (QQ.out _ (Below.refl _ _)).cell2
    have kh := (QQ.out _ (Below.refl _ _)).cell3
    have le := (PP.out _ (Below.refl _ _)).cell0
    have lf := (PP.out _ (Below.refl _ _)).cell1
    have lg := (PP.out _ (Below.refl _ _)).cell2
    have lh := (PP.out _ (Below.refl _ _)).cell3
    go_region_with (first
      | (go_at_call 17; refine (TP.out _ d4).mono ?_; rintro e w5 ⟨v5, rfl, o5, b5⟩; have c5 := d4.trans (b5.mono d4.size); have j5 := o5.sgV HL.out.1 HL.out.2; have m1 := (PP.out _ c5).cell0; have m2 := (PP.out _ c5).cell1; have m3 := (PP.out _ c5).cell2; have m4 := (PP.out _ c5).cell3; clear o5 b5)
      | (go_at_call 19; refine (EQ.out _ _ c5 j5).mono ?_; rintro e w6 ⟨rfl, b6⟩))
    all_goals (go_wp2_with fail; go_meet; exact ⟨rfl, c5.trans (b6.mono c5.size)⟩)
  case rest =>
  obtain ⟨rfl, b5⟩ := hcut
  go_wp2_with fail
  go_ret
  exact ⟨rfl, chain q (chain c4 b5)⟩

end Go.Proofs.Ytcihbeejnboofaa

namespace Go.Proofs.Ytcihbeejnboofaa.fnExactSingleRank
open Go.ChangeShapes Go.WideShapes Go.ChangeAt Go.RowKit
open Go.ChangeMaps (open_string shut_string)
set_option linter.unusedVariables false

theorem own : ownKnob Try.prog.godebug = none := by kernel_rfl
theorem laidOut : laidOutB Try.prog = true := by kernel_rfl

set_option maxRecDepth 100000 in
theorem lifted (os : Os) (started : os.Started) (H : Type) (enc : TypeId × Value → H) :
    ReturnsInHanded {} Try.checked os 11 .any (Rows.fnExactSingleRankSpec.pre6 enc Try.prog Try.f11 Rows.fnExactSingleRankRow.domain false) (Rows.fnExactSingleRankSpec.post enc Try.prog Try.f11 false true false false) := by
  refine returnsInHanded_of_change (C := Try.checked) own started (by kernel_rfl) Try.func11
    (ChangeSpec.witness6 (enc := enc) (C := Try.checked) false ⟨#[], #[.agg #[.slice none 0 0, .slice none 0 0, .int .i64 0, .int .i64 0], .string ⟨#[]⟩], []⟩ 8 (by kernel_rfl) (by kernel_rfl) (by kernel_rfl) (by kernel_rfl)) ?_
  intro W base args ds gs before hval0 hW hcnd _
  have hval : ∀ (j : Nat) t v, Try.f11.params[j]? = some t → args[j]? = some v → Value.okWide Try.prog W .any base t v := hval0
  have hW' := hW
  obtain ⟨p, q, hA0, hV, rfl, hfz, hnd⟩ := hW
  have hA : DataW.TrodAll enc Try.prog W 0 (fun _ => true) true Try.f11.params.toList args.toList ds p := hA0
  rw [Try.params11] at hA hval
  obtain ⟨v0, vs0, d0, ds0, p0, q0, hargs, rfl, rfl, h0, r0⟩ := trodAll_cons hA
  obtain ⟨v1, vs1, d1, ds1, p1, q1, rfl, rfl, rfl, h1, r1⟩ := trodAll_cons r0
  obtain ⟨rfl, rfl, rfl⟩ := trodAll_nil r1
  obtain rfl : args = #[v0, v1] := by cases args; simp_all
  obtain ⟨rfl, rfl⟩ := trodVars_none hV
  have w0 := open_single (hval 0 24 v0 rfl rfl) h0
  have k0 := h0
  have lt0 : ∀ x ∈ p0, x.block < W.heap.size := by obtain ⟨m, hm⟩ := k0; exact DataW.trod_lt m _ _ _ hm
  obtain ⟨a1, rfl, rfl, rfl, w1⟩ := open_string Try.underlying9 (hval 1 9 v1 rfl rfl) h1
  clear hA0 hval0
  refine (walk_FnExactSingleRank v0 a1 W w0 w1).mono fun e W' ⟨he, bel⟩ => ?_
  subst he
  exact ⟨_, rfl, _, _, _, [], _, [], hW', trodAll_mk1 (shut_bool Try.underlying4 _), (trodAll_cons_mk (Below.trod laidOut (by kernel_rfl) (of_decide_eq_true (by kernel_rfl)) k0 bel lt0) (trodAll_cons_mk (shut_string Try.underlying9 w1) trodAll_mk0)), rfl, bel.frame _, fun h => by cases h⟩

theorem closed : joinedFacts Try.checked.prog 11 Try.f11 Rows.fnExactSingleRankSpec Rows.fnExactSingleRankRow = true := by
  unfold joinedFacts
  simp only [Bool.and_eq_true]
  repeat' (refine And.intro ?_ ?_)
  all_goals first
    | with_reducible exact may_enter
    | (rw [lifts_final]; kernel_rfl)
    | (rw [make_is]; kernel_rfl)
    | kernel_rfl

theorem over : Rows.fnExactSingleRankRow.holds Try.pinned (OpenSpec.ofChange Rows.fnExactSingleRankSpec) :=
  OpenClaim.holds_of_wide 11 Try.f11 rfl rfl rfl rfl rfl rfl rfl ⟨rfl, rfl, rfl, rfl, rfl⟩ rfl rfl rfl rfl rfl (by kernel_rfl) Try.func11 closed
    (of_decide_eq_true (by kernel_rfl)) (by unfold Func.isWrapper; first | (rw [if_pos (by decide +kernel)]; kernel_rfl) | (rw [if_neg (by decide +kernel)]; exact ⟨rfl, rfl⟩))
    (fun os started H enc _ => lifted os started H enc)

theorem proved : Rows.FnExactSingleRankSaid := over
#print axioms proved
end Go.Proofs.Ytcihbeejnboofaa.fnExactSingleRank
