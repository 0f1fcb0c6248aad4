/-
  For every input the law 'FnLineNew' returns true, and each of its arguments reads behind the call as it read before. Conditions: none beyond those of the row.
-/
import Derived.Test.YtoapfcnpmpggcaaRows
import Derived.WalkKit
import Derived.ProofKit
import Derived.OpenShut
import Derived.ShutString
import Derived.ChangeOld
import Derived.Below
import Derived.Deep.Matrix
import Derived.Test.YtoapfcnpmpggcaaIo
import Derived.Test.YtoapfcnpmpggcaaNewQ
import Derived.Deep.DeepCutAuto
import Derived.Deep.RegionWith
namespace Go.Proofs.Ytoapfcnpmpggcaa
open Go.RowKit

set_option maxRecDepth 100000 in
set_option maxHeartbeats 4000000 in
theorem walk_FnLineNew (a0 : Option Addr) (len0 cap0 : Nat) (z0 : List Int) (w : World) (w0 : IsRowK .u8 w a0 len0 cap0 z0) :
    Calls Try.prog 4 #[.slice a0 len0 cap0] w fun e w' => e = .returned (.bool true) ∧ Below w.heap.size w w' := by
  rcases Nat.lt_or_ge 1048576 len0 with hbig | hsm
  · have hb : (1048576 : Int) < (len0 : Int) := by omega
    go_enter Try.func4, Try.ntmps4
    go_wp2_with fail
    go_ret
    exact ⟨rfl, Below.refl _ _⟩
  have hb : (len0 : Int) ≤ 1048576 := by omega
  go_enter Try.func4, Try.ntmps4
  go_wp2_with (go_at_call 20; refine (drawLineNew w0 hsm).mono ?_)
  rintro e w1 ⟨n, k, rfl, hn, hk, b1⟩
  have hrl : (newV n k).1.length ≤ 5 ∧ (newV n k).2.length ≤ 5 := by
    unfold newV
    split
    · rename_i h
      have := of_decide_eq_true h
      rw [(newLn_len _ _).1, (newLn_len _ _).2]
      omega
    · exact ⟨by simp [noLn], by simp [noLn]⟩
  have HS' := Lib.hid (specLineNew n k)
  have HI' := Lib.hid (implLineNew n k)
  obtain ⟨r, hr⟩ : ∃ r, r = newV n k := ⟨_, rfl⟩
  obtain ⟨ok, hok⟩ : ∃ ok, ok = newOk n k := ⟨_, rfl⟩
  rw [← hr, ← hok] at HS' HI'
  rw [← hr] at hrl
  have HR := Lib.hid hr
  have HOK := Lib.hid hok
  have l1 : r.1.length ≤ 1048576 := by omega
  have l2 : r.2.length ≤ 1048576 := by omega
  clear hr hok hrl w0 hsm
  go_wp2_with (go_at_call 21; refine (HI'.out _).mono ?_)
  rintro e wb ⟨vw, rfl, ow, b2⟩
  obtain ⟨a2', n2, d2, e2, m2, f2, rfl⟩ := (ow.lineV l1 l2).form
  have q2 := below_alloc wb (.cells #[.slice a2' n2 d2, .slice e2 m2 f2] 26)
  have pw := Pair.new wb (.slice a2' n2 d2) (.slice e2 m2 f2) 26
  obtain ⟨w8, hw8⟩ : ∃ X, X = wb.alloc (.cells #[.slice a2' n2 d2, .slice e2 m2 f2] 26) := ⟨_, rfl⟩
  rw [← hw8] at q2 pw
  have HW8 := Lib.hid hw8.symm
  have OW := Lib.hid (ow.below q2)
  have PW := Lib.hid pw
  have c3 := chain (chain b1 b2) q2
  clear hw8 pw ow q2 b2 b1
  go_upto_region 5 with fail
  rw [HW8.out]
  go_wp2_with (go_at_call 22; refine (HS'.out _).mono ?_)
  rintro e we ⟨vg, rfl, og, b5⟩
  obtain ⟨a5, n5, d5, e5, m5, f5, rfl⟩ := (og.lineV l1 l2).form
  have q5 := below_alloc we (.cells #[.slice a5 n5 d5, .slice e5 m5 f5] 26)
  have pg := Pair.new we (.slice a5 n5 d5) (.slice e5 m5 f5) 26
  obtain ⟨w11, hw11⟩ : ∃ X, X = we.alloc (.cells #[.slice a5 n5 d5, .slice e5 m5 f5] 26) := ⟨_, rfl⟩
  rw [← hw11] at q5 pg
  have HW11 := Lib.hid hw11.symm
  have OG := Lib.hid (og.below q5)
  have PG := Lib.hid pg
  have OW := Lib.hid ((OW.out.below b5).below q5)
  have PW := Lib.hid ((PW.out.below b5).below q5)
  have c6 := chain (chain c3 b5) q5
  clear hw11 pg og q5 b5 c3
  go_upto_region 6 with fail
  rw [HW11.out]
  have k0 := PW.out.cell0
  have k1 := PW.out.cell1
  have k2 := PG.out.cell0
  have k3 := PG.out.cell1
  cases ok
  · go_wp2_with (go_at_call 23; refine (sameLine (OW.out.lineV l1 l2) (OG.out.lineV l1 l2)).mono ?_)
    rintro e wg ⟨rfl, b6⟩
    have OW := Lib.hid (OW.out.below b6)
    have PW := Lib.hid (PW.out.below b6)
    have OG := Lib.hid (OG.out.below b6)
    have PG := Lib.hid (PG.out.below b6)
    have c7 := chain c6 b6
    clear k0 k1 k2 k3 b6
    have k0 := PW.out.cell0
    have k1 := PW.out.cell1
    have k2 := PG.out.cell0
    have k3 := PG.out.cell1
    go_wp2_with (go_at_call 23; refine (sameLine (OW.out.lineV l1 l2) (OG.out.lineV l1 l2)).mono ?_)
    rintro e wh ⟨rfl, b8⟩
    go_wp2_with fail
    go_ret
    exact ⟨rfl, chain c7 b8⟩
  · go_wp2_with (go_at_call 23; refine (sameLine (OW.out.lineV l1 l2) (OG.out.lineV l1 l2)).mono ?_)
    rintro e wg ⟨rfl, b6⟩
    have OW := Lib.hid (OW.out.below b6)
    have PW := Lib.hid (PW.out.below b6)
    have c7 := chain c6 b6
    clear k0 k1 k2 k3 b6 PG OG c6 HS' HI'
    have hg := of_decide_eq_true HOK.out.symm
    obtain ⟨N, rfl⟩ : ∃ N : Nat, n = N := ⟨n.toNat, by omega⟩
    obtain ⟨K, rfl⟩ : ∃ K : Nat, k = K := ⟨k.toNat, by omega⟩
    have hr : r = newLn N K := by
      rw [HR.out]
      unfold newV
      rw [← HOK.out, if_pos rfl]
      simp
    subst hr
    have gn : 1 ≤ N ∧ N ≤ 5 := by omega
    have gk : K ≤ 5 := by omega
    have LV := Lib.hid (fun (X : World) (c : Below wg.heap.size wg X) => (OW.out.below c).lineV l1 l2)
    have PV := Lib.hid (fun (X : World) (c : Below wg.heap.size wg X) => PW.out.below c)
    have H1 := Lib.hid (fun (X : World) (v : Value) (h : LineV X v (newLn N K)) => implLineValid h)
    have H2 := Lib.hid (fun (X : World) (v : Value) (h : LineV X v (newLn N K)) => implLineWaits 0 h)
    have H3 := Lib.hid (fun (X : World) (v : Value) (h : LineV X v (newLn N K)) => implLineLeft h)
    have H4 := Lib.hid (fun (X : World) (v : Value) (h : LineV X v (newLn N K)) => implLineDone h)
    rw [new_ok gn gk] at H1
    rw [new_waits gn gk] at H2
    rw [new_left gn gk] at H3
    rw [new_done gn gk] at H4
    have hlen : N = n2 := (OW.out.first.trans (newLn_len N K).1).symm
    subst hlen
    have hw1 : IntKind.i64.wrap (5 * (N : Int)) = 5 * (N : Int) := IntWalk.i64_in _ (by omega)
    have hm : (5 * (N : Int)) * (K : Int) ≤ 125 ∧ 0 ≤ (5 * (N : Int)) * (K : Int) := by
      have h0 : (5 * N) * K ≤ 25 * 5 := Nat.mul_le_mul (by omega) (by omega)
      have h1 : (5 * (N : Int)) * (K : Int) = ((5 * N * K : Nat) : Int) := by push_cast; rfl
      omega
    have hw2 : IntKind.i64.wrap (5 * (N : Int) * (K : Int)) = 5 * (N : Int) * (K : Int) := IntWalk.i64_in _ (by omega)
    clear hm gn gk hg HR HOK
    have k0 := PW.out.cell0
    have k1 := PW.out.cell1
    go_wp2_with (go_at_call 16; refine (H1.out _ _ (LV.out _ (Below.refl _ _))).mono ?_)
    rintro e wi ⟨rfl, d1⟩
    clear k0 k1
    have k0 := (PV.out _ d1).cell0
    have k1 := (PV.out _ d1).cell1
    go_wp2_with (go_at_call 18; refine (H2.out _ _ (LV.out _ d1)).mono ?_)
    rintro e wj ⟨rfl, d2'⟩
    have d2 := chain d1 d2'
    clear k0 k1 d1 d2'
    have k0 := (PV.out _ d2).cell0
    have k1 := (PV.out _ d2).cell1
    go_wp2_with (go_at_call 24; refine (H3.out _ _ (LV.out _ d2)).mono ?_)
    rintro e wk ⟨rfl, d3'⟩
    have d3 := chain d2 d3'
    clear k0 k1 d2 d3'
    have k0 := (PV.out _ d3).cell0
    have k1 := (PV.out _ d3).cell1
    by_cases hz : (K : Int) = 0
    · have hz' : ((K : Int) == 0) = true := by simpa using hz
      rw [show decide ((K : Int) = 0) = true by simpa using hz] at H4
      go_wp2_with (go_at_call 25; refine (H4.out _ _ (LV.out _ d3)).mono ?_)
      rintro e wl ⟨rfl, d4'⟩
      have d4 := chain d3 d4'
      clear k0 k1 d3 d4'
      have k0 := (PV.out _ d4).cell0
      have k1 := (PV.out _ d4).cell1
      go_wp2_with fail
      go_ret
      exact ⟨rfl, chain c7 d4⟩
    · have hz' : ((K : Int) == 0) = false := by simpa using hz
      rw [show decide ((K : Int) = 0) = false by simpa using hz] at H4
      go_wp2_with (go_at_call 25; refine (H4.out _ _ (LV.out _ d3)).mono ?_)
      rintro e wl ⟨rfl, d4'⟩
      have d4 := chain d3 d4'
      clear k0 k1 d3 d4'
      have k0 := (PV.out _ d4).cell0
      have k1 := (PV.out _ d4).cell1
      go_wp2_with fail
      go_ret
      exact ⟨rfl, chain c7 d4⟩

end Go.Proofs.Ytoapfcnpmpggcaa

namespace Go.Proofs.Ytoapfcnpmpggcaa.fnLineNew
open Go.ChangeShapes Go.WideShapes Go.ChangeAt Go.RowKit
open Go.ChangeMaps (open_string shut_string)
set_option linter.unusedVariables false

theorem own : ownKnob Try.prog.godebug = none := by kernel_rfl
theorem laidOut : laidOutB Try.prog = true := by kernel_rfl

set_option maxRecDepth 100000 in
theorem lifted (os : Os) (started : os.Started) (H : Type) (enc : TypeId × Value → H) :
    ReturnsInHanded {} Try.checked os 4 .any (Rows.fnLineNewSpec.pre6 enc Try.prog Try.f4 Rows.fnLineNewRow.domain false) (Rows.fnLineNewSpec.post enc Try.prog Try.f4 false true false false) := by
  refine returnsInHanded_of_change (C := Try.checked) own started (by kernel_rfl) Try.func4
    (ChangeSpec.witness6 (enc := enc) (C := Try.checked) false ⟨#[], #[.slice none 0 0], []⟩ 8 (by kernel_rfl) (by kernel_rfl) (by kernel_rfl) (by kernel_rfl)) ?_
  intro W base args ds gs before hval0 hW hcnd _
  have hval : ∀ (j : Nat) t v, Try.f4.params[j]? = some t → args[j]? = some v → Value.okWide Try.prog W .any base t v := hval0
  have hW' := hW
  obtain ⟨p, q, hA0, hV, rfl, hfz, hnd⟩ := hW
  have hA : DataW.TrodAll enc Try.prog W 0 (fun _ => true) true Try.f4.params.toList args.toList ds p := hA0
  rw [Try.params4] at hA hval
  obtain ⟨v0, vs0, d0, ds0, p0, q0, hargs, rfl, rfl, h0, r0⟩ := trodAll_cons hA
  obtain ⟨rfl, rfl, rfl⟩ := trodAll_nil r0
  obtain rfl : args = #[v0] := by cases args; simp_all
  obtain ⟨rfl, rfl⟩ := trodVars_none hV
  obtain ⟨a0, len0, cap0, rfl⟩ := okWide_slice Try.underlying22 (hval 0 22 v0 rfl rfl)
  have k0 := h0
  have lt0 : ∀ x ∈ p0, x.block < W.heap.size := by obtain ⟨m, hm⟩ := k0; exact DataW.trod_lt m _ _ _ hm
  obtain ⟨z0, w0⟩ : ∃ zs, IsRowK .u8 W a0 len0 cap0 zs := by
    obtain ⟨fuel, hf⟩ := h0
    rcases open_ints Try.underlying22 Try.underlying5 (by kernel_rfl) hf with ⟨hcs, _⟩ | ⟨x, l, c, zs, hcs, _, hl, hm, hz, _, hcell, hwz⟩
    · simp [Value.cells] at hcs
      obtain ⟨rfl, rfl, rfl⟩ := hcs
      exact ⟨[], .inl ⟨rfl, rfl, rfl, rfl⟩⟩
    · simp [Value.cells] at hcs
      obtain ⟨rfl, rfl, rfl⟩ := hcs
      exact ⟨zs, .inr ⟨_, rfl, hl, hm, by simpa using hz, hcell, hwz⟩⟩
  clear hA0 hval0
  refine (walk_FnLineNew a0 len0 cap0 z0 W w0).mono fun e W' ⟨he, bel⟩ => ?_
  subst he
  exact ⟨_, rfl, _, _, _, [], _, [], hW', trodAll_mk1 (shut_bool Try.underlying4 _), (trodAll_cons_mk (Below.trod laidOut (by kernel_rfl) (of_decide_eq_true (by kernel_rfl)) k0 bel lt0) trodAll_mk0), rfl, bel.frame _, fun h => by cases h⟩

theorem closed : joinedFacts Try.checked.prog 4 Try.f4 Rows.fnLineNewSpec Rows.fnLineNewRow = true := by
  unfold joinedFacts
  simp only [Bool.and_eq_true]
  repeat' (refine And.intro ?_ ?_)
  all_goals first
    | with_reducible exact may_enter
    | (rw [lifts_final]; kernel_rfl)
    | (rw [make_is]; kernel_rfl)
    | kernel_rfl

theorem over : Rows.fnLineNewRow.holds Try.pinned (OpenSpec.ofChange Rows.fnLineNewSpec) :=
  OpenClaim.holds_of_wide 4 Try.f4 rfl rfl rfl rfl rfl rfl rfl ⟨rfl, rfl, rfl, rfl, rfl⟩ rfl rfl rfl rfl rfl (by kernel_rfl) Try.func4 closed
    (of_decide_eq_true (by kernel_rfl)) (by unfold Func.isWrapper; first | (rw [if_pos (by decide +kernel)]; kernel_rfl) | (rw [if_neg (by decide +kernel)]; exact ⟨rfl, rfl⟩))
    (fun os started H enc _ => lifted os started H enc)

theorem proved : Rows.FnLineNewSaid := over
#print axioms proved
end Go.Proofs.Ytoapfcnpmpggcaa.fnLineNew
