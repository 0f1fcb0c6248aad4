/-
  For every input the law 'FnFree' returns true, and each of its arguments reads behind the call as it read before. Conditions: none beyond those of the row.
-/
import Derived.Test.YtoebgdcgcdigaabRows
import Derived.WalkKit
import Derived.ProofKit
import Derived.OpenShut
import Derived.ShutString
import Derived.ChangeOld
import Derived.Below
import Derived.Deep.Matrix
import Derived.Test.YtoebgdcgcdigaabIo
import Derived.Test.YtoebgdcgcdigaabDrawV
import Derived.Test.YtoebgdcgcdigaabFreeQ
import Derived.Test.YtoebgdcgcdigaabFreeS
import Derived.Test.YtoebgdcgcdigaabFree
import Derived.Test.YtoebgdcgcdigaabGap
namespace Go.Proofs.Ytoebgdcgcdigaab
open Go.RowKit

open Go.Sort

set_option maxRecDepth 100000 in
set_option maxHeartbeats 8000000 in
theorem walk_FnFree (a0 : Option Addr) (len0 cap0 : Nat) (z0 : List Int) (w : World) (w0 : IsRowK .u8 w a0 len0 cap0 z0) :
    Calls Try.prog 4 #[.slice a0 len0 cap0] w fun e w' => e = .returned (.bool true) ∧ Below w.heap.size w w' := by
  rcases Nat.lt_or_ge 1048576 len0 with hbig | hsm
  · have hb : (1048576 : Int) < (len0 : Int) := by omega
    go_enter Try.func4, Try.ntmps4
    go_wp2_with fail
    go_ret
    exact ⟨rfl, Below.refl _ _⟩
  have hb : (len0 : Int) ≤ 1048576 := by omega
  have DS := Lib.hid (drawFree w0 hsm)
  clear w0
  go_enter Try.func4, Try.ntmps4
  go_wp2_with (go_at_call 13; refine DS.out.mono ?_)
  rintro e w1 ⟨n, b, c, vs, ps, k, s, r, rfl, hn1, hn4, hpl, hk, hs, hr, lq, b1⟩
  have hpp := lq.paths (by omega)
  have GI := Lib.hid (fun (X : World) (hX : Below w1.heap.size w1 X) (s : Int) => implFree (n := (n : Int)) (k := k) (s := s) (r := r) (hpp.below hX))
  have GS := Lib.hid (fun (X : World) (hX : Below w1.heap.size w1 X) => specFree (n := (n : Int)) (k := k) (s := s) (r := r) (hpp.below hX))
  have HP := Lib.hid hpp
  have B1 := Lib.hid b1
  clear hpp lq DS b1
  go_wp2_with (go_at_call 14; refine (GI.out _ (Below.refl _ _) s).mono ?_)
  rintro e w2 ⟨V, t, rfl, ⟨hV, ht⟩, b2⟩
  have HV := Lib.hid (And.intro hV ht)
  clear hV ht
  go_wp2_with (go_at_call 15; refine (GS.out _ b2).mono ?_)
  rintro e w3 ⟨V', t', rfl, ⟨hV', ht'⟩, b3⟩
  rw [← HV.out.1] at hV'
  rw [← HV.out.2] at ht'
  subst V'
  subst t'
  have C3 := Lib.hid (b2.trans (b3.mono b2.size))
  have CE := Lib.hid (B1.out.trans (C3.out.mono B1.out.size))
  clear b2 b3 GS
  cases t
  · go_wp2_with fail
    go_ret
    exact ⟨rfl, CE.out⟩
  have hfb : freeB (n : Int) ps k s r = true := HV.out.2.symm
  have hkk := hasB_is (freeB_is hfb).1
  obtain ⟨k, rfl⟩ : ∃ m : Nat, k = (m : Int) := ⟨k.toNat, by omega⟩
  obtain ⟨hpb, hkn, hr2, hs2, hv2, hfree, hge, hle⟩ := freeB_all hfb
  have hVV : V = freeT ps k r s := by rw [HV.out.1, hv2]
  rw [← hVV] at hfree hge hle
  have htk := freeT_taken ps k r s
  have hag := free_again hfb
  rw [← hVV] at htk hag
  have TK := Lib.hid (fun t (h1 : s ≤ t) (h2 : t ≤ V) => show meetTo ps k t r ps.length = decide (t < V) by
    by_cases q : t < V
    · rw [decide_eq_true q]; exact meetTo_taken (htk t h1 q)
    · rw [decide_eq_false q]; exact meetTo_free (by rw [show t = V by omega]; exact hfree))
  have AG := Lib.hid hag
  have PB := Lib.hid hpb
  have HAT := Lib.hid (fun (i : Nat) (hi : i < ps.length) => paths_at HP.out hi)
  clear hfb hkk hpb hv2 hVV hfree htk hag hs hr hk
  go_wp2_with fail
  go_loopw [12] (fun tv wr => ∃ t : Int, tv = .int .i64 t ∧ s ≤ t ∧ t ≤ V + 1 ∧ w3 = wr) (fun tv _ => (V + 1 - intOf tv).toNat)
  case atStart => exact ⟨s, rfl, by omega, by omega, rfl⟩
  case round =>
    obtain ⟨t, rfl, ht0, ht1, hw⟩ := hrel
    subst hw
    by_cases hlt : t ≤ V
    · have hd : decide (t ≤ V) = true := decide_eq_true hlt
      have hw1 : wrap64 (t + r) = t + r := by rw [← IntWalk.i64_left]; exact IntWalk.i64_in _ (by omega)
      have hw2 : IntKind.i64.wrap (t + r) = t + r := IntWalk.i64_in _ (by omega)
      go_wp2_with fail
      go_loopw [13, 14] (fun hv iv wr => ∃ i : Nat, i ≤ ps.length ∧ iv = .int .i64 i ∧ hv = .bool (meetTo ps k t r i) ∧ w3 = wr) (fun _ iv _ => ps.length - (intOf iv).toNat)
      case atStart => exact ⟨0, by omega, rfl, rfl, rfl⟩
      case round =>
        obtain ⟨i, hi, rfl, rfl, hw⟩ := hrel
        subst hw
        by_cases hil : i < ps.length
        · obtain ⟨_, o, e, hb1', hat⟩ := HAT.out i hil
          simp only [Option.some.injEq, Addr.mk.injEq, and_true] at e
          obtain ⟨rfl, rfl⟩ := e
          obtain ⟨b1, o1, k1, b2, o2, k2, c1, c2, -, hb1, hb2, d1, d2⟩ := paths_cells hat PB.out hil hkn
          obtain ⟨r1, r2, r3, r4, r5⟩ := sec_bounds PB.out hil hkn
          have old : ∀ (q : Addr) (v : Value), q.block < w1.heap.size → w1.cell? q = some v → w3.cell? q = some v := fun q v hq hv => (C3.out.cell hq).trans hv
          have f1 := old _ _ hb1' c1
          have f2 := old _ _ hb1' c2
          have f1' := f1
          have f2' := f2
          simp only [Nat.zero_add] at f1' f2'
          have f3 := old _ _ hb1 d1
          have f4 := old _ _ hb2 d2
          have HM := Lib.hid (show meetTo ps k t r (i + 1) = (meetTo ps k t r i || decide (meetsAt ps k t r i)) from rfl)
          have HX := Lib.hid (show meetsAt ps k t r i ↔ (ps.getD i noPath).1.getD k 0 < t + r ∧ t < (ps.getD i noPath).2.getD k 0 from Iff.rfl)
          generalize (ps.getD i noPath).1.length = l1 at f1 f1' r1
          generalize (ps.getD i noPath).2.length = l2 at f2 f2' r2
          generalize (ps.getD i noPath).1.getD k 0 = x at f3 HX r3 r4
          generalize (ps.getD i noPath).2.getD k 0 = y at f4 HX r4 r5
          have hili : (i : Int) < (ps.length : Int) := by omega
          have hkl1 : (k : Int) < (l1 : Int) := by omega
          have hkl2 : (k : Int) < (l2 : Int) := by omega
          clear hat c1 c2 d1 d2 old
          obtain ⟨M, hM⟩ : ∃ M, M = meetTo ps k t r i := ⟨_, rfl⟩
          rw [← hM] at HM ⊢
          have HMM := Lib.hid hM
          clear hM
          cases M
          · by_cases hx : x < t + r
            · have hdx : decide (x < t + r) = true := decide_eq_true hx
              by_cases hy : t < y
              · have hdy : decide (t < y) = true := decide_eq_true hy
                have HN := Lib.hid (show meetTo ps k t r (i + 1) = true by rw [HM.out, decide_eq_true (HX.out.2 ⟨hx, hy⟩)]; rfl)
                clear hx hy
                go_wp2_with fail
                go_roundw
                case rel => exact ⟨i + 1, by omega, by go_num, by rw [HN.out], trivial⟩
                case measure => simp [intOf]; omega
              · have hdy : decide (t < y) = false := decide_eq_false hy
                have HN := Lib.hid (show meetTo ps k t r (i + 1) = false by rw [HM.out, decide_eq_false (fun q => hy (HX.out.1 q).2)]; rfl)
                clear hx hy
                go_wp2_with fail
                go_roundw
                case rel => exact ⟨i + 1, by omega, by go_num, by rw [HN.out], trivial⟩
                case measure => simp [intOf]; omega
            · have hdx : decide (x < t + r) = false := decide_eq_false hx
              have HN := Lib.hid (show meetTo ps k t r (i + 1) = false by rw [HM.out, decide_eq_false (fun q => hx (HX.out.1 q).1)]; rfl)
              clear hx
              go_wp2_with fail
              go_roundw
              case rel => exact ⟨i + 1, by omega, by go_num, by rw [HN.out], trivial⟩
              case measure => simp [intOf]; omega
          · have HN := Lib.hid (show meetTo ps k t r (i + 1) = true by rw [HM.out]; rfl)
            go_wp2_with fail
            go_roundw
            case rel => exact ⟨i + 1, by omega, by go_num, by rw [HN.out], trivial⟩
            case measure => simp [intOf]; omega
        · obtain rfl : i = ps.length := by omega
          rw [TK.out t ht0 hlt]
          go_wp2_with fail
          go_roundw
          case rel => exact ⟨t + 1, by go_num, by omega, by omega, trivial⟩
          case measure => simp [intOf]; omega
    · have hd : decide (t ≤ V) = false := decide_eq_false hlt
      have GG := Lib.hid ((GI.out _ C3.out V).mono (R' := fun e w' => e = .returned (.tuple #[.int .i64 V, .bool true]) ∧ Below w3.heap.size w3 w') fun e w' q => by
        obtain ⟨X, q, rfl, ⟨hX, hq⟩, hb⟩ := q
        rw [AG.out.2] at hX
        rw [AG.out.1] at hq
        subst hX
        subst hq
        exact ⟨rfl, hb⟩)
      have hge2 : decide (s ≤ V) = true := decide_eq_true hge
      go_wp2_with (go_at_call 14; refine GG.out.mono ?_; rintro e w4 ⟨rfl, b4⟩)
      have C4 := Lib.hid (CE.out.trans (b4.mono CE.out.size))
      clear b4
      go_wp2_with fail
      go_ret
      exact ⟨rfl, C4.out⟩

end Go.Proofs.Ytoebgdcgcdigaab

namespace Go.Proofs.Ytoebgdcgcdigaab.fnFree
open Go.ChangeShapes Go.WideShapes Go.ChangeAt Go.RowKit
open Go.ChangeMaps (open_string shut_string)
set_option linter.unusedVariables false

theorem own : ownKnob Try.prog.godebug = none := by kernel_rfl
theorem laidOut : laidOutB Try.prog = true := by kernel_rfl

set_option maxRecDepth 100000 in
theorem lifted (os : Os) (started : os.Started) (H : Type) (enc : TypeId × Value → H) :
    ReturnsInHanded {} Try.checked os 4 .any (Rows.fnFreeSpec.pre6 enc Try.prog Try.f4 Rows.fnFreeRow.domain false) (Rows.fnFreeSpec.post enc Try.prog Try.f4 false true false false) := by
  refine returnsInHanded_of_change (C := Try.checked) own started (by kernel_rfl) Try.func4
    (ChangeSpec.witness6 (enc := enc) (C := Try.checked) false ⟨#[], #[.slice none 0 0], []⟩ 8 (by kernel_rfl) (by kernel_rfl) (by kernel_rfl) (by kernel_rfl)) ?_
  intro W base args ds gs before hval0 hW hcnd _
  have hval : ∀ (j : Nat) t v, Try.f4.params[j]? = some t → args[j]? = some v → Value.okWide Try.prog W .any base t v := hval0
  have hW' := hW
  obtain ⟨p, q, hA0, hV, rfl, hfz, hnd⟩ := hW
  have hA : DataW.TrodAll enc Try.prog W 0 (fun _ => true) true Try.f4.params.toList args.toList ds p := hA0
  rw [Try.params4] at hA hval
  obtain ⟨v0, vs0, d0, ds0, p0, q0, hargs, rfl, rfl, h0, r0⟩ := trodAll_cons hA
  obtain ⟨rfl, rfl, rfl⟩ := trodAll_nil r0
  obtain rfl : args = #[v0] := by cases args; simp_all
  obtain ⟨rfl, rfl⟩ := trodVars_none hV
  obtain ⟨a0, len0, cap0, rfl⟩ := okWide_slice Try.underlying22 (hval 0 22 v0 rfl rfl)
  have k0 := h0
  have lt0 : ∀ x ∈ p0, x.block < W.heap.size := by obtain ⟨m, hm⟩ := k0; exact DataW.trod_lt m _ _ _ hm
  obtain ⟨z0, w0⟩ : ∃ zs, IsRowK .u8 W a0 len0 cap0 zs := by
    obtain ⟨fuel, hf⟩ := h0
    rcases open_ints Try.underlying22 Try.underlying5 (by kernel_rfl) hf with ⟨hcs, _⟩ | ⟨x, l, c, zs, hcs, _, hl, hm, hz, _, hcell, hwz⟩
    · simp [Value.cells] at hcs
      obtain ⟨rfl, rfl, rfl⟩ := hcs
      exact ⟨[], .inl ⟨rfl, rfl, rfl, rfl⟩⟩
    · simp [Value.cells] at hcs
      obtain ⟨rfl, rfl, rfl⟩ := hcs
      exact ⟨zs, .inr ⟨_, rfl, hl, hm, by simpa using hz, hcell, hwz⟩⟩
  clear hA0 hval0
  refine (walk_FnFree a0 len0 cap0 z0 W w0).mono fun e W' ⟨he, bel⟩ => ?_
  subst he
  exact ⟨_, rfl, _, _, _, [], _, [], hW', trodAll_mk1 (shut_bool Try.underlying4 _), (trodAll_cons_mk (Below.trod laidOut (by kernel_rfl) (of_decide_eq_true (by kernel_rfl)) k0 bel lt0) trodAll_mk0), rfl, bel.frame _, fun h => by cases h⟩

theorem closed : joinedFacts Try.checked.prog 4 Try.f4 Rows.fnFreeSpec Rows.fnFreeRow = true := by
  unfold joinedFacts
  simp only [Bool.and_eq_true]
  repeat' (refine And.intro ?_ ?_)
  all_goals first
    | with_reducible exact may_enter
    | (rw [lifts_final]; kernel_rfl)
    | (rw [make_is]; kernel_rfl)
    | kernel_rfl

theorem over : Rows.fnFreeRow.holds Try.pinned (OpenSpec.ofChange Rows.fnFreeSpec) :=
  OpenClaim.holds_of_wide 4 Try.f4 rfl rfl rfl rfl rfl rfl rfl ⟨rfl, rfl, rfl, rfl, rfl⟩ rfl rfl rfl rfl rfl (by kernel_rfl) Try.func4 closed
    (of_decide_eq_true (by kernel_rfl)) (by unfold Func.isWrapper; first | (rw [if_pos (by decide +kernel)]; kernel_rfl) | (rw [if_neg (by decide +kernel)]; exact ⟨rfl, rfl⟩))
    (fun os started H enc _ => lifted os started H enc)

theorem proved : Rows.FnFreeSaid := over
#print axioms proved
end Go.Proofs.Ytoebgdcgcdigaab.fnFree
