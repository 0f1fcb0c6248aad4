/-
  For every input the law 'FnCodeBegins' returns true, and each of its arguments reads behind the call as it read before. Conditions: none beyond those of the row.
-/
import Derived.Test.YtoebgdcgcdigaaaRows
import Derived.WalkKit
import Derived.ProofKit
import Derived.OpenShut
import Derived.ShutString
import Derived.ChangeOld
import Derived.Below
import Derived.Deep.Matrix
import Derived.Test.YtoebgdcgcdigaaaIo
import Derived.Test.YtoebgdcgcdigaaaBegins
import Derived.Test.YtoebgdcgcdigaaaTexts
import Derived.Test.YtoebgdcgcdigaaaSumP
import Derived.Test.YtoebgdcgcdigaaaDraws3
import Derived.Test.YtoebgdcgcdigaaaRowK
import Derived.Lib.QuietBelow
import Derived.BigRegion
import Derived.BigQuiet
namespace Go.Proofs.Ytoebgdcgcdigaaa
open Go.RowKit

open Go.Sort

theorem txtTo_take {xs ys : List Int} (h : xs = ys.take xs.length) : ∀ k, k ≤ xs.length → txtTo xs k = txtTo ys k := by
  intro k
  induction k with
  | zero => intro _; rfl
  | succ k ih =>
    intro hk
    have e : xs.getD k 0 = ys.getD k 0 := by
      rw [h]
      simp only [List.getD_eq_getElem?_getD, List.getElem?_take, if_pos (show k < xs.length by omega)]
    simp only [txtTo, ih (by omega), e]
theorem txtTo_len (xs : List Int) : ∀ k, (txtTo xs (k + 1)).length = 2 * k + 1 := by
  intro k
  induction k with
  | zero => simp [txtTo]
  | succ k ih =>
    rw [show txtTo xs (k + 1 + 1) = txtTo xs (k + 1) ++ (if k + 1 = 0 then [] else [45]) ++ [digit (xs.getD (k + 1) 0)] from rfl, if_neg (by omega), List.length_append, List.length_append, ih]
    simp only [List.length_cons, List.length_nil]
    omega
theorem txtTo_front (ys : List Int) (k : Nat) : ∀ n, k ≤ n → (txtTo ys n).take (txtTo ys k).length = txtTo ys k := by
  intro n
  induction n with
  | zero => intro h; rw [show k = 0 by omega]; simp
  | succ n ih =>
    intro h
    by_cases e : k = n + 1
    · rw [e]; simp
    · have i := ih (by omega)
      have hle : (txtTo ys k).length ≤ (txtTo ys n).length := by
        have := congrArg List.length i
        rw [List.length_take] at this
        omega
      rw [show txtTo ys (n + 1) = txtTo ys n ++ (if n = 0 then [] else [45]) ++ [digit (ys.getD n 0)] from rfl, List.append_assoc, List.take_append_of_le_length hle]
      exact i
/-- The text of a beginning begins the text. -/
theorem text_front {xs ys : List Int} (h : beginsB xs ys = true) : (textOf xs).size = 2 * xs.length - 1 ∧ (textOf xs).size ≤ (textOf ys).size ∧ (textOf ys).extract 0 (2 * xs.length - 1) = textOf xs ∧ (textOf ys).size ≤ 12 := by
  unfold beginsB at h
  simp only [Bool.and_eq_true, decide_eq_true_eq] at h
  obtain ⟨h1, h2, h3, h4⟩ := h
  have g1 := groupsB_ok h1
  have g2 := groupsB_ok h2
  obtain ⟨k, hk⟩ : ∃ k, xs.length = k + 1 := ⟨xs.length - 1, by omega⟩
  have e1 : textOf xs = ⟨(txtTo xs xs.length).toArray⟩ := by unfold textOf; rw [h1]; rfl
  have e2 : textOf ys = ⟨(txtTo ys ys.length).toArray⟩ := by unfold textOf; rw [h2]; rfl
  have l1 : (txtTo xs xs.length).length = 2 * xs.length - 1 := by rw [hk, txtTo_len]; omega
  have fr := txtTo_front ys xs.length ys.length (by omega)
  rw [← txtTo_take h4 _ (Nat.le_refl _), l1] at fr
  have l2 := txtTo_length ys ys.length
  have l3 : 2 * xs.length - 1 ≤ (txtTo ys ys.length).length := by
    have := congrArg List.length fr
    rw [List.length_take, l1] at this
    omega
  rw [e1, e2]
  refine ⟨l1, by show (txtTo xs xs.length).length ≤ (txtTo ys ys.length).length; omega, ?_, by show (txtTo ys ys.length).length ≤ 12; omega⟩
  apply ByteArray.ext
  rw [ByteArray.data_extract]
  apply Array.ext'
  rw [Array.toList_extract]
  simp only [List.extract_eq_take_drop, List.drop_zero, Nat.sub_zero]
  exact fr
theorem beats_front {xs ys : List Int} (h : beginsB xs ys = true) : beatsOf xs < beatsOf ys ∧ xs.length < ys.length ∧ beginsB ys xs = false ∧ 1 ≤ xs.length ∧ (xs.length ≠ 1 → beginsB (xs.take (xs.length - 1)) ys = true) := by
  have hh := h
  unfold beginsB at h
  simp only [Bool.and_eq_true, decide_eq_true_eq] at h
  obtain ⟨h1, h2, h3, h4⟩ := h
  have g1 := groupsB_ok h1
  have g2 := groupsB_ok h2
  have mono : ∀ k m, k < m → m ≤ ys.length → sumL (ys.take k) < sumL (ys.take m) := by
    intro k m hkm hm
    induction m with
    | zero => omega
    | succ m ih =>
      have := okGroups_get g2.1 m (by omega)
      rw [sumL_succ ys m (by omega)]
      by_cases e : k = m
      · subst e; omega
      · have := ih (by omega) (by omega); omega
  refine ⟨?_, h3, ?_, by omega, fun hne => ?_⟩
  · unfold beatsOf
    rw [h1, h2]
    simp only [if_true]
    have m := mono xs.length ys.length h3 (Nat.le_refl _)
    rw [List.take_length, ← h4] at m
    exact m
  · unfold beginsB
    rw [h1, h2, decide_eq_false (by omega)]
    rfl
  · have hl : (xs.take (xs.length - 1)).length = xs.length - 1 := by rw [List.length_take]; omega
    have ok : groupsB (xs.take (xs.length - 1)) 1 5 = true := by
      unfold groupsB
      rw [Bool.and_eq_true, Bool.and_eq_true, hl]
      refine ⟨?_, decide_eq_true (by omega), decide_eq_true (by omega)⟩
      have := g1.1
      unfold okGroups at *
      rw [List.all_eq_true] at *
      exact fun x hx => this x (List.mem_of_mem_take hx)
    unfold beginsB
    rw [ok, h2, hl, decide_eq_true (by omega : xs.length - 1 < ys.length)]
    have e : xs.take (xs.length - 1) = ys.take (xs.length - 1) := by
      have q := congrArg (List.take (xs.length - 1)) h4
      rw [List.take_take, Nat.min_eq_left (by omega)] at q
      exact q
    rw [decide_eq_true e]
    rfl
theorem ints_take {w : World} {a : Option Addr} {n c : Nat} {xs : List Int} (h : Ints w (.slice a n c) xs) {k : Nat} (hk : k ≤ xs.length) : Ints w (.slice a k c) (xs.take k) := by
  obtain ⟨a', c', e, ⟨h1, h2⟩, hc⟩ := h
  simp only [Value.slice.injEq] at e
  obtain ⟨rfl, rfl, rfl⟩ := e
  have hl : (xs.take k).length = k := by rw [List.length_take]; omega
  refine ⟨a, c, by rw [hl], ⟨by omega, by omega⟩, ?_⟩
  rcases hc with rfl | ⟨b, o, rfl, hb, hi⟩
  · left; simp
  · right
    exact ⟨b, o, rfl, hb, fun i hi' => by
      rw [hl] at hi'
      rw [hi i (by omega)]
      simp only [List.getD_eq_getElem?_getD, List.getElem?_take, if_pos hi']⟩

/-- Two drawn lists. -/
def DrawnTwoL (w : World) (e : Ending) (w' : World) : Prop :=
  ∃ (u v : Value) (xs ys : List Int), e = .returned (.tuple #[u, v]) ∧ Ints w' u xs ∧ Ints w' v ys ∧ xs.length ≤ 6 ∧ ys.length ≤ 6 ∧ Below w.heap.size w w'

set_option maxRecDepth 100000 in
set_option maxHeartbeats 1000000 in
theorem drawBeginsC {w : World} {a : Option Addr} {len cap : Nat} {zs : List Int} (h : IsRowK .u8 w a len cap zs) (hl : len ≤ 1048576) :
    Calls Try.prog 13 #[.slice a len cap] w (DrawnTwoL w) := by
  have OP := Lib.hid (openRd h hl)
  clear h
  go_enter Try.func13, Try.ntmps13
  go_wp2_with (go_at_call 53; refine OP.out.mono ?_)
  rintro e w1 ⟨g, rfl, hg, hr, b1⟩
  have hgl := hr.lt
  have DC := Lib.hid (drawCode hr (by omega))
  clear hr OP
  go_wp2_with (go_at_call 54; refine DC.out.mono ?_)
  rintro e w2 ⟨v, ys, p2, rfl, o2, hl6, hr2, hp2, g2⟩
  obtain ⟨av, cv, rfl⟩ := own_slice o2
  have O2 := Lib.hid o2
  have hcap : ys.length ≤ cv := by
    rcases o2.2 with ⟨e, h0⟩ | ⟨_, _, _, e, _, _, q, _⟩
    · simp only [Value.slice.injEq] at e; omega
    · simp only [Value.slice.injEq] at e; omega
  have B2 := Lib.hid (b1.grown g2 b1.size (fun b hb => by simp only [Option.some.injEq] at hb; omega))
  clear o2 g2 b1
  by_cases h1 : 1 < ys.length
  · have h1i : (1 : Int) < (ys.length : Int) := by omega
    have hd1 : decide ((1 : Int) < (ys.length : Int)) = true := decide_eq_true h1i
    go_wp2_with (go_at_call 55; refine (pick hr2 (by omega) (by omega) (by omega)).mono ?_)
    rintro e w3 ⟨r, rfl, hr0, hr1, hr3, g3⟩
    have O3 := Lib.hid (O2.out.kept g3 (own_not O2.out hgl))
    have B3 := Lib.hid (B2.out.grown g3 B2.out.size (fun b hb => by simp only [Option.some.injEq] at hb; omega))
    clear hr2 g3 hr1
    by_cases h2 : 0 < r
    · have hd2 : decide (0 < r) = true := decide_eq_true h2
      go_wp2_with (go_at_call 55; refine (pick hr3 (by omega) (by omega) (by omega)).mono ?_)
      rintro e w4 ⟨q, rfl, hq0, hq1, hr4, g4⟩
      have hq1' := hq1 (by omega)
      have O4 := Lib.hid (O3.out.kept g4 (own_not O3.out hgl))
      have B4 := Lib.hid (B3.out.grown g4 B3.out.size (fun b hb => by simp only [Option.some.injEq] at hb; omega))
      obtain ⟨m, hm⟩ : ∃ m : Nat, (m : Int) = 1 + q := ⟨(1 + q).toNat, by omega⟩
      have hmm : m ≤ ys.length := by omega
      have hmc : (m : Int) ≤ (cv : Int) := by omega
      have hm0 : ¬ ((m : Int) < 0) := by omega
      have hw : wrap64 (1 + q) = (m : Int) := by rw [IntWalk.wrap64_in _ (by omega)]; omega
      have hw2 : 1 + q = (m : Int) := hm.symm
      have I4 := Lib.hid (O4.out.ints (by omega))
      have T4 := Lib.hid (ints_take I4.out hmm)
      have hml : (ys.take m).length ≤ 6 := by rw [List.length_take]; omega
      clear hr3 g4 hq1 hm hr4
      go_wp2_with fail
      go_ret2
      exact ⟨_, _, _, _, rfl, T4.out, I4.out, hml, hl6, B4.out⟩
    · have hd2 : decide (0 < r) = false := decide_eq_false h2
      have DC2 := Lib.hid (drawCode hr3 (by omega))
      clear hr3
      go_wp2_with (go_at_call 54; refine DC2.out.mono ?_)
      rintro e w4 ⟨u, xs, p4, rfl, o4, hx6, hr4, hp4, g4⟩
      have I4 := Lib.hid (o4.ints (by omega))
      have J4 := Lib.hid ((O3.out.kept g4 (own_not O3.out hgl)).ints (by omega))
      have B4 := Lib.hid (B3.out.grown g4 B3.out.size (fun b hb => by simp only [Option.some.injEq] at hb; omega))
      clear o4 g4 hr4
      go_wp2_with fail
      go_ret2
      exact ⟨_, _, _, _, rfl, I4.out, J4.out, hx6, hl6, B4.out⟩
  · have h1i : ¬ (1 : Int) < (ys.length : Int) := by omega
    have hd1 : decide ((1 : Int) < (ys.length : Int)) = false := decide_eq_false h1i
    have DC2 := Lib.hid (drawCode hr2 (by omega))
    clear hr2
    go_wp2_with (go_at_call 54; refine DC2.out.mono ?_)
    rintro e w4 ⟨u, xs, p4, rfl, o4, hx6, hr4, hp4, g4⟩
    have I4 := Lib.hid (o4.ints (by omega))
    have J4 := Lib.hid ((O2.out.kept g4 (own_not O2.out hgl)).ints (by omega))
    have B4 := Lib.hid (B2.out.grown g4 B2.out.size (fun b hb => by simp only [Option.some.injEq] at hb; omega))
    clear o4 g4 hr4
    go_wp2_with fail
    go_ret2
    exact ⟨_, _, _, _, rfl, I4.out, J4.out, hx6, hl6, B4.out⟩

set_option maxRecDepth 100000 in
set_option maxHeartbeats 8000000 in
theorem walk_FnCodeBegins (a0 : Option Addr) (len0 cap0 : Nat) (z0 : List Int) (w : World) (w0 : IsRowK .u8 w a0 len0 cap0 z0) :
    Calls Try.prog 3 #[.slice a0 len0 cap0] w fun e w' => e = .returned (.bool true) ∧ Below w.heap.size w w' := by
  rcases Nat.lt_or_ge 1048576 len0 with hbig | hsm
  · have hb : (1048576 : Int) < (len0 : Int) := by omega
    go_enter Try.func3, Try.ntmps3
    go_wp2_with fail
    go_ret
    exact ⟨rfl, Below.refl _ _⟩
  have hb : (len0 : Int) ≤ 1048576 := by omega
  have DS := Lib.hid (drawBeginsC w0 hsm)
  clear w0
  go_enter Try.func3, Try.ntmps3
  go_wp2_with (go_at_call 13; refine DS.out.mono ?_)
  rintro e w1 ⟨u, v, xs, ys, rfl, hu, hv, hx6, hy6, b1⟩
  have HU := Lib.hid hu
  have HV := Lib.hid hv
  have B1 := Lib.hid b1
  have GI := implBegins hu hv
  have GS := fun (X : World) (hX : Below w1.heap.size w1 X) => specBegins (hu.below hX) (hv.below hX)
  obtain ⟨t, ht⟩ : ∃ t, t = beginsB xs ys := ⟨_, rfl⟩
  rw [← ht] at GI GS
  have GI := Lib.hid GI
  have GS := Lib.hid GS
  have HT := Lib.hid ht
  obtain ⟨au, cu, rfl, ⟨-, hcu⟩, -⟩ := hu
  obtain ⟨av, cv, rfl, -, -⟩ := hv
  clear DS b1 ht
  go_wp2_with (go_at_call 14; refine GI.out.mono ?_)
  rintro e w2 ⟨rfl, b2⟩
  go_wp2_with (go_at_call 15; refine (GS.out _ b2).mono ?_)
  rintro e w3 ⟨rfl, b3⟩
  have D3 := Lib.hid (b2.trans (b3.mono b2.size))
  have CE := Lib.hid (B1.out.trans (D3.out.mono B1.out.size))
  clear b2 b3 GI GS
  cases t
  · go_wp2_with fail
    go_ret
    exact ⟨rfl, CE.out⟩
  obtain ⟨hbt, hll, hno, hx1, hfr⟩ := beats_front HT.out.symm
  obtain ⟨ht1, ht2, ht3, ht4⟩ := text_front HT.out.symm
  have BX := fun d os => Calls.regrown_of (implBeats ((HU.out.below D3.out).below (below_regrown w3 d os)))
  have BY := fun d os => Calls.regrown_of (implBeats ((HV.out.below D3.out).below (below_regrown w3 d os)))
  have NB := fun d os => Calls.regrown_of (implBegins ((HV.out.below D3.out).below (below_regrown w3 d os)) ((HU.out.below D3.out).below (below_regrown w3 d os)))
  rw [hno] at NB
  have FB := fun (h : xs.length ≠ 1) d os => Calls.regrown_of (implBegins ((ints_take (HU.out.below D3.out) (show xs.length - 1 ≤ xs.length by omega)).below (below_regrown w3 d os)) ((HV.out.below D3.out).below (below_regrown w3 d os)))
  have TX := fun d os => Calls.regrown_of (implText ((HU.out.below D3.out).below (below_regrown w3 d os)))
  have TY := fun d os => Calls.regrown_of (implText ((HV.out.below D3.out).below (below_regrown w3 d os)))
  obtain ⟨S, hS⟩ : ∃ S, S = textOf xs := ⟨_, rfl⟩
  obtain ⟨T, hT⟩ : ∃ T, T = textOf ys := ⟨_, rfl⟩
  rw [← hS] at ht1 ht2 ht3 TX
  rw [← hT] at ht2 ht3 ht4 TY
  obtain ⟨x, hx⟩ : ∃ x, x = beatsOf xs := ⟨_, rfl⟩
  obtain ⟨y, hy⟩ : ∃ y, y = beatsOf ys := ⟨_, rfl⟩
  rw [← hx] at hbt BX
  rw [← hy] at hbt BY
  have hd1 : decide (x < y) = true := decide_eq_true hbt
  have hd2 : decide ((xs.length : Int) < (ys.length : Int)) = true := decide_eq_true (by omega)
  have hsl : ∀ w, (Instr.slice 9 (.string T) none (some (.int .i64 (2 * (xs.length : Int) - 1))) none).run Try.prog w = .ok (.string S) w := by
    intro w
    rw [run_slice_string_to_if _ _ _ _ _ Try.underlying9, if_pos ⟨by omega, by omega⟩, show (2 * (xs.length : Int) - 1).toNat = 2 * xs.length - 1 by omega, ht3]
  have hw1 : IntKind.i64.wrap (2 * (xs.length : Int)) = 2 * (xs.length : Int) := IntWalk.i64_in _ (by omega)
  have hw2 : IntKind.i64.wrap (2 * (xs.length : Int) - 1) = 2 * (xs.length : Int) - 1 := IntWalk.i64_in _ (by omega)
  have hw3 : IntKind.i64.wrap ((xs.length : Int) - 1) = ((xs.length - 1 : Nat) : Int) := by rw [IntWalk.i64_in _ (by omega)]; omega
  have hss : (S.toList == S.toList) = true := by simp
  have hc1 : ((xs.length - 1 : Nat) : Int) ≤ (cu : Int) := by omega
  have hc2 : ¬ (((xs.length - 1 : Nat) : Int) < 0) := by omega
  have hc3 : xs.length - 1 ≤ cu := by omega
  have BX := Lib.hid BX
  have BY := Lib.hid BY
  have NB := Lib.hid NB
  have TX := Lib.hid TX
  have TY := Lib.hid TY
  clear hS hT hx hy hbt hno ht1 ht2 ht3 ht4
  by_cases h1 : xs.length = 1
  · have hl1 : ((xs.length : Int) == 1) = true := by rw [h1]; rfl
    clear FB hfr h1
    go_wp2_with fail
    refine wp_region_quiet_below (by kernel_rfl) (by kernel_rfl) ?_
    repeat (go_big_quiet_step (first | (with_reducible exact BX.out _ _) | (with_reducible exact BY.out _ _) | (with_reducible exact NB.out _ _) | (with_reducible exact TX.out _ _) | (with_reducible exact TY.out _ _)))
    refine wpQuiet_nil ?_
    intro _ hw'
    obtain ⟨⟨dq, osq⟩, hw''⟩ := hw'
    subst hw''
    have BF := Lib.hid (CE.out.trans ((below_regrown w3 dq osq).mono CE.out.size))
    go_wp2_with fail
    go_ret
    exact ⟨rfl, BF.out⟩
  · have hl1 : ((xs.length : Int) == 1) = false := by
      rw [beq_eq_false_iff_ne]
      omega
    have FB := FB h1
    rw [hfr h1] at FB
    have FB := Lib.hid FB
    clear hfr h1
    go_wp2_with fail
    refine wp_region_quiet_below (by kernel_rfl) (by kernel_rfl) ?_
    repeat (go_big_quiet_step (first | (with_reducible exact BX.out _ _) | (with_reducible exact BY.out _ _) | (with_reducible exact NB.out _ _) | (with_reducible exact FB.out _ _) | (with_reducible exact TX.out _ _) | (with_reducible exact TY.out _ _)))
    refine wpQuiet_nil ?_
    intro _ hw'
    obtain ⟨⟨dq, osq⟩, hw''⟩ := hw'
    subst hw''
    have BF := Lib.hid (CE.out.trans ((below_regrown w3 dq osq).mono CE.out.size))
    go_wp2_with fail
    go_ret
    exact ⟨rfl, BF.out⟩

end Go.Proofs.Ytoebgdcgcdigaaa

namespace Go.Proofs.Ytoebgdcgcdigaaa.fnCodeBegins
open Go.ChangeShapes Go.WideShapes Go.ChangeAt Go.RowKit
open Go.ChangeMaps (open_string shut_string)
set_option linter.unusedVariables false

theorem own : ownKnob Try.prog.godebug = none := by kernel_rfl
theorem laidOut : laidOutB Try.prog = true := by kernel_rfl

set_option maxRecDepth 100000 in
theorem lifted (os : Os) (started : os.Started) (H : Type) (enc : TypeId × Value → H) :
    ReturnsInHanded {} Try.checked os 3 .any (Rows.fnCodeBeginsSpec.pre6 enc Try.prog Try.f3 Rows.fnCodeBeginsRow.domain false) (Rows.fnCodeBeginsSpec.post enc Try.prog Try.f3 false true false false) := by
  refine returnsInHanded_of_change (C := Try.checked) own started (by kernel_rfl) Try.func3
    (ChangeSpec.witness6 (enc := enc) (C := Try.checked) false ⟨#[], #[.slice none 0 0], []⟩ 8 (by kernel_rfl) (by kernel_rfl) (by kernel_rfl) (by kernel_rfl)) ?_
  intro W base args ds gs before hval0 hW hcnd _
  have hval : ∀ (j : Nat) t v, Try.f3.params[j]? = some t → args[j]? = some v → Value.okWide Try.prog W .any base t v := hval0
  have hW' := hW
  obtain ⟨p, q, hA0, hV, rfl, hfz, hnd⟩ := hW
  have hA : DataW.TrodAll enc Try.prog W 0 (fun _ => true) true Try.f3.params.toList args.toList ds p := hA0
  rw [Try.params3] at hA hval
  obtain ⟨v0, vs0, d0, ds0, p0, q0, hargs, rfl, rfl, h0, r0⟩ := trodAll_cons hA
  obtain ⟨rfl, rfl, rfl⟩ := trodAll_nil r0
  obtain rfl : args = #[v0] := by cases args; simp_all
  obtain ⟨rfl, rfl⟩ := trodVars_none hV
  obtain ⟨a0, len0, cap0, rfl⟩ := okWide_slice Try.underlying22 (hval 0 22 v0 rfl rfl)
  have k0 := h0
  have lt0 : ∀ x ∈ p0, x.block < W.heap.size := by obtain ⟨m, hm⟩ := k0; exact DataW.trod_lt m _ _ _ hm
  obtain ⟨z0, w0⟩ : ∃ zs, IsRowK .u8 W a0 len0 cap0 zs := by
    obtain ⟨fuel, hf⟩ := h0
    rcases open_ints Try.underlying22 Try.underlying5 (by kernel_rfl) hf with ⟨hcs, _⟩ | ⟨x, l, c, zs, hcs, _, hl, hm, hz, _, hcell, hwz⟩
    · simp [Value.cells] at hcs
      obtain ⟨rfl, rfl, rfl⟩ := hcs
      exact ⟨[], .inl ⟨rfl, rfl, rfl, rfl⟩⟩
    · simp [Value.cells] at hcs
      obtain ⟨rfl, rfl, rfl⟩ := hcs
      exact ⟨zs, .inr ⟨_, rfl, hl, hm, by simpa using hz, hcell, hwz⟩⟩
  clear hA0 hval0
  refine (walk_FnCodeBegins a0 len0 cap0 z0 W w0).mono fun e W' ⟨he, bel⟩ => ?_
  subst he
  exact ⟨_, rfl, _, _, _, [], _, [], hW', trodAll_mk1 (shut_bool Try.underlying4 _), (trodAll_cons_mk (Below.trod laidOut (by kernel_rfl) (of_decide_eq_true (by kernel_rfl)) k0 bel lt0) trodAll_mk0), rfl, bel.frame _, fun h => by cases h⟩

theorem closed : joinedFacts Try.checked.prog 3 Try.f3 Rows.fnCodeBeginsSpec Rows.fnCodeBeginsRow = true := by
  unfold joinedFacts
  simp only [Bool.and_eq_true]
  repeat' (refine And.intro ?_ ?_)
  all_goals first
    | with_reducible exact may_enter
    | (rw [lifts_final]; kernel_rfl)
    | (rw [make_is]; kernel_rfl)
    | kernel_rfl

theorem over : Rows.fnCodeBeginsRow.holds Try.pinned (OpenSpec.ofChange Rows.fnCodeBeginsSpec) :=
  OpenClaim.holds_of_wide 3 Try.f3 rfl rfl rfl rfl rfl rfl rfl ⟨rfl, rfl, rfl, rfl, rfl⟩ rfl rfl rfl rfl rfl (by kernel_rfl) Try.func3 closed
    (of_decide_eq_true (by kernel_rfl)) (by unfold Func.isWrapper; first | (rw [if_pos (by decide +kernel)]; kernel_rfl) | (rw [if_neg (by decide +kernel)]; exact ⟨rfl, rfl⟩))
    (fun os started H enc _ => lifted os started H enc)

theorem proved : Rows.FnCodeBeginsSaid := over
#print axioms proved
end Go.Proofs.Ytoebgdcgcdigaaa.fnCodeBegins
