/-
  For every input the law 'FnBlockRepairDrop' returns true, and each of its arguments reads behind the call as it read before. Conditions: none beyond those of the row.
-/
import Derived.Test.YtbpifchlmmdnaaaRows
import Derived.WalkKit
import Derived.ProofKit
import Derived.OpenShut
import Derived.ShutString
import Derived.ChangeOld
import Derived.Below
import Derived.Deep.Matrix
import Derived.Test.YtbpifchlmmdnaaaIo
import Derived.Test.YtbpifchlmmdnaaaDropP
import Derived.Test.YtbpifchlmmdnaaaSameL
import Derived.Test.YtbpifchlmmdnaaaDrawF
import Derived.Test.YtbpifchlmmdnaaaRepI
import Derived.Test.YtbpifchlmmdnaaaLawC
import Derived.Deep.RegionWith
import Derived.Deep.DeepCutAuto
namespace Go.Proofs.Ytbpifchlmmdnaaa
open Go.RowKit

open Go.Sort

theorem str_beq (s t : ByteArray) : (s.toList == t.toList) = decide (s = t) := by
  by_cases h : s = t
  · subst h; simp
  · rw [str_ne h, decide_eq_false h]

set_option maxRecDepth 100000 in
set_option maxHeartbeats 8000000 in
theorem walk_FnBlockRepairDrop (a0 : Option Addr) (len0 cap0 : Nat) (z0 : List Int) (a1 : Option Addr) (len1 cap1 : Nat) (z1 : List Int) (w : World) (w0 : IsRowK .u8 w a0 len0 cap0 z0) (w1 : IsRowK .u8 w a1 len1 cap1 z1) :
    Calls Try.prog 15 #[.slice a0 len0 cap0, .slice a1 len1 cap1] w fun e w' => e = .returned (.bool true) ∧ Below w.heap.size w w' := by
  have _ := w1
  rcases Nat.lt_or_ge 1048576 len0 with hbig | hsm
  · have hb : (1048576 : Int) < (len0 : Int) := by omega
    go_enter Try.func15, Try.ntmps15
    go_wp2_with fail
    go_ret
    exact ⟨rfl, Below.refl _ _⟩
  have hb : (len0 : Int) ≤ 1048576 := by omega
  rcases Nat.lt_or_ge 1048576 len1 with hbig1 | hsm1
  · have hb1 : (1048576 : Int) < (len1 : Int) := by omega
    go_enter Try.func15, Try.ntmps15
    go_wp2_with fail
    go_ret
    exact ⟨rfl, Below.refl _ _⟩
  have hb1 : (len1 : Int) ≤ 1048576 := by omega
  go_enter Try.func15, Try.ntmps15
  go_wp2_with (go_at_call 50; refine (drawDrop w0 hsm).mono ?_)
  rintro e w2 ⟨S, rfl, hS, b1⟩
  clear w0 w1 hb hb1
  have IM := Lib.hid (implDrop S (by omega))
  have SP := Lib.hid (specDrop S (by omega))
  obtain ⟨L, hL⟩ : ∃ L, L = dropL S := ⟨_, rfl⟩
  have hlen : L.length ≤ 30 := by rw [hL]; exact dropL_length S
  have MEM := Lib.hid (fun (x : Int) (h : x ∈ L) => dropL_mem (hL ▸ h : x ∈ dropL S))
  rw [← hL] at IM SP
  clear hL
  go_wp2_with (go_at_call 42; refine (IM.out _).mono ?_)
  rintro e w3 ⟨v1, rfl, o1, b2⟩
  obtain ⟨a1, c1, rfl⟩ := own_slice2 o1
  have O1 := Lib.hid o1
  clear o1
  go_wp2_with (go_at_call 41; refine (SP.out _).mono ?_)
  rintro e w4 ⟨v2, rfl, o2, b3⟩
  obtain ⟨a2, c2, rfl⟩ := own_slice2 o2
  have O1 := Lib.hid (O1.out.below b3)
  have O2 := Lib.hid o2
  have B3 := Lib.hid (chain b1 (chain b2 b3))
  clear o2 b1 b2 b3
  have SI := Lib.hid (fun (X : World) (b : Below w4.heap.size w4 X) => (sameInts ((O1.out.below b).ints (by omega)) ((O2.out.below b).ints (by omega))).mono fun e w' ⟨he, hb⟩ => (⟨by rw [he, decide_eq_true rfl], hb⟩ : e = Ending.returned (.bool true) ∧ Below X.heap.size X w'))
  by_cases hz : L.length = 0
  · have hz1 : ((L.length : Int) == 0) = true := by rw [hz]; rfl
    have HZ := Lib.hid hz
    clear hz
    go_wp2_with (go_at_call 51; refine (SI.out _ (Below.refl _ _)).mono ?_)
    rintro e w5 ⟨rfl, b4⟩
    go_wp2_with (go_at_call 51; refine (SI.out _ b4).mono ?_)
    rintro e w6 ⟨rfl, b5⟩
    go_wp2_with fail
    go_ret
    exact ⟨rfl, chain B3.out (chain b4 b5)⟩
  have hz1 : ((L.length : Int) == 0) = false := by simpa using hz
  have hz2 : (L.length : Int) ≠ 0 := by omega
  go_wp2_with (go_at_call 51; refine (SI.out _ (Below.refl _ _)).mono ?_)
  rintro e w5 ⟨rfl, b4⟩
  obtain ⟨a, cap, e0, hcap, hc⟩ := ((O1.out.below b4).ints (by omega))
  have B4 := Lib.hid (chain B3.out b4)
  rcases hc with rfl | ⟨g, o, rfl, hg, hcell⟩
  · exact absurd rfl hz
  simp only [Value.slice.injEq, true_and] at e0
  obtain ⟨rfl, rfl⟩ := e0
  obtain ⟨m, hm⟩ : ∃ m : Nat, m = len1 % L.length := ⟨_, rfl⟩
  have hml : m < L.length := by rw [hm]; exact Nat.mod_lt _ (by omega)
  have hrem : ((len1 : Int).tmod (L.length : Int)) = (m : Int) := by rw [hm]; rfl
  obtain ⟨x, hx⟩ : ∃ x, x = L.getD m 0 := ⟨_, rfl⟩
  have hxm : x ∈ L := by rw [hx, List.getD_eq_getElem?_getD, List.getElem?_eq_getElem hml]; exact List.getElem_mem hml
  have hc1 : w5.cell? ⟨g, o + m, none⟩ = some (.int .i64 x) := by rw [hx]; exact hcell m hml
  obtain ⟨hS30, i, hi, rfl, hleg⟩ := MEM.out x hxm
  have hmi : (m : Int) < (L.length : Int) := by omega
  obtain ⟨A, hA⟩ : ∃ A, A = S.extract 0 i := ⟨_, rfl⟩
  obtain ⟨B, hB⟩ : ∃ B, B = S.extract (i + 1) S.size := ⟨_, rfl⟩
  obtain ⟨C, hC⟩ : ∃ C, C = A ++ B := ⟨_, rfl⟩
  have hCd : C = dropAt S i := by rw [hC, hA, hB]; rfl
  have hAs : A.size ≤ 30 := by rw [hA, ByteArray.size_extract]; omega
  have hBs : B.size ≤ 30 := by rw [hB, ByteArray.size_extract]; omega
  have hCs : C.size ≤ 60 := by rw [hC, ByteArray.size_append]; omega
  have p1 := part_to (S := S) (k := i) (by omega)
  have p2 : ∀ w, (Instr.slice 9 (.string S) (some (.int .i64 ((i : Int) + 1))) none none).run Try.prog w = .ok (.string B) w := by
    intro w
    have := part_from (S := S) (k := i + 1) (by omega) w
    rw [hB]
    exact this
  have p4 : ∀ w, (Op.stringOp .add A B).run Try.prog w = .ok (.string (A ++ B)) w := fun w => run_string_add_sum (P := Try.prog) w A B (by omega)
  rw [← hA] at p1
  rw [← hC] at p4
  have hw1 : IntKind.i64.wrap ((i : Int) + 1) = (i : Int) + 1 := IntWalk.i64_in _ (by omega)
  have HCL := Lib.hid (show bkLegal C = true by rw [hCd]; exact hleg)
  have PB := Lib.hid (fun (h : bkLegal S = true) => (hCd ▸ put_back h hS30 hi : S ∈ repL C))
  clear hx hxm hcell b4 hm hA hB hC hCd hAs hBs hleg hz SI
  go_wp2_with fail
  refine wp_region_quiet_below (by kernel_rfl) (by kernel_rfl) ?_
  repeat (go_big_quiet_step (fail))
  refine wpQuiet_nil ?_
  intro _ hw'
  obtain ⟨⟨dq, osq⟩, hw''⟩ := hw'
  subst hw''
  have br := below_regrown w5 dq osq
  obtain ⟨wz, hwz⟩ : ∃ X, X = grow (redrawn w5 dq) osq := ⟨_, rfl⟩
  rw [← hwz] at br ⊢
  have BZ := Lib.hid (chain B4.out br)
  clear br hwz p1 p2 p4 hw1 hc1 hrem hmi hz1 hz2
  have IR := Lib.hid (implRepair C (by omega))
  obtain ⟨R, hR⟩ : ∃ R, R = repL C := ⟨_, rfl⟩
  have hRl : R.length ≤ 210 := by rw [hR]; exact repL_length C
  rw [← hR] at IR PB
  clear hR
  go_wp2_with (go_at_call 37; refine (IR.out _).mono ?_)
  rintro e w6 ⟨v6, rfl, o6, b6⟩
  obtain ⟨a, cap, rfl, hcap, hc⟩ := o6.cells
  have B6 := Lib.hid (chain BZ.out b6)
  clear o6 b6
  have LC := Lib.hid (implLegal C (by omega))
  rw [HCL.out] at LC
  have LS := Lib.hid (implLegal S (by omega))
  obtain ⟨t, ht⟩ : ∃ t, t = bkLegal S := ⟨_, rfl⟩
  rw [← ht] at LS PB
  have HT := Lib.hid ht
  clear ht
  have loop : (t = false ∨ fndIn R S R.length = true) := by
    cases t
    · exact .inl rfl
    · exact .inr (fndIn_yes (PB.out rfl))
  have LP := Lib.hid loop
  clear loop
  go_wp2_with fail
  go_loopw [11, 12] (fun f i wr => ∃ k : Nat, k ≤ R.length ∧ i = .int .i64 k ∧ f = .bool (fndIn R S k) ∧ w6 = wr) (fun _ i _ => R.length - (intOf i).toNat)
  case atStart => exact ⟨0, by omega, rfl, rfl, rfl⟩
  case round =>
    obtain ⟨k, hk, rfl, rfl, rfl⟩ := hrel
    obtain ⟨f, hf⟩ : ∃ f, f = fndIn R S k := ⟨_, rfl⟩
    rw [← hf]
    have HF := Lib.hid hf
    clear hf
    by_cases hlt : k < R.length
    · have hki : (k : Int) < (R.length : Int) := by omega
      rcases hc with rfl | ⟨g', rfl, -, hg', hcell⟩
      · exact absurd hlt (by simp)
      obtain ⟨X, hX⟩ : ∃ X, X = R.getD k ⟨#[]⟩ := ⟨_, rfl⟩
      have hx1 : w6.cell? ⟨g', k, none⟩ = some (.string X) := by rw [hX]; exact hcell k hlt
      have hx2 : w6.cell? ⟨g', 0 + k, none⟩ = some (.string X) := by rw [Nat.zero_add]; exact hx1
      obtain ⟨q, hq⟩ : ∃ q, q = decide (X = S) := ⟨_, rfl⟩
      have he : (X.toList == S.toList) = q := by rw [str_beq, hq]
      have FN := Lib.hid (show fndIn R S (k + 1) = (f || q) by simp only [fndIn]; rw [← HF.out, ← hX, ← hq])
      clear hX hq hcell
      cases f
      · go_wp2_with fail
        go_roundw
        case rel => exact ⟨k + 1, by omega, by go_num, by rw [FN.out]; rfl, trivial⟩
        case measure => simp [intOf]; omega
      · go_wp2_with fail
        go_roundw
        case rel => exact ⟨k + 1, by omega, by go_num, by rw [FN.out]; rfl, trivial⟩
        case measure => simp [intOf]; omega
    · obtain rfl : k = R.length := by omega
      cases t
      · go_wp2_with (first | (go_at_call_of 29 (Value.string C); refine (LC.out _).mono ?_; rintro e w7 ⟨rfl, b7⟩) | (go_at_call_of 29 (Value.string S); refine (LS.out _).mono ?_; rintro e w8 ⟨rfl, b8⟩))
        go_ret
        exact ⟨rfl, chain B6.out (chain b7 b8)⟩
      · have e : f = true := by
          rcases LP.out with h | h
          · cases h
          · rw [HF.out]; exact h
        subst e
        go_wp2_with (first | (go_at_call_of 29 (Value.string C); refine (LC.out _).mono ?_; rintro e w7 ⟨rfl, b7⟩) | (go_at_call_of 29 (Value.string S); refine (LS.out _).mono ?_; rintro e w8 ⟨rfl, b8⟩))
        go_ret
        exact ⟨rfl, chain B6.out (chain b7 b8)⟩

end Go.Proofs.Ytbpifchlmmdnaaa

namespace Go.Proofs.Ytbpifchlmmdnaaa.fnBlockRepairDrop
open Go.ChangeShapes Go.WideShapes Go.ChangeAt Go.RowKit
open Go.ChangeMaps (open_string shut_string)
set_option linter.unusedVariables false

theorem own : ownKnob Try.prog.godebug = none := by kernel_rfl
theorem laidOut : laidOutB Try.prog = true := by kernel_rfl

set_option maxRecDepth 100000 in
theorem lifted (os : Os) (started : os.Started) (H : Type) (enc : TypeId × Value → H) :
    ReturnsInHanded {} Try.checked os 15 .any (Rows.fnBlockRepairDropSpec.pre6 enc Try.prog Try.f15 Rows.fnBlockRepairDropRow.domain false) (Rows.fnBlockRepairDropSpec.post enc Try.prog Try.f15 false true false false) := by
  refine returnsInHanded_of_change (C := Try.checked) own started (by kernel_rfl) Try.func15
    (ChangeSpec.witness6 (enc := enc) (C := Try.checked) false ⟨#[], #[.slice none 0 0, .slice none 0 0], []⟩ 8 (by kernel_rfl) (by kernel_rfl) (by kernel_rfl) (by kernel_rfl)) ?_
  intro W base args ds gs before hval0 hW hcnd _
  have hval : ∀ (j : Nat) t v, Try.f15.params[j]? = some t → args[j]? = some v → Value.okWide Try.prog W .any base t v := hval0
  have hW' := hW
  obtain ⟨p, q, hA0, hV, rfl, hfz, hnd⟩ := hW
  have hA : DataW.TrodAll enc Try.prog W 0 (fun _ => true) true Try.f15.params.toList args.toList ds p := hA0
  rw [Try.params15] at hA hval
  obtain ⟨v0, vs0, d0, ds0, p0, q0, hargs, rfl, rfl, h0, r0⟩ := trodAll_cons hA
  obtain ⟨v1, vs1, d1, ds1, p1, q1, rfl, rfl, rfl, h1, r1⟩ := trodAll_cons r0
  obtain ⟨rfl, rfl, rfl⟩ := trodAll_nil r1
  obtain rfl : args = #[v0, v1] := by cases args; simp_all
  obtain ⟨rfl, rfl⟩ := trodVars_none hV
  obtain ⟨a0, len0, cap0, rfl⟩ := okWide_slice Try.underlying48 (hval 0 48 v0 rfl rfl)
  have k0 := h0
  have lt0 : ∀ x ∈ p0, x.block < W.heap.size := by obtain ⟨m, hm⟩ := k0; exact DataW.trod_lt m _ _ _ hm
  obtain ⟨z0, w0⟩ : ∃ zs, IsRowK .u8 W a0 len0 cap0 zs := by
    obtain ⟨fuel, hf⟩ := h0
    rcases open_ints Try.underlying48 Try.underlying5 (by kernel_rfl) hf with ⟨hcs, _⟩ | ⟨x, l, c, zs, hcs, _, hl, hm, hz, _, hcell, hwz⟩
    · simp [Value.cells] at hcs
      obtain ⟨rfl, rfl, rfl⟩ := hcs
      exact ⟨[], .inl ⟨rfl, rfl, rfl, rfl⟩⟩
    · simp [Value.cells] at hcs
      obtain ⟨rfl, rfl, rfl⟩ := hcs
      exact ⟨zs, .inr ⟨_, rfl, hl, hm, by simpa using hz, hcell, hwz⟩⟩
  obtain ⟨a1, len1, cap1, rfl⟩ := okWide_slice Try.underlying48 (hval 1 48 v1 rfl rfl)
  have k1 := h1
  have lt1 : ∀ x ∈ p1, x.block < W.heap.size := by obtain ⟨m, hm⟩ := k1; exact DataW.trod_lt m _ _ _ hm
  obtain ⟨z1, w1⟩ : ∃ zs, IsRowK .u8 W a1 len1 cap1 zs := by
    obtain ⟨fuel, hf⟩ := h1
    rcases open_ints Try.underlying48 Try.underlying5 (by kernel_rfl) hf with ⟨hcs, _⟩ | ⟨x, l, c, zs, hcs, _, hl, hm, hz, _, hcell, hwz⟩
    · simp [Value.cells] at hcs
      obtain ⟨rfl, rfl, rfl⟩ := hcs
      exact ⟨[], .inl ⟨rfl, rfl, rfl, rfl⟩⟩
    · simp [Value.cells] at hcs
      obtain ⟨rfl, rfl, rfl⟩ := hcs
      exact ⟨zs, .inr ⟨_, rfl, hl, hm, by simpa using hz, hcell, hwz⟩⟩
  clear hA0 hval0
  refine (walk_FnBlockRepairDrop a0 len0 cap0 z0 a1 len1 cap1 z1 W w0 w1).mono fun e W' ⟨he, bel⟩ => ?_
  subst he
  exact ⟨_, rfl, _, _, _, [], _, [], hW', trodAll_mk1 (shut_bool Try.underlying4 _), (trodAll_cons_mk (Below.trod laidOut (by kernel_rfl) (of_decide_eq_true (by kernel_rfl)) k0 bel lt0) (trodAll_cons_mk (Below.trod laidOut (by kernel_rfl) (of_decide_eq_true (by kernel_rfl)) k1 bel lt1) trodAll_mk0)), rfl, bel.frame _, fun h => by cases h⟩

theorem closed : joinedFacts Try.checked.prog 15 Try.f15 Rows.fnBlockRepairDropSpec Rows.fnBlockRepairDropRow = true := by
  unfold joinedFacts
  simp only [Bool.and_eq_true]
  repeat' (refine And.intro ?_ ?_)
  all_goals first
    | with_reducible exact may_enter
    | (rw [lifts_final]; kernel_rfl)
    | (rw [make_is]; kernel_rfl)
    | kernel_rfl

theorem over : Rows.fnBlockRepairDropRow.holds Try.pinned (OpenSpec.ofChange Rows.fnBlockRepairDropSpec) :=
  OpenClaim.holds_of_wide 15 Try.f15 rfl rfl rfl rfl rfl rfl rfl ⟨rfl, rfl, rfl, rfl, rfl⟩ rfl rfl rfl rfl rfl (by kernel_rfl) Try.func15 closed
    (of_decide_eq_true (by kernel_rfl)) (by unfold Func.isWrapper; first | (rw [if_pos (by decide +kernel)]; kernel_rfl) | (rw [if_neg (by decide +kernel)]; exact ⟨rfl, rfl⟩))
    (fun os started H enc _ => lifted os started H enc)

theorem proved : Rows.FnBlockRepairDropSaid := over
#print axioms proved
end Go.Proofs.Ytbpifchlmmdnaaa.fnBlockRepairDrop
