/-
  For every input the law 'FnBlockRepair' returns true, and each of its arguments reads behind the call as it read before. Conditions: none beyond those of the row.
-/
import Derived.Test.YtbpifchlmmdnaaaRows
import Derived.WalkKit
import Derived.ProofKit
import Derived.OpenShut
import Derived.ShutString
import Derived.ChangeOld
import Derived.Below
import Derived.Deep.Matrix
import Derived.Test.YtbpifchlmmdnaaaIo
import Derived.Test.YtbpifchlmmdnaaaStrs2
import Derived.Test.YtbpifchlmmdnaaaDrawF
import Derived.Test.YtbpifchlmmdnaaaRepI
import Derived.Test.YtbpifchlmmdnaaaLawC
namespace Go.Proofs.Ytbpifchlmmdnaaa
open Go.RowKit

open Go.Sort

theorem str_beq (s t : ByteArray) : (s.toList == t.toList) = decide (s = t) := by
  by_cases h : s = t
  · subst h; simp
  · rw [str_ne h, decide_eq_false h]
/-- Has a byte been left out so that it is the text? -/
def fnd (X S : ByteArray) : Nat → Bool
  | 0 => false
  | k + 1 => fnd X S k || decide (dropAt X k = S)
theorem fnd_yes {X S : ByteArray} {p : Nat} (h : dropAt X p = S) : ∀ k, p < k → fnd X S k = true := by
  intro k
  induction k with
  | zero => intro q; omega
  | succ k ih =>
    intro q
    simp only [fnd]
    by_cases e : p = k
    · subst e; rw [h, decide_eq_true rfl, Bool.or_true]
    · rw [ih (by omega)]; rfl

set_option maxRecDepth 100000 in
set_option maxHeartbeats 8000000 in
theorem walk_FnBlockRepair (a0 : Option Addr) (len0 cap0 : Nat) (z0 : List Int) (w : World) (w0 : IsRowK .u8 w a0 len0 cap0 z0) :
    Calls Try.prog 14 #[.slice a0 len0 cap0] w fun e w' => e = .returned (.bool true) ∧ Below w.heap.size w w' := by
  rcases Nat.lt_or_ge 1048576 len0 with hbig | hsm
  · have hb : (1048576 : Int) < (len0 : Int) := by omega
    go_enter Try.func14, Try.ntmps14
    go_wp2_with fail
    go_ret
    exact ⟨rfl, Below.refl _ _⟩
  have hb : (len0 : Int) ≤ 1048576 := by omega
  go_enter Try.func14, Try.ntmps14
  go_wp2_with (go_at_call 48; refine (drawRepair w0 hsm).mono ?_)
  rintro e w1 ⟨S, rfl, hS, b1⟩
  clear w0 hb
  have IM := Lib.hid (implRepair S (by omega))
  have SP := Lib.hid (specRepair S (by omega))
  obtain ⟨L, hL⟩ : ∃ L, L = repL S := ⟨_, rfl⟩
  have hlen : L.length ≤ 210 := by rw [hL]; exact repL_length S
  have MEM := Lib.hid (fun (X : ByteArray) (h : X ∈ L) => repL_mem (hL ▸ h : X ∈ repL S))
  have ND := Lib.hid (hL ▸ repL_nodup S : L.Pairwise (fun a b => a ≠ b))
  rw [← hL] at IM SP
  clear hL
  go_wp2_with (go_at_call 37; refine (IM.out _).mono ?_)
  rintro e w2 ⟨v1, rfl, o1, b2⟩
  obtain ⟨a1, c1, rfl⟩ := own_slice2 o1
  have O1 := Lib.hid o1
  clear o1
  go_wp2_with (go_at_call 36; refine (SP.out _).mono ?_)
  rintro e w3 ⟨v2, rfl, o2, b3⟩
  obtain ⟨a2, c2, rfl⟩ := own_slice2 o2
  have O1 := Lib.hid (O1.out.below b3)
  have O2 := Lib.hid o2
  have B3 := Lib.hid (chain b1 (chain b2 b3))
  clear o2 b1 b2 b3
  by_cases hz : L.length = 0
  · have hz1 : ((L.length : Int) == 0) = true := by rw [hz]; rfl
    have HZ := Lib.hid hz
    clear hz
    go_wp2_with (go_at_call 49; refine (sameTexts O1.out O2.out (by omega)).mono ?_)
    rintro e w4 ⟨rfl, b4⟩
    have O1 := Lib.hid (O1.out.below b4)
    have O2 := Lib.hid (O2.out.below b4)
    go_wp2_with (go_at_call 49; refine (sameTexts O1.out O2.out (by omega)).mono ?_)
    rintro e w5 ⟨rfl, b5⟩
    go_wp2_with fail
    go_ret
    exact ⟨rfl, chain B3.out (chain b4 b5)⟩
  have hz1 : ((L.length : Int) == 0) = false := by simpa using hz
  go_wp2_with (go_at_call 49; refine (sameTexts O1.out O2.out (by omega)).mono ?_)
  rintro e w4 ⟨rfl, b4⟩
  obtain ⟨a, cap, e0, hcap, hc⟩ := (O1.out.below b4).cells
  have B4 := Lib.hid (chain B3.out b4)
  rcases hc with rfl | ⟨g, rfl, hgb, hg, hcell⟩
  · exact absurd rfl hz
  simp only [Value.slice.injEq, true_and] at e0
  obtain ⟨rfl, rfl⟩ := e0
  have HC := Lib.hid hcell
  clear hz hcell b4 hgb
  go_wp2_with fail
  go_loopw [6] (fun i wr => ∃ n : Nat, n ≤ L.length ∧ i = .int .i64 n ∧ Below w4.heap.size w4 wr) (fun i _ => L.length - (intOf i).toNat)
  case atStart => exact ⟨0, by omega, rfl, Below.refl _ _⟩
  case round =>
    obtain ⟨n, hn, rfl, hbel⟩ := hrel
    obtain ⟨wo, rfl⟩ : ∃ X, X = wr := ⟨_, rfl⟩
    have BO := Lib.hid hbel
    clear hbel
    by_cases hlt : n < L.length
    · have hni : (n : Int) < (L.length : Int) := by omega
      obtain ⟨X, hX⟩ : ∃ X, X = L.getD n ⟨#[]⟩ := ⟨_, rfl⟩
      have hXm : X ∈ L := by rw [hX, List.getD_eq_getElem?_getD, List.getElem?_eq_getElem hlt]; exact List.getElem_mem hlt
      obtain ⟨hleg, hXs, p, hp, hdr⟩ := MEM.out X hXm
      have FY := Lib.hid (fnd_yes hdr _ hp)
      have HLEG := Lib.hid hleg
      have HX := Lib.hid (fun (wz : World) (b : Below w4.heap.size w4 wz) => (show wz.cell? ⟨g, n, none⟩ = some (.string X) by rw [hX]; exact (b.cell (p := ⟨g, n, none⟩) hg).trans (HC.out n hlt)))
      have HNE := Lib.hid (fun (k : Nat) (hk : k < n) => (show L.getD k ⟨#[]⟩ ≠ X by
        have := List.pairwise_iff_getElem.1 ND.out k n (by omega) hlt hk
        rw [hX, List.getD_eq_getElem?_getD, List.getD_eq_getElem?_getD, List.getElem?_eq_getElem hlt, List.getElem?_eq_getElem (by omega)]
        exact this))
      clear hX hXm hleg hdr hp
      go_wp2_with fail
      go_loopw [7, 8] (fun f i wr => ∃ k : Nat, k ≤ X.size ∧ i = .int .i64 k ∧ f = .bool (fnd X S k) ∧ Below w4.heap.size w4 wr) (fun _ i _ => X.size - (intOf i).toNat)
      case atStart => exact ⟨0, by omega, rfl, rfl, BO.out⟩
      case round =>
        obtain ⟨k, hk, rfl, rfl, hbel⟩ := hrel
        have hx1 := HX.out wr hbel
        have hx2 : wr.cell? ⟨g, 0 + n, none⟩ = some (.string X) := by rw [Nat.zero_add]; exact hx1
        have hsz := hbel.size
        by_cases hlt2 : k < X.size
        · have hki : (k : Int) < (X.size : Int) := by omega
          obtain ⟨f, hf⟩ : ∃ f, f = fnd X S k := ⟨_, rfl⟩
          rw [← hf]
          have HF := Lib.hid hf
          clear hf
          have d1 := fun d os => cell_regrown hx1 d os
          cases f
          · obtain ⟨A, hA⟩ : ∃ A, A = X.extract 0 k := ⟨_, rfl⟩
            obtain ⟨B, hB⟩ : ∃ B, B = X.extract (k + 1) X.size := ⟨_, rfl⟩
            obtain ⟨C, hC⟩ : ∃ C, C = A ++ B := ⟨_, rfl⟩
            have hCd : C = dropAt X k := by rw [hC, hA, hB]; rfl
            have hAs : A.size ≤ 61 := by rw [hA, ByteArray.size_extract]; omega
            have hBs : B.size ≤ 61 := by rw [hB, ByteArray.size_extract]; omega
            have p1 := part_to (S := X) (k := k) (by omega)
            have p2 : ∀ w, (Instr.slice 9 (.string X) (some (.int .i64 ((k : Int) + 1))) none none).run Try.prog w = .ok (.string B) w := by
              intro w
              have := part_from (S := X) (k := k + 1) (by omega) w
              rw [hB]
              exact this
            have p4 : ∀ w, (Op.stringOp .add A B).run Try.prog w = .ok (.string (A ++ B)) w := fun w => run_string_add_sum (P := Try.prog) w A B (by omega)
            rw [← hA] at p1
            rw [← hC] at p4
            have hw1 : IntKind.i64.wrap ((k : Int) + 1) = (k : Int) + 1 := IntWalk.i64_in _ (by omega)
            obtain ⟨t, ht⟩ : ∃ t, t = decide (C = S) := ⟨_, rfl⟩
            have he : (C.toList == S.toList) = t := by rw [str_beq, ht]
            have FN := Lib.hid (show fnd X S (k + 1) = t by simp only [fnd]; rw [← HF.out, ht, hCd, Bool.false_or])
            clear hA hB hC hCd ht hAs hBs
            go_wp2_with fail
            refine wp_region_quiet_below (by kernel_rfl) (by kernel_rfl) ?_
            repeat (go_big_quiet_step (fail))
            refine wpQuiet_nil ?_
            intro _ hw'
            obtain ⟨⟨dq, osq⟩, hw''⟩ := hw'
            subst hw''
            have BR := (below_regrown wr dq osq).mono hsz
            go_wp2_with fail
            go_roundw
            case rel => exact ⟨k + 1, by omega, by go_num, by rw [FN.out], hbel.trans BR⟩
            case measure => simp [intOf]; omega
          · have FN := Lib.hid (show fnd X S (k + 1) = true by simp only [fnd]; rw [← HF.out, Bool.true_or])
            go_wp2_with fail
            refine wp_region_quiet_below (by kernel_rfl) (by kernel_rfl) ?_
            repeat (go_big_quiet_step (fail))
            refine wpQuiet_nil ?_
            intro _ hw'
            obtain ⟨⟨dq, osq⟩, hw''⟩ := hw'
            subst hw''
            have BR := (below_regrown wr dq osq).mono hsz
            go_wp2_with fail
            go_roundw
            case rel => exact ⟨k + 1, by omega, by go_num, by rw [FN.out], hbel.trans BR⟩
            case measure => simp [intOf]; omega
        · obtain rfl : k = X.size := by omega
          rw [FY.out]
          obtain ⟨wp, rfl⟩ : ∃ X, X = wr := ⟨_, rfl⟩
          have BP := Lib.hid hbel
          clear hbel
          go_wp2_with fail
          go_loopw [7, 9] (fun f i wr => ∃ k : Nat, k ≤ n ∧ i = .int .i64 k ∧ f = .bool true ∧ Below w4.heap.size w4 wr) (fun _ i _ => n - (intOf i).toNat)
          case atStart => exact ⟨0, by omega, rfl, rfl, BP.out⟩
          case round =>
            obtain ⟨k, hk, rfl, rfl, hbel⟩ := hrel
            have hy1 := HX.out wr hbel
            have hy2 : wr.cell? ⟨g, 0 + n, none⟩ = some (.string X) := by rw [Nat.zero_add]; exact hy1
            have hsz := hbel.size
            clear hx1 hx2
            by_cases hlt3 : k < n
            · have hki : (k : Int) < (n : Int) := by omega
              have hkl : k < L.length := by omega
              have hkli : (k : Int) < (L.length : Int) := by omega
              obtain ⟨Y, hY⟩ : ∃ Y, Y = L.getD k ⟨#[]⟩ := ⟨_, rfl⟩
              have he : (Y.toList == X.toList) = false := str_ne (by rw [hY]; exact HNE.out k hlt3)
              have hz1 : wr.cell? ⟨g, k, none⟩ = some (.string Y) := by rw [hY]; exact (hbel.cell (p := ⟨g, k, none⟩) hg).trans (HC.out k hkl)
              have d1 := fun d os => cell_regrown hy1 d os
              have d2 := fun d os => cell_regrown hz1 d os
              clear hY hz1 hy1 hy2
              go_wp2_with fail
              refine wp_region_quiet_below (by kernel_rfl) (by kernel_rfl) ?_
              repeat (go_big_quiet_step (fail))
              refine wpQuiet_nil ?_
              intro _ hw'
              obtain ⟨⟨dq, osq⟩, hw''⟩ := hw'
              subst hw''
              have BR := (below_regrown wr dq osq).mono hsz
              go_wp2_with fail
              go_roundw
              case rel => exact ⟨k + 1, by omega, by go_num, rfl, hbel.trans BR⟩
              case measure => simp [intOf]; omega
            · obtain rfl : k = n := by omega
              have LG := Lib.hid (implLegal X (by omega))
              rw [HLEG.out] at LG
              go_wp2_with (go_at_call 29; refine (LG.out _).mono ?_)
              rintro e w6 ⟨rfl, b6⟩
              have b7 := hbel.trans (b6.mono hsz)
              go_wp2_with fail
              go_roundw
              case rel => exact ⟨k + 1, by omega, by go_num, b7⟩
              case measure => simp [intOf]; omega
    · obtain rfl : n = L.length := by omega
      go_wp2_with fail
      go_ret
      exact ⟨rfl, chain B4.out BO.out⟩

end Go.Proofs.Ytbpifchlmmdnaaa

namespace Go.Proofs.Ytbpifchlmmdnaaa.fnBlockRepair
open Go.ChangeShapes Go.WideShapes Go.ChangeAt Go.RowKit
open Go.ChangeMaps (open_string shut_string)
set_option linter.unusedVariables false

theorem own : ownKnob Try.prog.godebug = none := by kernel_rfl
theorem laidOut : laidOutB Try.prog = true := by kernel_rfl

set_option maxRecDepth 100000 in
theorem lifted (os : Os) (started : os.Started) (H : Type) (enc : TypeId × Value → H) :
    ReturnsInHanded {} Try.checked os 14 .any (Rows.fnBlockRepairSpec.pre6 enc Try.prog Try.f14 Rows.fnBlockRepairRow.domain false) (Rows.fnBlockRepairSpec.post enc Try.prog Try.f14 false true false false) := by
  refine returnsInHanded_of_change (C := Try.checked) own started (by kernel_rfl) Try.func14
    (ChangeSpec.witness6 (enc := enc) (C := Try.checked) false ⟨#[], #[.slice none 0 0], []⟩ 8 (by kernel_rfl) (by kernel_rfl) (by kernel_rfl) (by kernel_rfl)) ?_
  intro W base args ds gs before hval0 hW hcnd _
  have hval : ∀ (j : Nat) t v, Try.f14.params[j]? = some t → args[j]? = some v → Value.okWide Try.prog W .any base t v := hval0
  have hW' := hW
  obtain ⟨p, q, hA0, hV, rfl, hfz, hnd⟩ := hW
  have hA : DataW.TrodAll enc Try.prog W 0 (fun _ => true) true Try.f14.params.toList args.toList ds p := hA0
  rw [Try.params14] at hA hval
  obtain ⟨v0, vs0, d0, ds0, p0, q0, hargs, rfl, rfl, h0, r0⟩ := trodAll_cons hA
  obtain ⟨rfl, rfl, rfl⟩ := trodAll_nil r0
  obtain rfl : args = #[v0] := by cases args; simp_all
  obtain ⟨rfl, rfl⟩ := trodVars_none hV
  obtain ⟨a0, len0, cap0, rfl⟩ := okWide_slice Try.underlying48 (hval 0 48 v0 rfl rfl)
  have k0 := h0
  have lt0 : ∀ x ∈ p0, x.block < W.heap.size := by obtain ⟨m, hm⟩ := k0; exact DataW.trod_lt m _ _ _ hm
  obtain ⟨z0, w0⟩ : ∃ zs, IsRowK .u8 W a0 len0 cap0 zs := by
    obtain ⟨fuel, hf⟩ := h0
    rcases open_ints Try.underlying48 Try.underlying5 (by kernel_rfl) hf with ⟨hcs, _⟩ | ⟨x, l, c, zs, hcs, _, hl, hm, hz, _, hcell, hwz⟩
    · simp [Value.cells] at hcs
      obtain ⟨rfl, rfl, rfl⟩ := hcs
      exact ⟨[], .inl ⟨rfl, rfl, rfl, rfl⟩⟩
    · simp [Value.cells] at hcs
      obtain ⟨rfl, rfl, rfl⟩ := hcs
      exact ⟨zs, .inr ⟨_, rfl, hl, hm, by simpa using hz, hcell, hwz⟩⟩
  clear hA0 hval0
  refine (walk_FnBlockRepair a0 len0 cap0 z0 W w0).mono fun e W' ⟨he, bel⟩ => ?_
  subst he
  exact ⟨_, rfl, _, _, _, [], _, [], hW', trodAll_mk1 (shut_bool Try.underlying4 _), (trodAll_cons_mk (Below.trod laidOut (by kernel_rfl) (of_decide_eq_true (by kernel_rfl)) k0 bel lt0) trodAll_mk0), rfl, bel.frame _, fun h => by cases h⟩

theorem closed : joinedFacts Try.checked.prog 14 Try.f14 Rows.fnBlockRepairSpec Rows.fnBlockRepairRow = true := by
  unfold joinedFacts
  simp only [Bool.and_eq_true]
  repeat' (refine And.intro ?_ ?_)
  all_goals first
    | with_reducible exact may_enter
    | (rw [lifts_final]; kernel_rfl)
    | (rw [make_is]; kernel_rfl)
    | kernel_rfl

theorem over : Rows.fnBlockRepairRow.holds Try.pinned (OpenSpec.ofChange Rows.fnBlockRepairSpec) :=
  OpenClaim.holds_of_wide 14 Try.f14 rfl rfl rfl rfl rfl rfl rfl ⟨rfl, rfl, rfl, rfl, rfl⟩ rfl rfl rfl rfl rfl (by kernel_rfl) Try.func14 closed
    (of_decide_eq_true (by kernel_rfl)) (by unfold Func.isWrapper; first | (rw [if_pos (by decide +kernel)]; kernel_rfl) | (rw [if_neg (by decide +kernel)]; exact ⟨rfl, rfl⟩))
    (fun os started H enc _ => lifted os started H enc)

theorem proved : Rows.FnBlockRepairSaid := over
#print axioms proved
end Go.Proofs.Ytbpifchlmmdnaaa.fnBlockRepair
