/-
  For every input the law 'FnStaffKinds' returns true, and each of its arguments reads behind the call as it read before. Conditions: none beyond those of the row.
-/
import Derived.Test.YthjodagbgmpbhaaDoorRows
import Derived.WalkKit
import Derived.ProofKit
import Derived.OpenShut
import Derived.ShutString
import Derived.ChangeOld
import Derived.Below
import Derived.Deep.Matrix
import Derived.Test.YthjodagbgmpbhaaDoorIo
import Derived.LaidMore
import Derived.Lay
import Derived.SevenTiedAt
import Derived.Stop.Joined
import Derived.Test.YthjodagbgmpbhaaDoorCards
import Derived.Test.YthjodagbgmpbhaaDoorTie
import Derived.Test.YthjodagbgmpbhaaDoorShp
import Derived.Test.YthjodagbgmpbhaaDoorDirD
import Derived.Test.YthjodagbgmpbhaaDoorDirK
import Derived.Test.YthjodagbgmpbhaaDoorDrawSt
import Derived.Test.YthjodagbgmpbhaaDoorStrP
import Derived.Lib.QuietBelow
import Derived.BigQuiet
namespace Go.Proofs.YthjodagbgmpbhaaDoor
open Go.RowKit

open Go.Sort

theorem maxlen_below {w w1 : World} (hm : ∃ m : Int, w.cell? ⟨maxLenG, 0, none⟩ = some (.int .i64 m)) (b : Below w.heap.size w w1) : ∃ m : Int, w1.cell? ⟨maxLenG, 0, none⟩ = some (.int .i64 m) := by
  obtain ⟨m, h⟩ := hm
  exact ⟨m, (b.cell (p := ⟨maxLenG, 0, none⟩) (World.block_lt_of_cell? w _ h)).trans h⟩
theorem countOfB (S : ByteArray) (hS : S.size ≤ 1048576) (c : Int) (w : World) :
    Calls Tryd.prog 13 #[.string S, .int .u8 c] w fun e w' => e = .returned (.int .i64 (cntTo S c S.size)) ∧ Below w.heap.size w w' := by
  refine (countOf S hS c w).mono ?_
  rintro e w' ⟨rfl, rfl⟩
  exact ⟨rfl, Below.refl _ _⟩

set_option maxRecDepth 100000 in
set_option maxHeartbeats 8000000 in
theorem walk_FnStaffKinds (a0 : Option Addr) (len0 cap0 : Nat) (z0 : List Int) (w : World) (w0 : IsRowK .u8 w a0 len0 cap0 z0) (hm : ∃ m : Int, w.cell? ⟨maxLenG, 0, none⟩ = some (.int .i64 m)) :
    Calls Tryd.prog 4 #[.slice a0 len0 cap0] w fun e w' => e = .returned (.bool true) ∧ Below w.heap.size w w' := by
  rcases Nat.lt_or_ge 1048576 len0 with hbig | hsm
  · have hb : (1048576 : Int) < (len0 : Int) := by omega
    clear hm
    go_enter Tryd.func4, Tryd.ntmps4
    go_wp2_with fail
    go_ret
    exact ⟨rfl, Below.refl _ _⟩
  have hb : (len0 : Int) ≤ 1048576 := by omega
  have DN := Lib.hid (drawStaffKinds w0 hsm)
  have HM := Lib.hid hm
  clear w0 hm
  go_enter Tryd.func4, Tryd.ntmps4
  go_wp2_with (go_at_call 9; refine DN.out.mono ?_)
  rintro e w1 ⟨a, D, rfl, ha0, ha3, hD, b1⟩
  have B1 := Lib.hid b1
  have IK := Lib.hid (implStaffKinds a D (by omega))
  have SK := Lib.hid (specStaffKinds a D (by omega))
  obtain ⟨k, hk⟩ : ∃ k, k = skOk a D := ⟨_, rfl⟩
  rw [← hk] at IK SK
  clear b1 DN
  cases k
  · rw [sk_no hk.symm] at IK SK
    clear hk
    go_wp2_with (go_at_call 10; refine (IK.out _).mono ?_)
    rintro e w2 ⟨rfl, b2⟩
    go_wp2_with (go_at_call 11; refine (SK.out _).mono ?_)
    rintro e w3 ⟨rfl, b3⟩
    go_wp2_with fail
    go_ret
    exact ⟨rfl, chain B1.out (chain b2 b3)⟩
  · rw [sk_yes hk.symm] at IK SK
    obtain ⟨hza, hzd, hzf⟩ := sk_facts hk.symm
    have hKs := kdS_size D
    have IR := implStaffRun a D (kdS D) (by omega) (by rw [hKs]; omega)
    unfold stV at IR
    rw [show (stRun a D (kdS D)).isSome = true from hk.symm] at IR
    have IR := Lib.hid IR
    obtain ⟨x, hx⟩ : ∃ x, x = (stRun a D (kdS D)).getD 0 := ⟨_, rfl⟩
    rw [← hx] at IR
    rcases Nat.eq_zero_or_pos D.size with h0 | h0
    · have hxa : x = a := by rw [hx, stRun_is hza hzd hKs, h0]; rfl
      have t0 : ((D.size : Int) == 0) = true := by rw [h0]; rfl
      obtain ⟨K, hK⟩ : ∃ K, K = kdS D := ⟨_, rfl⟩
      rw [← hK] at IK SK IR
      clear hx hk hza hzd hzf hK hKs h0
      subst hxa
      go_wp2_with (go_at_call 10; refine (IK.out _).mono ?_)
      rintro e w2 ⟨rfl, b2⟩
      go_wp2_with (go_at_call 11; refine (SK.out _).mono ?_)
      rintro e w3 ⟨rfl, b3⟩
      go_wp2_with (go_at_call 12; refine (IR.out _).mono ?_)
      rintro e w4 ⟨rfl, b4⟩
      go_wp2_with fail
      go_ret
      exact ⟨by simp, chain B1.out (chain b2 (chain b3 b4))⟩
    · have t0 : ((D.size : Int) == 0) = false := beq_eq_false_iff_ne.2 (by omega)
      have hDI : (1 : Int) ≤ (D.size : Int) := by omega
      have hDJ : (D.size : Int) ≤ 100 := by omega
      have l1 := st_last hk.symm h0 (x := 83) (.inl rfl)
      have l2 := st_last hk.symm h0 (x := 84) (.inr rfl)
      have cn := cnt_all hzd h0
      have kl := kd_last h0
      have CN := Lib.hid (countOfB (kdS D) (by rw [hKs]; omega) 83)
      rw [cn] at CN
      have hsz : ((kdS D).extract 0 (D.size - 1)).size = D.size - 1 := size_front (by rw [kdS_size]; omega)
      have hap : ∀ x : UInt8, ((kdS D).extract 0 (D.size - 1) ++ ⟨#[x]⟩ : ByteArray).size ≤ 9223372036854775807 := fun x => by
        rw [size_append, hsz, show (⟨#[x]⟩ : ByteArray).size = 1 from rfl]; omega
      have I1 := implStaffRun a D ((kdS D).extract 0 (D.size - 1) ++ ⟨#[83]⟩) (by omega) (hap 83)
      have I2 := implStaffRun a D ((kdS D).extract 0 (D.size - 1) ++ ⟨#[84]⟩) (by omega) (hap 84)
      unfold stV at I1 I2
      rw [l1] at I1
      rw [l2] at I2
      have hsl := part_to (S := kdS D) (k := D.size - 1) (by rw [hKs]; omega)
      have hix := index_is (S := kdS D) (k := D.size - 1) (by rw [hKs]; omega)
      rw [kl] at hix
      have hnm : ((D.size : Int) - 1) = ((D.size - 1 : Nat) : Int) := by omega
      rw [← hnm] at hsl hix
      have ICD := Lib.hid (fun (w1 : World) (h : ∃ m : Int, w1.cell? ⟨maxLenG, 0, none⟩ = some (.int .i64 m)) => implChanges D (by omega) w1 h)
      have SM := Lib.hid (implStaffMany a D (by omega))
      rw [sm_is ⟨hza, hzd⟩, ← hk, if_pos rfl, if_neg (by omega)] at SM
      obtain ⟨x1, hx1⟩ : ∃ x, x = (stRun a D ((kdS D).extract 0 (D.size - 1) ++ ⟨#[83]⟩)).getD 0 := ⟨_, rfl⟩
      obtain ⟨x2, hx2⟩ : ∃ x, x = (stRun a D ((kdS D).extract 0 (D.size - 1) ++ ⟨#[84]⟩)).getD 0 := ⟨_, rfl⟩
      rw [← hx1] at I1
      rw [← hx2] at I2
      have hFs : ((kdS D).extract 0 (D.size - 1)).size ≤ 100 := by rw [hsz]; omega
      obtain ⟨F, hF⟩ : ∃ F, F = (kdS D).extract 0 (D.size - 1) := ⟨_, rfl⟩
      rw [← hF] at hsl hFs I1 I2
      obtain ⟨c, hc⟩ : ∃ c, c = chN D := ⟨_, rfl⟩
      rw [← hc] at CN ICD
      obtain ⟨K, hK⟩ : ∃ K, K = kdS D := ⟨_, rfl⟩
      rw [← hK] at IK SK IR CN hKs
      have hKI : ((D.size : Int) - 1) < (K.size : Int) := by rw [hKs]; omega
      rw [← hK] at hix hsl
      have a1 : ¬ 9223372036854775807 < F.size + (⟨#[83]⟩ : ByteArray).size := by rw [show (⟨#[83]⟩ : ByteArray).size = 1 from rfl]; omega
      have a2 : ¬ 9223372036854775807 < F.size + (⟨#[84]⟩ : ByteArray).size := by rw [show (⟨#[84]⟩ : ByteArray).size = 1 from rfl]; omega
      obtain ⟨K1, hK1⟩ : ∃ X, X = F ++ ⟨#[83]⟩ := ⟨_, rfl⟩
      obtain ⟨K2, hK2⟩ : ∃ X, X = F ++ ⟨#[84]⟩ := ⟨_, rfl⟩
      rw [← hK1] at I1
      rw [← hK2] at I2
      have I1 := Lib.hid I1
      have I2 := Lib.hid I2
      have E1 := Lib.hid hK1.symm
      have E2 := Lib.hid hK2.symm
      clear hx hk hza hzd hzf hK h0 l1 l2 cn kl hsz hap hx1 hx2 hF hc hK1 hK2 hnm
      go_wp2_with (go_at_call 10; refine (IK.out _).mono ?_)
      rintro e w2 ⟨rfl, b2⟩
      go_wp2_with (go_at_call 11; refine (SK.out _).mono ?_)
      rintro e w3 ⟨rfl, b3⟩
      have B3 := Lib.hid (chain B1.out (chain b2 b3))
      clear b2 b3
      go_wp2_with (go_at_call 12; refine (IR.out _).mono ?_)
      rintro e w4 ⟨rfl, b4⟩
      have B4 := Lib.hid (chain B3.out b4)
      clear b4
      go_upto_region 12 with fail
      go_wp2_with (rw [E1.out]; go_at_call 12; refine (I1.out _).mono ?_)
      rintro e w5 ⟨rfl, b5⟩
      have B5 := Lib.hid (chain B4.out b5)
      clear b5
      go_wp2_with (rw [E2.out]; go_at_call 12; refine (I2.out _).mono ?_)
      rintro e w6 ⟨rfl, b6⟩
      have B6 := Lib.hid (chain B5.out b6)
      clear b6
      have M6 := Lib.hid (maxlen_below HM.out B6.out)
      go_wp2_with (first
        | (go_at_call 13; refine (CN.out _).mono ?_; rintro e w7 ⟨rfl, b7⟩)
        | (go_at_call 7; refine (ICD.out _ (maxlen_below M6.out b7)).mono ?_; rintro e w8 ⟨rfl, b8⟩)
        | (go_at_call 14; refine (SM.out _).mono ?_; rintro e w9 ⟨rfl, b9⟩))
      go_ret
      exact ⟨by simp, chain B6.out (chain b7 (chain b8 b9))⟩

end Go.Proofs.YthjodagbgmpbhaaDoor

namespace Go.Proofs.YthjodagbgmpbhaaDoor.fnStaffKinds
open Go.ChangeShapes Go.WideShapes Go.ChangeAt Go.RowKit
open Go.ChangeMaps (open_string shut_string)
set_option linter.unusedVariables false

theorem own : ownKnob Tryd.prog.godebug = none := by kernel_rfl
theorem laidOut : laidOutB Tryd.prog = true := by kernel_rfl

abbrev lst : List (String × DataW Unit) := Rows.fnStaffKindsRow.laid

set_option maxRecDepth 100000 in
theorem lifted (os : Os) (started : os.Started) (H : Type) (enc : TypeId × Value → H) :
    ReturnsInHanded {} Tryd.checked os 4 .any (fun w args => (Rows.fnStaffKindsSpec.pre enc Tryd.prog Tryd.f4 Rows.fnStaffKindsRow.domain false w args ∧ laidMetH Tryd.prog lst w) ∧ sizedMet enc Tryd.prog Tryd.f4 (OpenSpec.ofChange Rows.fnStaffKindsSpec) false w args) (Rows.fnStaffKindsSpec.post enc Tryd.prog Tryd.f4 false true false false) := by
  refine returns_shaped (C := Tryd.checked) (X := fun w _ => laidMetH Tryd.prog lst w) (fun _ _ _ hh h => h.of_heap hh) own started (by kernel_rfl) Tryd.func4
    (ChangeSpec.witness_shaped (enc := enc) (C := Tryd.checked) (os := os) (X := fun w _ => laidMetH Tryd.prog lst w) false (World.laidAll Tryd.prog os lst) #[.slice none 0 0] 8 (World.laidAll_os _ _ _)
      (World.shaped_of_ZipB (by kernel_rfl) (by kernel_rfl)) (by kernel_rfl) (by kernel_rfl) (by kernel_rfl)
      (by rw [MakeChecks.laidMetH_plain _ _ _ (by kernel_rfl)]; exact laidMet_laidAll _ (by kernel_rfl) (by kernel_rfl))) ?_
  intro W base args ds gs before hshape hval0 hW hcnd _ hL _
  have hval : ∀ (j : Nat) t v, Tryd.f4.params[j]? = some t → args[j]? = some v → Value.okWide Tryd.prog W .any base t v := hval0
  have hW' := hW
  obtain ⟨p, q, hA0, hV, rfl, hfz, hnd⟩ := hW
  have hA : DataW.TrodAll enc Tryd.prog W 0 (fun _ => true) true Tryd.f4.params.toList args.toList ds p := hA0
  rw [Tryd.params4] at hA hval
  obtain ⟨v0, vs0, d0, ds0, p0, q0, hargs, rfl, rfl, h0, r0⟩ := trodAll_cons hA
  obtain ⟨rfl, rfl, rfl⟩ := trodAll_nil r0
  obtain rfl : args = #[v0] := by cases args; simp_all
  obtain ⟨rfl, rfl⟩ := trodVars_none hV
  obtain ⟨a0, len0, cap0, rfl⟩ := okWide_slice Tryd.underlying22 (hval 0 22 v0 rfl rfl)
  have k0 := h0
  have lt0 : ∀ x ∈ p0, x.block < W.heap.size := by obtain ⟨m, hm⟩ := k0; exact DataW.trod_lt m _ _ _ hm
  obtain ⟨z0, w0⟩ : ∃ zs, IsRowK .u8 W a0 len0 cap0 zs := by
    obtain ⟨fuel, hf⟩ := h0
    rcases open_ints Tryd.underlying22 Tryd.underlying5 (by kernel_rfl) hf with ⟨hcs, _⟩ | ⟨x, l, c, zs, hcs, _, hl, hm, hz, _, hcell, hwz⟩
    · simp [Value.cells] at hcs
      obtain ⟨rfl, rfl, rfl⟩ := hcs
      exact ⟨[], .inl ⟨rfl, rfl, rfl, rfl⟩⟩
    · simp [Value.cells] at hcs
      obtain ⟨rfl, rfl, rfl⟩ := hcs
      exact ⟨zs, .inr ⟨_, rfl, hl, hm, by simpa using hz, hcell, hwz⟩⟩
  clear hA0 hval0
  refine (walk_FnStaffKinds a0 len0 cap0 z0 W w0 (maxlen_cell hshape)).mono fun e W' ⟨he, bel⟩ => ?_
  subst he
  exact ⟨_, rfl, _, _, _, [], _, [], hW', trodAll_mk1 (shut_bool Tryd.underlying4 _), (trodAll_cons_mk (Below.trod laidOut (by kernel_rfl) (of_decide_eq_true (by kernel_rfl)) k0 bel lt0) trodAll_mk0), rfl, bel.frame _, fun h => by cases h⟩

theorem closed : joinedFacts Tryd.checked.prog 4 Tryd.f4 Rows.fnStaffKindsSpec Rows.fnStaffKindsRow = true := by
  unfold joinedFacts
  simp only [Bool.and_eq_true]
  repeat' (refine And.intro ?_ ?_)
  all_goals first
    | with_reducible exact may_enter
    | (rw [lifts_final]; kernel_rfl)
    | (rw [make_is]; kernel_rfl)
    | kernel_rfl

theorem over : Rows.fnStaffKindsRow.holds Tryd.pinned (OpenSpec.ofChange Rows.fnStaffKindsSpec) :=
  OpenClaim.holds_of_wide 4 Tryd.f4 rfl rfl rfl rfl rfl rfl rfl ⟨rfl, rfl, rfl, rfl, rfl⟩ rfl rfl rfl rfl rfl (by kernel_rfl) Tryd.func4 closed
    (of_decide_eq_true (by kernel_rfl)) (by unfold Func.isWrapper; first | (rw [if_pos (by decide +kernel)]; kernel_rfl) | (rw [if_neg (by decide +kernel)]; exact ⟨rfl, rfl⟩))
    (fun os started H enc _ => lifted os started H enc)

set_option maxRecDepth 100000 in
theorem proved : Rows.FnStaffKindsCardSaid :=
  Claim7.holds_tied_plain_at .later [] [.data, .pinned] true (true, "2a762c24dd630722956f2c9f187e3d279803ba83d04c81186cfe00238cb52aa4") false over (fun _ h => by cases h) (by kernel_rfl) (fun _ h => by cases h) fnStaffKinds_row_tie rfl ⟨rfl, rfl⟩ (by kernel_rfl) rfl
    (fun f fn hf hfn => by
      obtain rfl : f = 4 := Option.some.inj ((show Tryd.prog.funcNamed "loop.example/blockboxes/laws.FnStaffKinds" = some 4 by kernel_rfl).symm.trans hf) |>.symm
      obtain rfl : fn = Tryd.f4 := (Option.some.inj (Tryd.func4.symm.trans hfn)).symm
      exact ⟨by kernel_rfl, fun j t ht => by
        rw [Tryd.params4] at ht
        have hm : t ∈ [22] := by simpa using Array.mem_of_getElem? ht
        have hall : ([22].all fun u => !Tryd.prog.wantsStandIn u) = true := by kernel_rfl
        exact (show Tryd.prog.wantsStandIn t = false by simpa using List.all_eq_true.1 hall t hm)⟩)
    (by kernel_rfl)
#print axioms proved
end Go.Proofs.YthjodagbgmpbhaaDoor.fnStaffKinds
