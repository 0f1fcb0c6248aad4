/-
  For every input the law 'FnChanges' returns true, and each of its arguments reads behind the call as it read before. Conditions: none beyond those of the row.
-/
import Derived.Test.YthjodagbgmpbhaaDoorRows
import Derived.WalkKit
import Derived.ProofKit
import Derived.OpenShut
import Derived.ShutString
import Derived.ChangeOld
import Derived.Below
import Derived.Deep.Matrix
import Derived.Test.YthjodagbgmpbhaaDoorIo
import Derived.LaidMore
import Derived.Lay
import Derived.SevenTiedAt
import Derived.Stop.Joined
import Derived.Test.YthjodagbgmpbhaaDoorCards
import Derived.Test.YthjodagbgmpbhaaDoorTie
import Derived.Test.YthjodagbgmpbhaaDoorShp
import Derived.Test.YthjodagbgmpbhaaDoorDirD
import Derived.Test.YthjodagbgmpbhaaDoorDirE
import Derived.Test.YthjodagbgmpbhaaDoorDirG
import Derived.Test.YthjodagbgmpbhaaDoorDrawA
import Derived.Test.YthjodagbgmpbhaaDoorStrP
import Derived.Lib.QuietBelow
import Derived.BigQuiet
namespace Go.Proofs.YthjodagbgmpbhaaDoor
open Go.RowKit

open Go.Sort

theorem maxlen_below {w w1 : World} (hm : ∃ m : Int, w.cell? ⟨maxLenG, 0, none⟩ = some (.int .i64 m)) (b : Below w.heap.size w w1) : ∃ m : Int, w1.cell? ⟨maxLenG, 0, none⟩ = some (.int .i64 m) := by
  obtain ⟨m, h⟩ := hm
  exact ⟨m, (b.cell (p := ⟨maxLenG, 0, none⟩) (World.block_lt_of_cell? w _ h)).trans h⟩

set_option maxRecDepth 100000 in
set_option maxHeartbeats 8000000 in
theorem walk_FnChanges (a0 : Option Addr) (len0 cap0 : Nat) (z0 : List Int) (a1 : Option Addr) (len1 cap1 : Nat) (z1 : List Int) (w : World) (w0 : IsRowK .u8 w a0 len0 cap0 z0) (w1 : IsRowK .u8 w a1 len1 cap1 z1) (hm : ∃ m : Int, w.cell? ⟨maxLenG, 0, none⟩ = some (.int .i64 m)) :
    Calls Tryd.prog 3 #[.slice a0 len0 cap0, .slice a1 len1 cap1] w fun e w' => e = .returned (.bool true) ∧ Below w.heap.size w w' := by
  have _ := w1
  rcases Nat.lt_or_ge 1048576 len0 with hbig | hsm
  · have hb : (1048576 : Int) < (len0 : Int) := by omega
    clear hm
    go_enter Tryd.func3, Tryd.ntmps3
    go_wp2_with fail
    go_ret
    exact ⟨rfl, Below.refl _ _⟩
  have hb : (len0 : Int) ≤ 1048576 := by omega
  rcases Nat.lt_or_ge 1048576 len1 with hbig1 | hsm1
  · have hb1 : (1048576 : Int) < (len1 : Int) := by omega
    clear hm
    go_enter Tryd.func3, Tryd.ntmps3
    go_wp2_with fail
    go_ret
    exact ⟨rfl, Below.refl _ _⟩
  have hb1 : (len1 : Int) ≤ 1048576 := by omega
  have DN := Lib.hid (drawChanges w0 hsm)
  have HM := Lib.hid hm
  clear w0 hm
  go_enter Tryd.func3, Tryd.ntmps3
  go_wp2_with (go_at_call 6; refine DN.out.mono ?_)
  rintro e w1 ⟨S, rfl, hS, b1⟩
  have M1 := maxlen_below HM.out b1
  have IC := implChanges S (by omega) w1 M1
  obtain ⟨c, hc⟩ : ∃ c, c = chN S := ⟨_, rfl⟩
  have SC := specChanges S (by omega)
  rw [← hc] at IC SC
  have IM := Lib.hid IC
  have SP := Lib.hid SC
  have HC := Lib.hid hc
  clear IC SC DN hc
  go_wp2_with (go_at_call 7; refine IM.out.mono ?_)
  rintro e w2 ⟨rfl, b2⟩
  have B2 := Lib.hid (chain b1 b2)
  have M2 := Lib.hid (maxlen_below M1 b2)
  clear b1 b2 M1
  go_wp2_with (go_at_call 8; refine (SP.out _).mono ?_)
  rintro e w3 ⟨rfl, b3⟩
  have B3 := Lib.hid (chain B2.out b3)
  have M3 := Lib.hid (maxlen_below M2.out b3)
  clear b3
  have tne : (c != c) = false := by simp
  have teq : (c == c) = true := by simp
  obtain ⟨d, hd⟩ : ∃ d, d = dirB S := ⟨_, rfl⟩
  cases d
  · have hneg : c < 0 := by rw [HC.out, ch_neg hd.symm]; omega
    clear hd
    go_wp2_with fail
    go_ret
    exact ⟨rfl, B3.out⟩
  · have hpos := ch_pos hd.symm
    rw [← HC.out] at hpos
    obtain ⟨c0, c30⟩ := hpos
    have hnn : ¬ c < 0 := by omega
    obtain ⟨k, hk⟩ : ∃ k : Nat, k = len1 % (S.size + 1) := ⟨_, rfl⟩
    have hkS : k ≤ S.size := by have := Nat.mod_lt len1 (show 0 < S.size + 1 by omega); omega
    have hrem : ((len1 : Int) % ((S.size : Int) + 1)) = (k : Int) := by rw [hk]; rfl
    have CP := ch_parts hd.symm hkS
    have r1 := ch_pos (dir_front hd.symm hkS)
    have r2 := ch_pos (dir_back hd.symm hkS)
    obtain ⟨A, hA⟩ : ∃ A, A = S.extract 0 k := ⟨_, rfl⟩
    obtain ⟨B, hB⟩ : ∃ B, B = S.extract k S.size := ⟨_, rfl⟩
    have hsl1 := part_to hkS
    have hsl2 := part_from hkS
    have hAs : A.size ≤ 1048576 := by rw [hA, size_front hkS]; omega
    have hBs : B.size ≤ 1048576 := by rw [hB, size_back hkS]; omega
    rw [← hA] at hsl1 r1 CP
    rw [← hB] at hsl2 r2 CP
    obtain ⟨x, hx⟩ : ∃ x, x = chN A := ⟨_, rfl⟩
    obtain ⟨y, hy⟩ : ∃ y, y = chN B := ⟨_, rfl⟩
    rw [← hx] at r1 CP
    rw [← hy] at r2 CP
    rw [← HC.out] at CP
    obtain ⟨x0, x30⟩ := r1
    obtain ⟨y0, y30⟩ := r2
    have hkp : (k : Int) ≤ (S.size : Int) := by omega
    have hS100 : (S.size : Int) ≤ 100 := by omega
    have CA := Lib.hid (fun d os => Calls.regrown_of (d := d) (os := os) (implChanges A hAs (grow (redrawn w3 d) os) (by obtain ⟨m, h⟩ := M3.out; exact ⟨m, cell_regrown h d os⟩)))
    have CB := Lib.hid (fun d os => Calls.regrown_of (d := d) (os := os) (implChanges B hBs (grow (redrawn w3 d) os) (by obtain ⟨m, h⟩ := M3.out; exact ⟨m, cell_regrown h d os⟩)))
    rw [← hx] at CA
    rw [← hy] at CB
    have hw2 : IntKind.i64.wrap (x + y) = x + y := IntWalk.i64_in _ (by omega)
    have H2 := Lib.hid hw2
    have CPP := Lib.hid CP
    clear hk hA hB hx hy hAs hBs hd CP hw2
    go_upto_region 9 with fail
    rw [hrem]
    have hw2 := H2.out
    refine wp_region_quiet_below (by kernel_rfl) (by kernel_rfl) ?_
    repeat (go_big_quiet_step (first | with_reducible exact CA.out _ _ | with_reducible exact CB.out _ _))
    refine wpQuiet_nil ?_
    intro _ hw'
    obtain ⟨⟨dq, osq⟩, hw''⟩ := hw'
    subst hw''
    have BR := Lib.hid (chain B3.out (below_regrown w3 dq osq))
    clear hw2 hsl1 hsl2
    obtain ⟨wq, hwq⟩ : ∃ X, X = grow (redrawn w3 dq) osq := ⟨_, rfl⟩
    rw [← hwq] at BR ⊢
    clear hwq
    by_cases h0 : k = 0
    · have e1 : decide ((0 : Int) < (k : Int)) = false := decide_eq_false (by omega)
      have e1' : decide (0 < k) = false := decide_eq_false (by omega)
      have E := Lib.hid (show x + y = c by have := CPP.out; rw [if_neg (fun q => by omega)] at this; omega)
      clear CPP
      go_wp2_with fail
      refine wp_region_quiet_below (by kernel_rfl) (by kernel_rfl) ?_
      repeat (go_big_quiet_step (skip))
      refine wpQuiet_nil ?_
      intro _ hw'
      obtain ⟨⟨dr, osr⟩, hw''⟩ := hw'
      subst hw''
      have BF := Lib.hid (chain BR.out (below_regrown wq dr osr))
      clear e1 e1'
      rw [E.out]
      go_wp2_with fail
      go_ret
      exact ⟨rfl, BF.out⟩
    · have e1 : decide ((0 : Int) < (k : Int)) = true := decide_eq_true (by omega)
      have e1' : decide (0 < k) = true := decide_eq_true (by omega)
      by_cases h1 : k < S.size
      · have e2 : decide ((k : Int) < (S.size : Int)) = true := decide_eq_true (by omega)
        have e2' : decide (k < S.size) = true := decide_eq_true h1
        have hw1 : IntKind.i64.wrap ((k : Int) - 1) = ((k - 1 : Nat) : Int) := by rw [IntWalk.i64_in _ (by omega)]; omega
        have hix := index_is h1
        have hiy := index_is (S := S) (k := k - 1) (by omega)
        obtain ⟨p, hp⟩ : ∃ p, p = bt S k := ⟨_, rfl⟩
        obtain ⟨q, hq⟩ : ∃ q, q = bt S (k - 1) := ⟨_, rfl⟩
        have CQ := CPP.out
        rw [← hp, ← hq] at CQ
        rw [← hp] at hix
        rw [← hq] at hiy
        clear hp hq CPP
        obtain ⟨k', hk'⟩ : ∃ k' : Int, k' = ((k - 1 : Nat) : Int) := ⟨_, rfl⟩
        rw [← hk'] at hw1 hiy
        by_cases h2 : q = p
        · have E := Lib.hid (show x + y = c by rw [if_neg (fun z => z.2.2 h2.symm)] at CQ; omega)
          have t1 : (q != p) = false := by simp [h2]
          clear CQ h2 hk'
          go_wp2_with fail
          refine wp_region_quiet_below (by kernel_rfl) (by kernel_rfl) ?_
          repeat (go_big_quiet_step (skip))
          refine wpQuiet_nil ?_
          intro _ hw'
          obtain ⟨⟨dr, osr⟩, hw''⟩ := hw'
          subst hw''
          have BF := Lib.hid (chain BR.out (below_regrown wq dr osr))
          clear e1 e1' e2 e2' hw1 hix hiy
          rw [E.out]
          go_wp2_with fail
          go_ret
          exact ⟨rfl, BF.out⟩
        · have E := Lib.hid (show x + y + 1 = c by rw [if_pos ⟨by omega, h1, fun z => h2 z.symm⟩] at CQ; omega)
          have t1 : (q != p) = true := by simp [h2]
          clear CQ h2 hk'
          go_wp2_with fail
          refine wp_region_quiet_below (by kernel_rfl) (by kernel_rfl) ?_
          repeat (go_big_quiet_step (skip))
          refine wpQuiet_nil ?_
          intro _ hw'
          obtain ⟨⟨dr, osr⟩, hw''⟩ := hw'
          subst hw''
          have BF := Lib.hid (chain BR.out (below_regrown wq dr osr))
          clear e1 e1' e2 e2' hw1 hix hiy
          have t9 : (x + y + 1 == c) = true := by rw [E.out]; simp
          clear teq tne
          go_wp2_with fail
          go_ret
          exact ⟨rfl, BF.out⟩
      · have e2 : decide ((k : Int) < (S.size : Int)) = false := decide_eq_false (by omega)
        have e2' : decide (k < S.size) = false := decide_eq_false h1
        have E := Lib.hid (show x + y = c by have := CPP.out; rw [if_neg (fun q => h1 q.2.1)] at this; omega)
        clear CPP
        go_wp2_with fail
        refine wp_region_quiet_below (by kernel_rfl) (by kernel_rfl) ?_
        repeat (go_big_quiet_step (skip))
        refine wpQuiet_nil ?_
        intro _ hw'
        obtain ⟨⟨dr, osr⟩, hw''⟩ := hw'
        subst hw''
        have BF := Lib.hid (chain BR.out (below_regrown wq dr osr))
        clear e1 e1' e2 e2'
        rw [E.out]
        go_wp2_with fail
        go_ret
        exact ⟨rfl, BF.out⟩

end Go.Proofs.YthjodagbgmpbhaaDoor

namespace Go.Proofs.YthjodagbgmpbhaaDoor.fnChanges
open Go.ChangeShapes Go.WideShapes Go.ChangeAt Go.RowKit
open Go.ChangeMaps (open_string shut_string)
set_option linter.unusedVariables false

theorem own : ownKnob Tryd.prog.godebug = none := by kernel_rfl
theorem laidOut : laidOutB Tryd.prog = true := by kernel_rfl

abbrev lst : List (String × DataW Unit) := Rows.fnChangesRow.laid

set_option maxRecDepth 100000 in
theorem lifted (os : Os) (started : os.Started) (H : Type) (enc : TypeId × Value → H) :
    ReturnsInHanded {} Tryd.checked os 3 .any (fun w args => (Rows.fnChangesSpec.pre enc Tryd.prog Tryd.f3 Rows.fnChangesRow.domain false w args ∧ laidMetH Tryd.prog lst w) ∧ sizedMet enc Tryd.prog Tryd.f3 (OpenSpec.ofChange Rows.fnChangesSpec) false w args) (Rows.fnChangesSpec.post enc Tryd.prog Tryd.f3 false true false false) := by
  refine returns_shaped (C := Tryd.checked) (X := fun w _ => laidMetH Tryd.prog lst w) (fun _ _ _ hh h => h.of_heap hh) own started (by kernel_rfl) Tryd.func3
    (ChangeSpec.witness_shaped (enc := enc) (C := Tryd.checked) (os := os) (X := fun w _ => laidMetH Tryd.prog lst w) false (World.laidAll Tryd.prog os lst) #[.slice none 0 0, .slice none 0 0] 8 (World.laidAll_os _ _ _)
      (World.shaped_of_ZipB (by kernel_rfl) (by kernel_rfl)) (by kernel_rfl) (by kernel_rfl) (by kernel_rfl)
      (by rw [MakeChecks.laidMetH_plain _ _ _ (by kernel_rfl)]; exact laidMet_laidAll _ (by kernel_rfl) (by kernel_rfl))) ?_
  intro W base args ds gs before hshape hval0 hW hcnd _ hL _
  have hval : ∀ (j : Nat) t v, Tryd.f3.params[j]? = some t → args[j]? = some v → Value.okWide Tryd.prog W .any base t v := hval0
  have hW' := hW
  obtain ⟨p, q, hA0, hV, rfl, hfz, hnd⟩ := hW
  have hA : DataW.TrodAll enc Tryd.prog W 0 (fun _ => true) true Tryd.f3.params.toList args.toList ds p := hA0
  rw [Tryd.params3] at hA hval
  obtain ⟨v0, vs0, d0, ds0, p0, q0, hargs, rfl, rfl, h0, r0⟩ := trodAll_cons hA
  obtain ⟨v1, vs1, d1, ds1, p1, q1, rfl, rfl, rfl, h1, r1⟩ := trodAll_cons r0
  obtain ⟨rfl, rfl, rfl⟩ := trodAll_nil r1
  obtain rfl : args = #[v0, v1] := by cases args; simp_all
  obtain ⟨rfl, rfl⟩ := trodVars_none hV
  obtain ⟨a0, len0, cap0, rfl⟩ := okWide_slice Tryd.underlying22 (hval 0 22 v0 rfl rfl)
  have k0 := h0
  have lt0 : ∀ x ∈ p0, x.block < W.heap.size := by obtain ⟨m, hm⟩ := k0; exact DataW.trod_lt m _ _ _ hm
  obtain ⟨z0, w0⟩ : ∃ zs, IsRowK .u8 W a0 len0 cap0 zs := by
    obtain ⟨fuel, hf⟩ := h0
    rcases open_ints Tryd.underlying22 Tryd.underlying5 (by kernel_rfl) hf with ⟨hcs, _⟩ | ⟨x, l, c, zs, hcs, _, hl, hm, hz, _, hcell, hwz⟩
    · simp [Value.cells] at hcs
      obtain ⟨rfl, rfl, rfl⟩ := hcs
      exact ⟨[], .inl ⟨rfl, rfl, rfl, rfl⟩⟩
    · simp [Value.cells] at hcs
      obtain ⟨rfl, rfl, rfl⟩ := hcs
      exact ⟨zs, .inr ⟨_, rfl, hl, hm, by simpa using hz, hcell, hwz⟩⟩
  obtain ⟨a1, len1, cap1, rfl⟩ := okWide_slice Tryd.underlying22 (hval 1 22 v1 rfl rfl)
  have k1 := h1
  have lt1 : ∀ x ∈ p1, x.block < W.heap.size := by obtain ⟨m, hm⟩ := k1; exact DataW.trod_lt m _ _ _ hm
  obtain ⟨z1, w1⟩ : ∃ zs, IsRowK .u8 W a1 len1 cap1 zs := by
    obtain ⟨fuel, hf⟩ := h1
    rcases open_ints Tryd.underlying22 Tryd.underlying5 (by kernel_rfl) hf with ⟨hcs, _⟩ | ⟨x, l, c, zs, hcs, _, hl, hm, hz, _, hcell, hwz⟩
    · simp [Value.cells] at hcs
      obtain ⟨rfl, rfl, rfl⟩ := hcs
      exact ⟨[], .inl ⟨rfl, rfl, rfl, rfl⟩⟩
    · simp [Value.cells] at hcs
      obtain ⟨rfl, rfl, rfl⟩ := hcs
      exact ⟨zs, .inr ⟨_, rfl, hl, hm, by simpa using hz, hcell, hwz⟩⟩
  clear hA0 hval0
  refine (walk_FnChanges a0 len0 cap0 z0 a1 len1 cap1 z1 W w0 w1 (maxlen_cell hshape)).mono fun e W' ⟨he, bel⟩ => ?_
  subst he
  exact ⟨_, rfl, _, _, _, [], _, [], hW', trodAll_mk1 (shut_bool Tryd.underlying4 _), (trodAll_cons_mk (Below.trod laidOut (by kernel_rfl) (of_decide_eq_true (by kernel_rfl)) k0 bel lt0) (trodAll_cons_mk (Below.trod laidOut (by kernel_rfl) (of_decide_eq_true (by kernel_rfl)) k1 bel lt1) trodAll_mk0)), rfl, bel.frame _, fun h => by cases h⟩

theorem closed : joinedFacts Tryd.checked.prog 3 Tryd.f3 Rows.fnChangesSpec Rows.fnChangesRow = true := by
  unfold joinedFacts
  simp only [Bool.and_eq_true]
  repeat' (refine And.intro ?_ ?_)
  all_goals first
    | with_reducible exact may_enter
    | (rw [lifts_final]; kernel_rfl)
    | (rw [make_is]; kernel_rfl)
    | kernel_rfl

theorem over : Rows.fnChangesRow.holds Tryd.pinned (OpenSpec.ofChange Rows.fnChangesSpec) :=
  OpenClaim.holds_of_wide 3 Tryd.f3 rfl rfl rfl rfl rfl rfl rfl ⟨rfl, rfl, rfl, rfl, rfl⟩ rfl rfl rfl rfl rfl (by kernel_rfl) Tryd.func3 closed
    (of_decide_eq_true (by kernel_rfl)) (by unfold Func.isWrapper; first | (rw [if_pos (by decide +kernel)]; kernel_rfl) | (rw [if_neg (by decide +kernel)]; exact ⟨rfl, rfl⟩))
    (fun os started H enc _ => lifted os started H enc)

set_option maxRecDepth 100000 in
theorem proved : Rows.FnChangesCardSaid :=
  Claim7.holds_tied_plain_at .later [] [.data, .pinned] true (true, "2a762c24dd630722956f2c9f187e3d279803ba83d04c81186cfe00238cb52aa4") false over (fun _ h => by cases h) (by kernel_rfl) (fun _ h => by cases h) fnChanges_row_tie rfl ⟨rfl, rfl⟩ (by kernel_rfl) rfl
    (fun f fn hf hfn => by
      obtain rfl : f = 3 := Option.some.inj ((show Tryd.prog.funcNamed "loop.example/blockboxes/laws.FnChanges" = some 3 by kernel_rfl).symm.trans hf) |>.symm
      obtain rfl : fn = Tryd.f3 := (Option.some.inj (Tryd.func3.symm.trans hfn)).symm
      exact ⟨by kernel_rfl, fun j t ht => by
        rw [Tryd.params3] at ht
        have hm : t ∈ [22, 22] := by simpa using Array.mem_of_getElem? ht
        have hall : ([22, 22].all fun u => !Tryd.prog.wantsStandIn u) = true := by kernel_rfl
        exact (show Tryd.prog.wantsStandIn t = false by simpa using List.all_eq_true.1 hall t hm)⟩)
    (by kernel_rfl)
#print axioms proved
end Go.Proofs.YthjodagbgmpbhaaDoor.fnChanges
