/-
  For every input the law 'FnTokenCarry' returns true, and each of its arguments reads behind the call as it read before. Conditions: none beyond those of the row.
-/
import Derived.Test.YthjodagbgmpbhaaGreatDoorRows
import Derived.WalkKit
import Derived.ProofKit
import Derived.OpenShut
import Derived.ShutString
import Derived.ChangeOld
import Derived.Below
import Derived.Deep.Matrix
import Derived.Test.YthjodagbgmpbhaaGreatDoorIo
import Derived.LaidMore
import Derived.Lay
import Derived.SevenTiedAt
import Derived.Stop.Joined
import Derived.Test.YthjodagbgmpbhaaGreatDoorCards
import Derived.Test.YthjodagbgmpbhaaGreatDoorTie
import Derived.Test.YthjodagbgmpbhaaGreatDoorShp
import Derived.Test.YthjodagbgmpbhaaGreatDoorTrn
import Derived.Test.YthjodagbgmpbhaaGreatDoorDirC
import Derived.Test.YthjodagbgmpbhaaGreatDoorDrawCr
import Derived.Lib.QuietBelow
import Derived.BigQuiet
namespace Go.Proofs.YthjodagbgmpbhaaGreatDoor
open Go.RowKit

open Go.Sort

/-- What is true where tokens may be carried. -/
theorem cr_facts {a c o : Int} {S : ByteArray} (h : crOk (a, c, o) S = true) : ((0 ≤ a ∧ a ≤ 12) ∧ (0 ≤ c ∧ c ≤ 12) ∧ a + c ≤ 12) ∧ o = 0 ∧ dirB S = true ∧ ndA S + ndB S ≤ a + c := by
  unfold crOk at h
  simp only [Bool.and_eq_true, decide_eq_true_eq] at h
  obtain ⟨⟨⟨h1, h2⟩, h3⟩, h4⟩ := h
  have q := tkOk_of h1
  simp only at q
  subst h2
  exact ⟨⟨q.1, q.2.1, by omega⟩, rfl, h3, h4⟩

set_option maxRecDepth 100000 in
set_option maxHeartbeats 8000000 in
theorem walk_FnTokenCarry (a0 : Option Addr) (len0 cap0 : Nat) (z0 : List Int) (w : World) (w0 : IsRowK .u8 w a0 len0 cap0 z0) :
    Calls Tryz.prog 5 #[.slice a0 len0 cap0] w fun e w' => e = .returned (.bool true) ∧ Below w.heap.size w w' := by
  rcases Nat.lt_or_ge 1048576 len0 with hbig | hsm
  · have hb : (1048576 : Int) < (len0 : Int) := by omega
    go_enter Tryz.func5, Tryz.ntmps5
    go_wp2_with fail
    go_ret
    exact ⟨rfl, Below.refl _ _⟩
  have hb : (len0 : Int) ≤ 1048576 := by omega
  have DN := Lib.hid (drawTokenCarry w0 hsm)
  clear w0
  go_enter Tryz.func5, Tryz.ntmps5
  go_wp2_with (go_at_call 17; refine DN.out.mono ?_)
  rintro e w1 ⟨b, S, rfl, hF, hS, b1⟩
  obtain ⟨a, c, o⟩ := b
  have e1 := below_alloc w1 (.cells #[.int .i64 a, .int .i64 c, .int .i64 o] 29)
  have t1 := Tri3.new w1 (.int .i64 a) (.int .i64 c) (.int .i64 o) 29
  obtain ⟨W, hW⟩ : ∃ W, W = w1.alloc (.cells #[.int .i64 a, .int .i64 c, .int .i64 o] 29) := ⟨_, rfl⟩
  rw [← hW] at e1 t1
  have HW := Lib.hid hW.symm
  have C1 := Lib.hid (chain b1 e1)
  clear hW b1 e1 DN
  go_upto_region 4 with fail
  rw [HW.out]
  have l0 := t1.cell0
  have l1 := t1.cell1
  have l2 := t1.cell2
  have IC := implCarry (a, c, o) S hF (by omega)
  have SC := specCarry (a, c, o) S (by omega)
  obtain ⟨k, hk⟩ : ∃ k, k = crOk (a, c, o) S := ⟨_, rfl⟩
  obtain ⟨v, hv⟩ : ∃ v, v = crV (a, c, o) S := ⟨_, rfl⟩
  rw [← hk, ← hv] at IC SC
  unfold tkV at IC SC
  have IC := Lib.hid IC
  have SC := Lib.hid SC
  have HK := Lib.hid (And.intro hk hv)
  clear hk hv
  go_wp2_with (go_at_call 18; refine (IC.out _).mono ?_)
  rintro e w2 rfl b2
  have C2 := Lib.hid (chain C1.out b2)
  have t2 := t1.below b2
  clear b2 l0 l1 l2 t1
  have l0 := t2.cell0
  have l1 := t2.cell1
  have l2 := t2.cell2
  go_wp2_with (go_at_call 19; refine (SC.out _).mono ?_)
  rintro e w3 ⟨rfl, b3⟩
  have C3 := Lib.hid (chain C2.out b3)
  have t3 := t2.below b3
  clear b3 l0 l1 l2 t2
  cases k
  · go_wp2_with fail
    go_ret
    exact ⟨by simp, C3.out⟩
  obtain ⟨hk, hv⟩ := HK.out
  obtain ⟨⟨⟨a0, a12⟩, ⟨c0, c12⟩, ac⟩, ho, hd, hn⟩ := cr_facts hk.symm
  rw [cr_yes hk.symm] at hv
  simp only at hv
  subst ho
  have IT := implTrains S (by omega)
  rw [trOk_is hd] at IT
  have rg := nd_range S
  have h30 := dir_size hd
  have T3 := Lib.hid t3
  clear t3 IC SC
  by_cases h15 : 2 * S.size ≤ 30
  · rw [decide_eq_true h15] at IT
    rw [tr_yes (by rw [trOk_is hd]; exact decide_eq_true h15)] at IT
    have hts := ttTo_size (S := S) (k := S.size) (Nat.le_refl _)
    have RY := fun (x y : Int) (hx : 0 ≤ x) (hy : 0 ≤ y) (hxy : x + y ≤ 12) => tt_run hd h15 hx hy hxy
    have RN := fun (x y : Int) (h : x < 0 ∨ y < 0) => tt_bad (S := S) h
    obtain ⟨A, hA⟩ : ∃ A, A = ttTo S S.size := ⟨_, rfl⟩
    obtain ⟨x, hx⟩ : ∃ c, c = ndA S := ⟨_, rfl⟩
    obtain ⟨y, hy⟩ : ∃ c, c = ndB S := ⟨_, rfl⟩
    rw [← hA] at IT hts RY RN
    rw [← hx, ← hy] at rg RY hn hv
    replace IT := Lib.hid IT
    obtain ⟨⟨x0, x30⟩, y0, y30⟩ := rg
    have vb : -30 ≤ v ∧ v ≤ 30 := by
      rw [hv]
      split
      · omega
      · split <;> omega
    obtain ⟨v0, v30⟩ := vb
    -- the three runs
    have r1 : (tkRun (a + v, c - v, 0) A).isSome = true := by
      rw [hv]
      split
      · rw [RY _ _ (by omega) (by omega) (by omega), if_pos ⟨by omega, by omega⟩]; rfl
      · split
        · rw [RY _ _ (by omega) (by omega) (by omega), if_pos ⟨by omega, by omega⟩]; rfl
        · rw [RY _ _ (by omega) (by omega) (by omega), if_pos ⟨by omega, by omega⟩]; rfl
    have r2 : (tkRun (a, c, 0) A).isSome = (v == 0) := by
      rw [RY a c a0 c0 ac, hv]
      by_cases q1 : a < x
      · rw [if_neg (fun z => by omega), if_pos q1]
        exact (beq_eq_false_iff_ne.2 (by omega)).symm
      · rw [if_neg q1]
        by_cases q2 : c < y
        · rw [if_neg (fun z => by omega), if_pos q2]
          exact (beq_eq_false_iff_ne.2 (by omega)).symm
        · rw [if_pos ⟨by omega, by omega⟩, if_neg q2]
          rfl
    have r3 : 0 < v → (tkRun (a + v - 1, c - v + 1, 0) A).isSome = false := by
      intro hp
      rw [hv] at hp ⊢
      by_cases q1 : a < x
      · rw [if_pos q1] at hp ⊢
        by_cases q3 : 0 ≤ c - (x - a) + 1
        · rw [RY _ _ (by omega) q3 (by omega), if_neg (fun z => by omega)]; rfl
        · rw [RN _ _ (.inr (by omega))]; rfl
      · rw [if_neg q1] at hp
        by_cases q2 : c < y
        · rw [if_pos q2] at hp; omega
        · rw [if_neg q2] at hp; omega
    have r4 : v < 0 → (tkRun (a + v + 1, c - v - 1, 0) A).isSome = false := by
      intro hp
      rw [hv] at hp ⊢
      by_cases q1 : a < x
      · rw [if_pos q1] at hp; omega
      · rw [if_neg q1] at hp ⊢
        by_cases q2 : c < y
        · rw [if_pos q2] at hp ⊢
          by_cases q3 : 0 ≤ a + (c - y) + 1
          · by_cases q4 : 0 ≤ c - (c - y) - 1
            · rw [RY _ _ q3 q4 (by omega), if_neg (fun z => by omega)]; rfl
            · rw [RN _ _ (.inr (by omega))]; rfl
          · rw [RN _ _ (.inl (by omega))]; rfl
        · rw [if_neg q2] at hp; omega
    have R1 := implTokenRunE (a + v, c - v, 0) A (by unfold tkFits; simp only; omega) (by omega)
    have R2 := implTokenRunE (a, c, 0) A (by unfold tkFits; simp only; omega) (by omega)
    have R3 := implTokenRunE (a + v - 1, c - v + 1, 0) A (by unfold tkFits; simp only; omega) (by omega)
    have R4 := implTokenRunE (a + v + 1, c - v - 1, 0) A (by unfold tkFits; simp only; omega) (by omega)
    rw [r1] at R1
    rw [r2] at R2
    unfold tkV at R1 R2 R3 R4
    obtain ⟨z1, hz1⟩ : ∃ z, z = (tkRun (a + v, c - v, 0) A).getD nt := ⟨_, rfl⟩
    obtain ⟨z2, hz2⟩ : ∃ z, z = (tkRun (a, c, 0) A).getD nt := ⟨_, rfl⟩
    obtain ⟨z3, hz3⟩ : ∃ z, z = (tkRun (a + v - 1, c - v + 1, 0) A).getD nt := ⟨_, rfl⟩
    obtain ⟨z4, hz4⟩ : ∃ z, z = (tkRun (a + v + 1, c - v - 1, 0) A).getD nt := ⟨_, rfl⟩
    obtain ⟨s3, hs3⟩ : ∃ z, z = (tkRun (a + v - 1, c - v + 1, 0) A).isSome := ⟨_, rfl⟩
    obtain ⟨s4, hs4⟩ : ∃ z, z = (tkRun (a + v + 1, c - v - 1, 0) A).isSome := ⟨_, rfl⟩
    rw [← hz1] at R1
    rw [← hz2] at R2
    rw [← hz3, ← hs3] at R3
    rw [← hz4, ← hs4] at R4
    rw [← hs3] at r3
    rw [← hs4] at r4
    replace R1 := Lib.hid R1
    replace R2 := Lib.hid R2
    replace R3 := Lib.hid R3
    replace R4 := Lib.hid R4
    clear r1 r2 hz1 hz2 hz3 hz4 hs3 hs4 RY RN hts hv hk hn hA hx hy hd
    go_wp2_with (go_at_call 9; refine (IT.out _).mono ?_)
    rintro e w4 ⟨rfl, b4⟩
    have C4 := Lib.hid (chain C3.out b4)
    have t4 := T3.out.below b4
    clear b4
    have l0 := t4.cell0
    have l1 := t4.cell1
    have l2 := t4.cell2
    go_wp2_with (go_at_call 12; refine (R1.out _).mono ?_)
    rintro e w5 ⟨rfl, b5⟩
    have q5 := below_alloc w5 (.cells #[.int .i64 z1.1, .int .i64 z1.2.1, .int .i64 z1.2.2] 29)
    have t5 := (t4.below b5).below q5
    obtain ⟨W5, hW5⟩ : ∃ X, X = w5.alloc (.cells #[.int .i64 z1.1, .int .i64 z1.2.1, .int .i64 z1.2.2] 29) := ⟨_, rfl⟩
    rw [← hW5] at q5 t5
    have HW5 := Lib.hid hW5.symm
    have C5 := Lib.hid (chain C4.out (chain b5 q5))
    clear hW5 q5 b5 l0 l1 l2 t4
    go_upto_region 12 with fail
    rw [HW5.out]
    have l0 := t5.cell0
    have l1 := t5.cell1
    have l2 := t5.cell2
    go_wp2_with (go_at_call 12; refine (R2.out _).mono ?_)
    rintro e w6 ⟨rfl, b6⟩
    have q6 := below_alloc w6 (.cells #[.int .i64 z2.1, .int .i64 z2.2.1, .int .i64 z2.2.2] 29)
    have t6 := (t5.below b6).below q6
    obtain ⟨W6, hW6⟩ : ∃ X, X = w6.alloc (.cells #[.int .i64 z2.1, .int .i64 z2.2.1, .int .i64 z2.2.2] 29) := ⟨_, rfl⟩
    rw [← hW6] at q6 t6
    have HW6 := Lib.hid hW6.symm
    have C6 := Lib.hid (chain C5.out (chain b6 q6))
    clear hW6 q6 b6 l0 l1 l2 t5
    go_upto_region 14 with fail
    rw [HW6.out]
    have l0 := t6.cell0
    have l1 := t6.cell1
    have l2 := t6.cell2
    by_cases hneg : v < 0
    · have r4' := r4 hneg
      have ne : (v == 0) = false := beq_eq_false_iff_ne.2 (by omega)
      have e1 : a + v - -1 = a + v + 1 := by omega
      have e2 : c - v + -1 = c - v - 1 := by omega
      subst r4'
      clear r3 r4
      go_wp2_with (go_at_call 12; refine (R4.out _).mono ?_)
      rintro e w7 ⟨rfl, b7⟩
      have C7 := Lib.hid (chain C6.out (chain b7 (below_alloc w7 (.cells #[.int .i64 z4.1, .int .i64 z4.2.1, .int .i64 z4.2.2] 29))))
      clear b7
      go_wp2_with fail
      go_ret
      exact ⟨by simp, C7.out⟩
    · by_cases hz : v = 0
      · have ne : (v == 0) = true := beq_iff_eq.2 hz
        have vneg : ¬ v < 0 := hneg
        clear r3 r4 hz
        go_wp2_with (go_at_call 12; refine (R3.out _).mono ?_)
        rintro e w7 rfl b7
        have C7 := Lib.hid (chain C6.out (chain b7 (below_alloc w7 (.cells #[.int .i64 z3.1, .int .i64 z3.2.1, .int .i64 z3.2.2] 29))))
        clear b7
        go_wp2_with fail
        go_ret
        exact ⟨by simp, C7.out⟩
      · have ne : (v == 0) = false := beq_eq_false_iff_ne.2 hz
        have r3' := r3 (by omega)
        subst r3'
        clear r3 r4 hz
        go_wp2_with (go_at_call 12; refine (R3.out _).mono ?_)
        rintro e w7 rfl b7
        have C7 := Lib.hid (chain C6.out (chain b7 (below_alloc w7 (.cells #[.int .i64 z3.1, .int .i64 z3.2.1, .int .i64 z3.2.2] 29))))
        clear b7
        go_wp2_with fail
        go_ret
        exact ⟨by simp, C7.out⟩
  · rw [decide_eq_false h15] at IT
    rw [tr_no (by rw [trOk_is hd]; exact decide_eq_false h15)] at IT
    replace IT := Lib.hid IT
    have hlen : (15 : Int) < (S.size : Int) := by omega
    clear hv hk hn hd
    go_wp2_with (go_at_call 9; refine (IT.out _).mono ?_)
    rintro e w4 ⟨rfl, b4⟩
    go_wp2_with fail
    go_ret
    exact ⟨by simp, chain C3.out b4⟩

end Go.Proofs.YthjodagbgmpbhaaGreatDoor

namespace Go.Proofs.YthjodagbgmpbhaaGreatDoor.fnTokenCarry
open Go.ChangeShapes Go.WideShapes Go.ChangeAt Go.RowKit
open Go.ChangeMaps (open_string shut_string)
set_option linter.unusedVariables false

theorem own : ownKnob Tryz.prog.godebug = none := by kernel_rfl
theorem laidOut : laidOutB Tryz.prog = true := by kernel_rfl

abbrev lst : List (String × DataW Unit) := Rows.fnTokenCarryRow.laid

set_option maxRecDepth 100000 in
theorem lifted (os : Os) (started : os.Started) (H : Type) (enc : TypeId × Value → H) :
    ReturnsInHanded {} Tryz.checked os 5 .any (fun w args => (Rows.fnTokenCarrySpec.pre enc Tryz.prog Tryz.f5 Rows.fnTokenCarryRow.domain false w args ∧ laidMetH Tryz.prog lst w) ∧ sizedMet enc Tryz.prog Tryz.f5 (OpenSpec.ofChange Rows.fnTokenCarrySpec) false w args) (Rows.fnTokenCarrySpec.post enc Tryz.prog Tryz.f5 false true false false) := by
  refine returns_shaped (C := Tryz.checked) (X := fun w _ => laidMetH Tryz.prog lst w) (fun _ _ _ hh h => h.of_heap hh) own started (by kernel_rfl) Tryz.func5
    (ChangeSpec.witness_shaped (enc := enc) (C := Tryz.checked) (os := os) (X := fun w _ => laidMetH Tryz.prog lst w) false (World.laidAll Tryz.prog os lst) #[.slice none 0 0] 8 (World.laidAll_os _ _ _)
      (World.shaped_of_ZipB (by kernel_rfl) (by kernel_rfl)) (by kernel_rfl) (by kernel_rfl) (by kernel_rfl)
      (by rw [MakeChecks.laidMetH_plain _ _ _ (by kernel_rfl)]; exact laidMet_laidAll _ (by kernel_rfl) (by kernel_rfl))) ?_
  intro W base args ds gs before hshape hval0 hW hcnd _ hL _
  have hval : ∀ (j : Nat) t v, Tryz.f5.params[j]? = some t → args[j]? = some v → Value.okWide Tryz.prog W .any base t v := hval0
  have hW' := hW
  obtain ⟨p, q, hA0, hV, rfl, hfz, hnd⟩ := hW
  have hA : DataW.TrodAll enc Tryz.prog W 0 (fun _ => true) true Tryz.f5.params.toList args.toList ds p := hA0
  rw [Tryz.params5] at hA hval
  obtain ⟨v0, vs0, d0, ds0, p0, q0, hargs, rfl, rfl, h0, r0⟩ := trodAll_cons hA
  obtain ⟨rfl, rfl, rfl⟩ := trodAll_nil r0
  obtain rfl : args = #[v0] := by cases args; simp_all
  obtain ⟨rfl, rfl⟩ := trodVars_none hV
  obtain ⟨a0, len0, cap0, rfl⟩ := okWide_slice Tryz.underlying22 (hval 0 22 v0 rfl rfl)
  have k0 := h0
  have lt0 : ∀ x ∈ p0, x.block < W.heap.size := by obtain ⟨m, hm⟩ := k0; exact DataW.trod_lt m _ _ _ hm
  obtain ⟨z0, w0⟩ : ∃ zs, IsRowK .u8 W a0 len0 cap0 zs := by
    obtain ⟨fuel, hf⟩ := h0
    rcases open_ints Tryz.underlying22 Tryz.underlying5 (by kernel_rfl) hf with ⟨hcs, _⟩ | ⟨x, l, c, zs, hcs, _, hl, hm, hz, _, hcell, hwz⟩
    · simp [Value.cells] at hcs
      obtain ⟨rfl, rfl, rfl⟩ := hcs
      exact ⟨[], .inl ⟨rfl, rfl, rfl, rfl⟩⟩
    · simp [Value.cells] at hcs
      obtain ⟨rfl, rfl, rfl⟩ := hcs
      exact ⟨zs, .inr ⟨_, rfl, hl, hm, by simpa using hz, hcell, hwz⟩⟩
  clear hA0 hval0
  refine (walk_FnTokenCarry a0 len0 cap0 z0 W w0).mono fun e W' ⟨he, bel⟩ => ?_
  subst he
  exact ⟨_, rfl, _, _, _, [], _, [], hW', trodAll_mk1 (shut_bool Tryz.underlying4 _), (trodAll_cons_mk (Below.trod laidOut (by kernel_rfl) (of_decide_eq_true (by kernel_rfl)) k0 bel lt0) trodAll_mk0), rfl, bel.frame _, fun h => by cases h⟩

theorem closed : joinedFacts Tryz.checked.prog 5 Tryz.f5 Rows.fnTokenCarrySpec Rows.fnTokenCarryRow = true := by
  unfold joinedFacts
  simp only [Bool.and_eq_true]
  repeat' (refine And.intro ?_ ?_)
  all_goals first
    | with_reducible exact may_enter
    | (rw [lifts_final]; kernel_rfl)
    | (rw [make_is]; kernel_rfl)
    | kernel_rfl

theorem over : Rows.fnTokenCarryRow.holds Tryz.pinned (OpenSpec.ofChange Rows.fnTokenCarrySpec) :=
  OpenClaim.holds_of_wide 5 Tryz.f5 rfl rfl rfl rfl rfl rfl rfl ⟨rfl, rfl, rfl, rfl, rfl⟩ rfl rfl rfl rfl rfl (by kernel_rfl) Tryz.func5 closed
    (of_decide_eq_true (by kernel_rfl)) (by unfold Func.isWrapper; first | (rw [if_pos (by decide +kernel)]; kernel_rfl) | (rw [if_neg (by decide +kernel)]; exact ⟨rfl, rfl⟩))
    (fun os started H enc _ => lifted os started H enc)

set_option maxRecDepth 100000 in
theorem proved : Rows.FnTokenCarryCardSaid :=
  Claim7.holds_tied_plain_at .later [] [.data, .pinned] true (true, "da0bbe49e90244b4bca7299c92c945dd380898e5a765bea53879b2c96e4deed0") true over (fun _ h => by cases h) (by kernel_rfl) (fun _ h => by cases h) fnTokenCarry_row_tie rfl ⟨rfl, rfl⟩ (by kernel_rfl) rfl
    (fun f fn hf hfn => by
      obtain rfl : f = 5 := Option.some.inj ((show Tryz.prog.funcNamed "loop.example/blockboxes/laws.FnTokenCarry" = some 5 by kernel_rfl).symm.trans hf) |>.symm
      obtain rfl : fn = Tryz.f5 := (Option.some.inj (Tryz.func5.symm.trans hfn)).symm
      exact ⟨by kernel_rfl, fun j t ht => by
        rw [Tryz.params5] at ht
        have hm : t ∈ [22] := by simpa using Array.mem_of_getElem? ht
        have hall : ([22].all fun u => !Tryz.prog.wantsStandIn u) = true := by kernel_rfl
        exact (show Tryz.prog.wantsStandIn t = false by simpa using List.all_eq_true.1 hall t hm)⟩)
    (by kernel_rfl)
#print axioms proved
end Go.Proofs.YthjodagbgmpbhaaGreatDoor.fnTokenCarry
