/-
  For every input the law 'FnCountsClear' returns true, and each of its arguments reads behind the call as it read before. Conditions: none beyond those of the row.
-/
import Derived.Test.YtmdkfhbkdeoahaaRows
import Derived.WalkKit
import Derived.ProofKit
import Derived.OpenShut
import Derived.ShutString
import Derived.ChangeOld
import Derived.Below
import Derived.Deep.Matrix
import Derived.Test.YtmdkfhbkdeoahaaIo
import Derived.Test.YtmdkfhbkdeoahaaCtrQ
import Derived.Test.YtmdkfhbkdeoahaaDrwC
import Derived.Test.YtmdkfhbkdeoahaaSameL
import Derived.Test.YtmdkfhbkdeoahaaHasI
namespace Go.Proofs.Ytmdkfhbkdeoahaa
open Go.RowKit

set_option maxHeartbeats 8000000 in
theorem walk_FnCountsClear (a0 : Option Addr) (len0 cap0 : Nat) (z0 : List Int) (a1 : Option Addr) (len1 cap1 : Nat) (z1 : List Int) (w : World) (w0 : IsRowK .u8 w a0 len0 cap0 z0) (w1 : IsRowK .u8 w a1 len1 cap1 z1) :
    Calls Try.prog 5 #[.slice a0 len0 cap0, .slice a1 len1 cap1] w fun e w' => e = .returned (.bool true) ∧ Below w.heap.size w w' := by
  rcases Nat.lt_or_ge 1048576 len0 with hbig | hsm
  · have hb : (1048576 : Int) < (len0 : Int) := by omega
    go_enter Try.func5, Try.ntmps5
    go_wp2_with fail
    go_ret
    exact ⟨rfl, Below.refl _ _⟩
  have hb : (len0 : Int) ≤ 1048576 := by omega
  rcases Nat.lt_or_ge 1048576 len1 with hbig | hsm1
  · have hb1 : (1048576 : Int) < (len1 : Int) := by omega
    go_enter Try.func5, Try.ntmps5
    go_wp2_with fail
    go_ret
    exact ⟨rfl, Below.refl _ _⟩
  have hb1 : (len1 : Int) ≤ 1048576 := by omega
  have DN := Lib.hid (drawCountsClear w0 hsm)
  have _ := w1
  clear w0 w1
  go_enter Try.func5, Try.ntmps5
  go_wp2_with (go_at_call 17; refine DN.out.mono ?_)
  rintro e wA ⟨v, cs, rfl, iA, hl4, hlo, bA⟩
  have h4i : (cs.length : Int) ≤ 4 := by omega
  have SC := fun (W : World) (q : Below wA.heap.size wA W) => specClear (iA.below q)
  have IC := Lib.hid (implClear iA)
  have HS := Lib.hid (fun (h : cntB cs = true) (i : Nat) (hi : i < cs.length) => cl_has h hi)
  have CP := Lib.hid (fun (h : cntB cs = true) (x : Int) (hx : x ∈ clL cs) => cl_pulse h hx)
  have hL8 := clL_length cs
  have hv := @clL_not cs
  have IP := Lib.hid (fun (x : Int) (hx : -9223372036854775808 ≤ x ∧ x ≤ 9223372036854775807) (W : World) (q : Below wA.heap.size wA W) => implPulse (iA.below q) hx)
  obtain ⟨a, c, rfl, hsp⟩ := iA.spot
  have SP := Lib.hid hsp
  obtain ⟨L, hL⟩ : ∃ L, L = clL cs := ⟨_, rfl⟩
  rw [← hL] at IC HS CP hL8 hv
  simp only [← hL] at SC
  have SC := Lib.hid SC
  have IA := Lib.hid iA
  clear hL iA hsp
  have hL8i : (L.length : Int) ≤ 8 := by omega
  have BA := Lib.hid bA
  clear bA
  go_wp2_with (go_at_call 18; refine IC.out.mono ?_)
  rintro e wB ⟨vB, rfl, oB, bB⟩
  obtain ⟨aB, cB, rfl, iB⟩ := own_list oB (by omega)
  have BB := Lib.hid bB
  clear oB bB
  go_wp2_with (go_at_call 19; refine (SC.out _ BB.out).mono ?_)
  rintro e wC ⟨vC, rfl, oC, bC⟩
  have BC := Lib.hid (chain BB.out bC)
  have IB := Lib.hid (iB.below bC)
  have IC2 := Lib.hid (oC.ints (by omega))
  clear bC oC iB IC SC
  have SM := sameInts IB.out IC2.out
  rw [decide_eq_true rfl] at SM
  have SM := Lib.hid SM
  by_cases h0 : L.length = 0
  · have t0 : ((L.length : Int) == 0) = true := by rw [h0]; rfl
    clear h0
    go_wp2_with (first
      | (go_at_call 11; refine SM.out.mono ?_)
      | fail)
    rintro e w4 ⟨rfl, b4⟩
    have SM2 := sameInts (IB.out.below b4) (IC2.out.below b4)
    rw [decide_eq_true rfl] at SM2
    have SM2 := Lib.hid SM2
    go_wp2_with (go_at_call 11; refine SM2.out.mono ?_; rintro e w5 ⟨rfl, b5⟩)
    go_ret
    exact ⟨rfl, chain (chain BA.out BC.out) (chain b4 b5)⟩
  have hc : cntB cs = true := by
    cases e : cntB cs
    · have := hv e
      rw [this] at h0
      exact absurd rfl h0
    · rfl
  have t0 : ((L.length : Int) == 0) = false := beq_eq_false_iff_ne.2 (by omega)
  have HSc := Lib.hid (HS.out hc)
  have CPc := Lib.hid (CP.out hc)
  have hLn : 0 < L.length := by omega
  clear h0 hv HS CP hc
  go_wp2_with (go_at_call 11; refine SM.out.mono ?_; rintro e w4 ⟨rfl, b4⟩)
  have B4 := Lib.hid (chain BC.out b4)
  have I4 := Lib.hid (IB.out.below b4)
  clear b4 SM IB IC2 BB BC
  go_loopw [8] (fun i wr => ∃ k : Nat, k ≤ cs.length ∧ i = .int .i64 k ∧ Below w4.heap.size w4 wr) (fun i _ => cs.length - (intOf i).toNat)
  case atStart => exact ⟨0, by omega, rfl, Below.refl _ _⟩
  case round =>
    obtain ⟨k, hk, rfl, hbel⟩ := hrel
    have BR := Lib.hid hbel
    clear hbel
    by_cases hlt : k < cs.length
    · have hki : (k : Int) < (cs.length : Int) := by omega
      obtain ⟨b, o, rfl, hb, hcell⟩ := SP.out k hlt
      obtain ⟨x, hx⟩ : ∃ x, x = cs.getD k 0 := ⟨_, rfl⟩
      have hc1 : wr.cell? ⟨b, o + k, none⟩ = some (.int .i64 x) := by rw [hx]; exact ((B4.out.trans (BR.out.mono B4.out.size)).cell (p := ⟨b, o + k, none⟩) hb).trans (hcell k hlt)
      have G1 := fun (d : Nat) (os : Array Obj) => Calls.regrown_of (hasInt (I4.out.below (BR.out.trans ((below_regrown wr d os).mono BR.out.size))) k)
      rw [HSc.out k hlt, ← hx] at G1
      have z1 := fun d os => cell_regrown hc1 d os
      obtain ⟨t, ht1, ht2⟩ : ∃ t : Bool, decide (x = 0) = t ∧ (x == 0) = t := ⟨_, rfl, rfl⟩
      rw [ht1] at G1
      have hbb : (t != t) = false := bne_self_eq_false t
      have G1 := Lib.hid G1
      clear hx hcell hc1 ht1
      go_wp2_with fail
      refine wp_region_quiet_below (by kernel_rfl) (by kernel_rfl) ?_
      repeat (go_big_quiet_step (exact G1.out _ _))
      refine wpQuiet_nil ?_
      intro _ hw'
      obtain ⟨⟨dq, osq⟩, hw''⟩ := hw'
      subst hw''
      have B6 := Lib.hid (BR.out.trans ((below_regrown wr dq osq).mono BR.out.size))
      clear z1 G1
      go_wp2_with fail
      go_roundw
      case rel => exact ⟨k + 1, by omega, by go_num, B6.out⟩
      case measure => simp [intOf]; omega
    · obtain rfl : k = cs.length := by omega
      clear hlt
      have hml : len1 % L.length < L.length := Nat.mod_lt _ hLn
      obtain ⟨x, hx⟩ : ∃ x, x = L.getD (len1 % L.length) 0 := ⟨_, rfl⟩
      have hxm : x ∈ L := by rw [hx]; simp [hml]
      obtain ⟨kx, rfl, hkx, hp, hq⟩ := CPc.out x hxm
      have I5 := I4.out.below BR.out
      obtain ⟨_, _, e5, hs5⟩ := I5.spot
      simp only [Value.slice.injEq] at e5
      obtain ⟨rfl, -, rfl⟩ := e5
      obtain ⟨b5, o5, rfl, hb5, hc5⟩ := hs5 _ hml
      have hcx : wr.cell? ⟨b5, o5 + len1 % L.length, none⟩ = some (.int .i64 kx) := by rw [hc5 _ hml, ← hx]
      have hLi : (0 : Int) < (L.length : Int) := by omega
      have hm1 : (len1 : Int) % (L.length : Int) < (L.length : Int) := Int.emod_lt_of_pos _ hLi
      have hm0 : 0 ≤ (len1 : Int) % (L.length : Int) := Int.emod_nonneg _ (by omega)
      have PU := Lib.hid (IP.out kx (by omega) wr (B4.out.trans (BR.out.mono B4.out.size)))
      have B5 := Lib.hid (B4.out.trans (BR.out.mono B4.out.size))
      obtain ⟨o, ho⟩ : ∃ o, o = pulC cs kx := ⟨_, rfl⟩
      have hol := pulC_len (cs := cs) (p := (kx : Int))
      rw [← ho] at PU hp hq hol
      have HP := Lib.hid hp
      have HQ := Lib.hid hq
      have hki : (kx : Int) ≤ 4 := by omega
      clear hs5 hc5 hx hxm I5 ho hp hq hml
      go_wp2_with (go_at_call 9; refine PU.out.mono ?_)
      rintro e w5 ⟨v5, rfl, o5, b5⟩
      have C5 := Lib.hid (chain BA.out (chain B5.out b5))
      have I6 := IA.out.below (chain B5.out b5)
      obtain ⟨_, _, e6, hs6⟩ := I6.spot
      simp only [Value.slice.injEq] at e6
      obtain ⟨rfl, -, rfl⟩ := e6
      have S6 := Lib.hid hs6
      clear b5 hs6 I6
      by_cases hz : kx = 0
      · have tz : ((kx : Int) == 0) = true := by rw [hz]; rfl
        obtain ⟨ds, rfl⟩ : ∃ ds, o = some ds := by
          have := HP.out
          rw [hz] at this
          exact Option.isSome_iff_exists.1 (by rw [this]; rfl)
        have HD := HQ.out ds rfl
        have CL := Lib.hid (implClear (o5.ints hol))
        have hl2 := clL_length ds
        clear hz
        go_wp2_with (go_at_call 18; refine CL.out.mono ?_)
        rintro e w6 ⟨v6, rfl, o6, b6⟩
        have HI := hasInt (o6.ints (by simp only [Option.getD]; omega)) kx
        rw [show (some ds).getD [] = ds from rfl, HD] at HI
        have HI := Lib.hid HI
        have C6 := Lib.hid (chain C5.out b6)
        clear b6 o6 o5
        go_wp2_with (go_at_call 20; refine HI.out.mono ?_; rintro e w7 ⟨rfl, b7⟩)
        go_ret
        exact ⟨rfl, chain C6.out b7⟩
      · have tz : ((kx : Int) == 0) = false := beq_eq_false_iff_ne.2 (by omega)
        have tp : 0 < kx := by omega
        obtain ⟨j, hjk⟩ : ∃ j, kx = j + 1 := ⟨kx - 1, by omega⟩
        have hj : j < cs.length := by omega
        have hji : (j : Int) < (cs.length : Int) := by omega
        have hw1 : IntKind.i64.wrap ((kx : Int) - 1) = (j : Int) := by rw [IntWalk.i64_in _ (by omega)]; omega
        obtain ⟨bj, oj, rfl, hbj, hcj⟩ := S6.out j hj
        obtain ⟨y, hy⟩ : ∃ y, y = cs.getD j 0 := ⟨_, rfl⟩
        have hcy := hcj j hj
        rw [← hy] at hcy
        have hp := HP.out
        rw [show kx - 1 = j by omega, ← hy, decide_eq_false hz, Bool.false_or] at hp
        clear hz hjk hy hcj
        cases o with
        | none =>
          have ty : decide (0 < y) = false := hp.symm
          clear hp
          go_wp2_with fail
          go_ret
          exact ⟨rfl, C5.out⟩
        | some ds =>
          have ty : decide (0 < y) = true := hp.symm
          have HD := HQ.out ds rfl
          have CL := Lib.hid (implClear (o5.ints hol))
          have hl2 := clL_length ds
          clear hp
          go_wp2_with (go_at_call 18; refine CL.out.mono ?_)
          rintro e w6 ⟨v6, rfl, o6, b6⟩
          have HI := hasInt (o6.ints (by simp only [Option.getD]; omega)) kx
          rw [show (some ds).getD [] = ds from rfl, HD] at HI
          have HI := Lib.hid HI
          have C6 := Lib.hid (chain C5.out b6)
          clear b6 o6 o5
          go_wp2_with (go_at_call 20; refine HI.out.mono ?_; rintro e w7 ⟨rfl, b7⟩)
          go_ret
          exact ⟨rfl, chain C6.out b7⟩

end Go.Proofs.Ytmdkfhbkdeoahaa

namespace Go.Proofs.Ytmdkfhbkdeoahaa.fnCountsClear
open Go.ChangeShapes Go.WideShapes Go.ChangeAt Go.RowKit
open Go.ChangeMaps (open_string shut_string)
set_option linter.unusedVariables false

theorem own : ownKnob Try.prog.godebug = none := by kernel_rfl
theorem laidOut : laidOutB Try.prog = true := by kernel_rfl

set_option maxRecDepth 100000 in
theorem lifted (os : Os) (started : os.Started) (H : Type) (enc : TypeId × Value → H) :
    ReturnsInHanded {} Try.checked os 5 .any (Rows.fnCountsClearSpec.pre6 enc Try.prog Try.f5 Rows.fnCountsClearRow.domain false) (Rows.fnCountsClearSpec.post enc Try.prog Try.f5 false true false false) := by
  refine returnsInHanded_of_change (C := Try.checked) own started (by kernel_rfl) Try.func5
    (ChangeSpec.witness6 (enc := enc) (C := Try.checked) false ⟨#[], #[.slice none 0 0, .slice none 0 0], []⟩ 8 (by kernel_rfl) (by kernel_rfl) (by kernel_rfl) (by kernel_rfl)) ?_
  intro W base args ds gs before hval0 hW hcnd _
  have hval : ∀ (j : Nat) t v, Try.f5.params[j]? = some t → args[j]? = some v → Value.okWide Try.prog W .any base t v := hval0
  have hW' := hW
  obtain ⟨p, q, hA0, hV, rfl, hfz, hnd⟩ := hW
  have hA : DataW.TrodAll enc Try.prog W 0 (fun _ => true) true Try.f5.params.toList args.toList ds p := hA0
  rw [Try.params5] at hA hval
  obtain ⟨v0, vs0, d0, ds0, p0, q0, hargs, rfl, rfl, h0, r0⟩ := trodAll_cons hA
  obtain ⟨v1, vs1, d1, ds1, p1, q1, rfl, rfl, rfl, h1, r1⟩ := trodAll_cons r0
  obtain ⟨rfl, rfl, rfl⟩ := trodAll_nil r1
  obtain rfl : args = #[v0, v1] := by cases args; simp_all
  obtain ⟨rfl, rfl⟩ := trodVars_none hV
  obtain ⟨a0, len0, cap0, rfl⟩ := okWide_slice Try.underlying22 (hval 0 22 v0 rfl rfl)
  have k0 := h0
  have lt0 : ∀ x ∈ p0, x.block < W.heap.size := by obtain ⟨m, hm⟩ := k0; exact DataW.trod_lt m _ _ _ hm
  obtain ⟨z0, w0⟩ : ∃ zs, IsRowK .u8 W a0 len0 cap0 zs := by
    obtain ⟨fuel, hf⟩ := h0
    rcases open_ints Try.underlying22 Try.underlying5 (by kernel_rfl) hf with ⟨hcs, _⟩ | ⟨x, l, c, zs, hcs, _, hl, hm, hz, _, hcell, hwz⟩
    · simp [Value.cells] at hcs
      obtain ⟨rfl, rfl, rfl⟩ := hcs
      exact ⟨[], .inl ⟨rfl, rfl, rfl, rfl⟩⟩
    · simp [Value.cells] at hcs
      obtain ⟨rfl, rfl, rfl⟩ := hcs
      exact ⟨zs, .inr ⟨_, rfl, hl, hm, by simpa using hz, hcell, hwz⟩⟩
  obtain ⟨a1, len1, cap1, rfl⟩ := okWide_slice Try.underlying22 (hval 1 22 v1 rfl rfl)
  have k1 := h1
  have lt1 : ∀ x ∈ p1, x.block < W.heap.size := by obtain ⟨m, hm⟩ := k1; exact DataW.trod_lt m _ _ _ hm
  obtain ⟨z1, w1⟩ : ∃ zs, IsRowK .u8 W a1 len1 cap1 zs := by
    obtain ⟨fuel, hf⟩ := h1
    rcases open_ints Try.underlying22 Try.underlying5 (by kernel_rfl) hf with ⟨hcs, _⟩ | ⟨x, l, c, zs, hcs, _, hl, hm, hz, _, hcell, hwz⟩
    · simp [Value.cells] at hcs
      obtain ⟨rfl, rfl, rfl⟩ := hcs
      exact ⟨[], .inl ⟨rfl, rfl, rfl, rfl⟩⟩
    · simp [Value.cells] at hcs
      obtain ⟨rfl, rfl, rfl⟩ := hcs
      exact ⟨zs, .inr ⟨_, rfl, hl, hm, by simpa using hz, hcell, hwz⟩⟩
  clear hA0 hval0
  refine (walk_FnCountsClear a0 len0 cap0 z0 a1 len1 cap1 z1 W w0 w1).mono fun e W' ⟨he, bel⟩ => ?_
  subst he
  exact ⟨_, rfl, _, _, _, [], _, [], hW', trodAll_mk1 (shut_bool Try.underlying4 _), (trodAll_cons_mk (Below.trod laidOut (by kernel_rfl) (of_decide_eq_true (by kernel_rfl)) k0 bel lt0) (trodAll_cons_mk (Below.trod laidOut (by kernel_rfl) (of_decide_eq_true (by kernel_rfl)) k1 bel lt1) trodAll_mk0)), rfl, bel.frame _, fun h => by cases h⟩

theorem closed : joinedFacts Try.checked.prog 5 Try.f5 Rows.fnCountsClearSpec Rows.fnCountsClearRow = true := by
  unfold joinedFacts
  simp only [Bool.and_eq_true]
  repeat' (refine And.intro ?_ ?_)
  all_goals first
    | with_reducible exact may_enter
    | (rw [lifts_final]; kernel_rfl)
    | (rw [make_is]; kernel_rfl)
    | kernel_rfl

theorem over : Rows.fnCountsClearRow.holds Try.pinned (OpenSpec.ofChange Rows.fnCountsClearSpec) :=
  OpenClaim.holds_of_wide 5 Try.f5 rfl rfl rfl rfl rfl rfl rfl ⟨rfl, rfl, rfl, rfl, rfl⟩ rfl rfl rfl rfl rfl (by kernel_rfl) Try.func5 closed
    (of_decide_eq_true (by kernel_rfl)) (by unfold Func.isWrapper; first | (rw [if_pos (by decide +kernel)]; kernel_rfl) | (rw [if_neg (by decide +kernel)]; exact ⟨rfl, rfl⟩))
    (fun os started H enc _ => lifted os started H enc)

theorem proved : Rows.FnCountsClearSaid := over
#print axioms proved
end Go.Proofs.Ytmdkfhbkdeoahaa.fnCountsClear
