/-
  For every input the law 'FnCodeNth' returns true, and each of its arguments reads behind the call as it read before. Conditions: none beyond those of the row.
-/
import Derived.Test.YtmpelpmlmmfalaaRows
import Derived.WalkKit
import Derived.ProofKit
import Derived.OpenShut
import Derived.ShutString
import Derived.ChangeOld
import Derived.Below
import Derived.Deep.Matrix
import Derived.Test.YtmpelpmlmmfalaaDraws2
import Derived.Test.YtmpelpmlmmfalaaOrderP
import Derived.Test.YtmpelpmlmmfalaaNthW
import Derived.Test.YtmpelpmlmmfalaaRanks
import Derived.Test.YtmpelpmlmmfalaaSameL
namespace Go.Proofs.Ytmpelpmlmmfalaa
open Go.RowKit

set_option maxHeartbeats 2000000 in
theorem walk_FnCodeNth (a0 : Option Addr) (len0 cap0 : Nat) (z0 : List Int) (w : World) (w0 : IsRowK .u8 w a0 len0 cap0 z0) :
    Calls Try.prog 5 #[.slice a0 len0 cap0] w fun e w' => e = .returned (.bool true) ∧ Below w.heap.size w w' := by
  rcases Nat.lt_or_ge 1048576 len0 with hbig | hsm
  · have hb : (1048576 : Int) < (len0 : Int) := by omega
    go_enter Try.func5, Try.ntmps5
    go_wp2_with fail
    go_ret
    exact ⟨rfl, Below.refl _ _⟩
  have hb : (len0 : Int) ≤ 1048576 := by omega
  go_enter Try.func5, Try.ntmps5
  go_wp2_with (go_at_call 23; refine (drawNth w0 hsm).mono ?_)
  rintro e w1 ⟨n, r, rfl, hn0, hn1, hr0, hr1, b1⟩
  cases hv : nthOk n r
  · have HI := Lib.hid (fun W => implNth n r W)
    have HS := Lib.hid (fun W => specNth n r W)
    have e0 : nthOf n r = [] := by simp [nthOf, hv]
    rw [hv, e0] at HI HS
    clear hv e0
    go_wp2_with (go_at_call 17; refine (HI.out _).mono ?_)
    rintro e w2 ⟨v2, rfl, o2, b2⟩
    go_wp2_with (go_at_call 24; refine (HS.out _).mono ?_)
    rintro e w3 ⟨v3, rfl, o3, b3⟩
    have c2 := b1.trans (b2.mono b1.size)
    have c3 := c2.trans (b3.mono c2.size)
    have hsame := sameInts ((o2.ints (by simp)).below b3) (o3.ints (by simp))
    rw [show decide (([] : List Int) = []) = true by simp] at hsame
    have i2 := (o2.ints (by simp)).below b3
    have i3 := o3.ints (by simp)
    clear o2 o3 b2 b3 c2 b1
    go_wp2_with (go_at_call 22; refine hsame.mono ?_)
    rintro e w4 ⟨rfl, b4⟩
    have hsame2 := sameInts (i2.below b4) (i3.below b4)
    rw [show decide (([] : List Int) = []) = true by simp] at hsame2
    have c4 := c3.trans (b4.mono c3.size)
    clear hsame i2 i3 b4 c3
    go_wp2_with (go_at_call 22; refine hsame2.mono ?_)
    rintro e w5 ⟨rfl, b5⟩
    go_wp2_with fail
    go_ret
    exact ⟨rfl, c4.trans (b5.mono c4.size)⟩
  · obtain ⟨xg, _, xr, xb⟩ := nthOf_code hv
    obtain ⟨hgo, hl1, hl5⟩ := groupsB_ok xg
    have HI := Lib.hid (fun W => implNth n r W)
    have HS := Lib.hid (fun W => specNth n r W)
    have HJ := Lib.hid (fun W => implNth n (r + 1) W)
    have HM := Lib.hid (fun W => impl_codeMany n W)
    have hmb := codeMany_bounds n
    have HCASE := Lib.hid (And.intro (fun h' : nthOk n (r + 1) = true => nthOf_next hv h') (fun h' : nthOk n (r + 1) = false => nthOk_last hv h'))
    rw [hv] at HI HS
    obtain ⟨X, hX⟩ : ∃ X, X = nthOf n r := ⟨_, rfl⟩
    rw [← hX] at HI HS HCASE xr xb hl1 hl5
    obtain ⟨p, hp⟩ : ∃ p, p = nthOk n (r + 1) := ⟨_, rfl⟩
    obtain ⟨Y, hY⟩ : ∃ Y, Y = nthOf n (r + 1) := ⟨_, rfl⟩
    rw [← hp, ← hY] at HJ HCASE
    have hYl : Y.length ≤ 1048576 := by rw [hY]; exact nthOf_length _ _
    have HYN := Lib.hid (show p = false → Y = [] by rw [hp, hY]; intro q; simp [nthOf, q])
    have HXR := Lib.hid xr
    have HXB := Lib.hid xb
    have hXl : X.length ≤ 1048576 := by omega
    clear hv xg xr xb hgo hX hp hY
    go_wp2_with (go_at_call 17; refine (HI.out _).mono ?_)
    rintro e w2 ⟨v2, rfl, o2, b2⟩
    go_wp2_with (go_at_call 24; refine (HS.out _).mono ?_)
    rintro e w3 ⟨v3, rfl, o3, b3⟩
    have c2 := b1.trans (b2.mono b1.size)
    have c3 := c2.trans (b3.mono c2.size)
    have i3 := (o2.ints hXl).below b3
    have hsame := sameInts i3 (o3.ints hXl)
    rw [show decide (X = X) = true by simp] at hsame
    clear o2 o3 b2 b3 c2 b1
    go_wp2_with (go_at_call 22; refine hsame.mono ?_)
    rintro e w4 ⟨rfl, b4⟩
    have c4 := c3.trans (b4.mono c3.size)
    have i4 := i3.below b4
    clear hsame i3 b4 c3
    go_wp2_with (go_at_call 17; refine (HJ.out _).mono ?_)
    rintro e w5 ⟨v5, rfl, o5, b5⟩
    have c5 := c4.trans (b5.mono c4.size)
    have i5 := i4.below b5
    have j5 := o5.ints hYl
    have hbe := implBeats i5
    rw [HXB.out] at hbe
    have HBE := Lib.hid hbe
    clear o5 b5 c4 i4 hbe
    go_wp2_with (go_at_call 21; refine HBE.out.mono ?_)
    rintro e w6 ⟨rfl, b6⟩
    have c6 := c5.trans (b6.mono c5.size)
    have i6 := i5.below b6
    have j6 := j5.below b6
    have hra := implRank i6
    rw [HXR.out] at hra
    have HRA := Lib.hid hra
    clear b6 c5 i5 j5 hra HBE
    go_wp2_with (go_at_call 18; refine HRA.out.mono ?_)
    rintro e w7 ⟨rfl, b7⟩
    have c7 := c6.trans (b7.mono c6.size)
    have i7 := i6.below b7
    have j7 := j6.below b7
    clear b7 c6 i6 j6 HRA HI HS HJ
    obtain ⟨ax, cx, rfl, lx, hcx⟩ := i7
    obtain ⟨ay, cy, rfl, ly, hcy⟩ := j7
    have hl0 : (0 : Int) < (X.length : Int) := by omega
    cases p
    · have hY0 := HYN.out rfl
      subst hY0
      have HL := Lib.hid (HCASE.out.2 rfl)
      obtain ⟨M, hM⟩ : ∃ M, M = codeMany n := ⟨_, rfl⟩
      rw [← hM] at HL HM hmb
      have hrM : (r == M - 1) = true := by have := HL.out; simp; omega
      clear hcx hcy HCASE hM
      go_wp2_with fail
      refine wp_loop_rounds 1 ?_
      rw [rounds_succ]
      go_wp2_with (go_at_call 15; refine (HM.out _).mono ?_; rintro e w' ⟨rfl, rfl⟩)
      go_ret
      exact ⟨rfl, c7⟩
    · obtain ⟨D, hD1, hD2, hD3, hD4⟩ := HCASE.out.1 rfl
      rcases hcx with e | ⟨bx, ox, rfl, hbx, hcx⟩
      · rw [e] at hl1; simp at hl1
      rcases hcy with e | ⟨by', oy, rfl, hby, hcy⟩
      · rw [e] at hD2; simp at hD2
      have HX := Lib.hid hcx
      have HY := Lib.hid hcy
      have HE := Lib.hid (fun j (hj : j < D) => show X.getD j 0 = Y.getD j 0 by
        have h1 : (X.take D).getD j 0 = (Y.take D).getD j 0 := by rw [hD3]
        simpa [hj] using h1)
      have H4 := Lib.hid hD4
      clear hcx hcy HCASE hD3 hD4 HM HYN HXR HXB
      go_wp2_with fail
      go_loopw [11] (fun i wr => ∃ j : Nat, j ≤ D ∧ i = .int .i64 j ∧ Below w7.heap.size w7 wr) (fun i _ => D + 1 - (intOf i).toNat)
      case atStart => exact ⟨0, by omega, rfl, Below.refl _ _⟩
      case round =>
        obtain ⟨j, hj, rfl, hbel⟩ := hrel
        obtain ⟨x, hx⟩ : ∃ x, x = X.getD j 0 := ⟨_, rfl⟩
        obtain ⟨y, hy⟩ : ∃ y, y = Y.getD j 0 := ⟨_, rfl⟩
        have hc1 : wr.cell? ⟨bx, ox + j, none⟩ = some (.int .i64 x) := by rw [hx]; exact (hbel.cell (p := ⟨bx, ox + j, none⟩) hbx).trans (HX.out j (by omega))
        have hc2 : wr.cell? ⟨by', oy + j, none⟩ = some (.int .i64 y) := by rw [hy]; exact (hbel.cell (p := ⟨by', oy + j, none⟩) hby).trans (HY.out j (by omega))
        have hjx : (j : Int) < (X.length : Int) := by omega
        have hjy : (j : Int) < (Y.length : Int) := by omega
        have HHX := Lib.hid hx
        have HHY := Lib.hid hy
        clear hx hy
        by_cases hlt : j < D
        · have hxy : y = x := by rw [HHX.out, HHY.out]; exact (HE.out j hlt).symm
          subst hxy
          go_wp2_with fail
          go_quiet (fail)
          go_wp2_with fail
          go_roundw
          case rel => exact ⟨j + 1, by omega, by go_num, below_drewN hbel _⟩
          case measure => simp [intOf]; omega
        · obtain rfl : j = D := by omega
          have hxy : x < y := by rw [HHX.out, HHY.out]; exact H4.out
          have hne : (y != x) = true := by simp; omega
          go_wp2_with fail
          go_quiet (fail)
          go_wp2_with fail
          go_quiet (fail)
          go_wp2_with fail
          go_ret
          exact ⟨rfl, c7.trans ((below_drewN (below_drewN hbel _) _).mono c7.size)⟩

end Go.Proofs.Ytmpelpmlmmfalaa

namespace Go.Proofs.Ytmpelpmlmmfalaa.fnCodeNth
open Go.ChangeShapes Go.WideShapes Go.ChangeAt Go.RowKit
open Go.ChangeMaps (open_string shut_string)
set_option linter.unusedVariables false

theorem own : ownKnob Try.prog.godebug = none := by kernel_rfl
theorem laidOut : laidOutB Try.prog = true := by kernel_rfl

set_option maxRecDepth 100000 in
theorem lifted (os : Os) (started : os.Started) (H : Type) (enc : TypeId × Value → H) :
    ReturnsInHanded {} Try.checked os 5 .any (Rows.fnCodeNthSpec.pre6 enc Try.prog Try.f5 Rows.fnCodeNthRow.domain false) (Rows.fnCodeNthSpec.post enc Try.prog Try.f5 false true false false) := by
  refine returnsInHanded_of_change (C := Try.checked) own started (by kernel_rfl) Try.func5
    (ChangeSpec.witness6 (enc := enc) (C := Try.checked) false ⟨#[], #[.slice none 0 0], []⟩ 8 (by kernel_rfl) (by kernel_rfl) (by kernel_rfl) (by kernel_rfl)) ?_
  intro W base args ds gs before hval0 hW hcnd _
  have hval : ∀ (j : Nat) t v, Try.f5.params[j]? = some t → args[j]? = some v → Value.okWide Try.prog W .any base t v := hval0
  have hW' := hW
  obtain ⟨p, q, hA0, hV, rfl, hfz, hnd⟩ := hW
  have hA : DataW.TrodAll enc Try.prog W 0 (fun _ => true) true Try.f5.params.toList args.toList ds p := hA0
  rw [Try.params5] at hA hval
  obtain ⟨v0, vs0, d0, ds0, p0, q0, hargs, rfl, rfl, h0, r0⟩ := trodAll_cons hA
  obtain ⟨rfl, rfl, rfl⟩ := trodAll_nil r0
  obtain rfl : args = #[v0] := by cases args; simp_all
  obtain ⟨rfl, rfl⟩ := trodVars_none hV
  obtain ⟨a0, len0, cap0, rfl⟩ := okWide_slice Try.underlying22 (hval 0 22 v0 rfl rfl)
  have k0 := h0
  have lt0 : ∀ x ∈ p0, x.block < W.heap.size := by obtain ⟨m, hm⟩ := k0; exact DataW.trod_lt m _ _ _ hm
  obtain ⟨z0, w0⟩ : ∃ zs, IsRowK .u8 W a0 len0 cap0 zs := by
    obtain ⟨fuel, hf⟩ := h0
    rcases open_ints Try.underlying22 Try.underlying5 (by kernel_rfl) hf with ⟨hcs, _⟩ | ⟨x, l, c, zs, hcs, _, hl, hm, hz, _, hcell, hwz⟩
    · simp [Value.cells] at hcs
      obtain ⟨rfl, rfl, rfl⟩ := hcs
      exact ⟨[], .inl ⟨rfl, rfl, rfl, rfl⟩⟩
    · simp [Value.cells] at hcs
      obtain ⟨rfl, rfl, rfl⟩ := hcs
      exact ⟨zs, .inr ⟨_, rfl, hl, hm, by simpa using hz, hcell, hwz⟩⟩
  clear hA0 hval0
  refine (walk_FnCodeNth a0 len0 cap0 z0 W w0).mono fun e W' ⟨he, bel⟩ => ?_
  subst he
  exact ⟨_, rfl, _, _, _, [], _, [], hW', trodAll_mk1 (shut_bool Try.underlying4 _), (trodAll_cons_mk (Below.trod laidOut (by kernel_rfl) (of_decide_eq_true (by kernel_rfl)) k0 bel lt0) trodAll_mk0), rfl, bel.frame _, fun h => by cases h⟩

theorem over : Rows.fnCodeNthRow.holds Try.pinned (OpenSpec.ofChange Rows.fnCodeNthSpec) :=
  OpenClaim.holds_of_wide 5 Try.f5 rfl rfl rfl rfl rfl rfl rfl ⟨rfl, rfl, rfl, rfl, rfl⟩ rfl rfl rfl rfl rfl (by kernel_rfl) Try.func5 (by kernel_rfl)
    (of_decide_eq_true (by kernel_rfl)) (by unfold Func.isWrapper; first | (rw [if_pos (by decide +kernel)]; kernel_rfl) | (rw [if_neg (by decide +kernel)]; exact ⟨rfl, rfl⟩))
    (fun os started H enc _ => lifted os started H enc)

theorem proved : Rows.FnCodeNthSaid := over
#print axioms proved
end Go.Proofs.Ytmpelpmlmmfalaa.fnCodeNth
