/-
  For every input the law 'FnCodeMany' returns true, and each of its arguments reads behind the call as it read before. Conditions: none beyond those of the row.
-/
import Derived.Test.YtmpelpmlmmfalaaRows
import Derived.WalkKit
import Derived.ProofKit
import Derived.OpenShut
import Derived.ShutString
import Derived.ChangeOld
import Derived.Below
import Derived.Deep.Matrix
import Derived.Test.YtmpelpmlmmfalaaDraws1
import Derived.Test.YtmpelpmlmmfalaaRankP
import Derived.Test.YtmpelpmlmmfalaaNthW
import Derived.Test.YtmpelpmlmmfalaaRanks
import Derived.Lib.QuietBelow
namespace Go.Proofs.Ytmpelpmlmmfalaa
open Go.RowKit

set_option maxHeartbeats 2000000 in
theorem walk_FnCodeMany (a0 : Option Addr) (len0 cap0 : Nat) (z0 : List Int) (w : World) (w0 : IsRowK .u8 w a0 len0 cap0 z0) :
    Calls Try.prog 3 #[.slice a0 len0 cap0] w fun e w' => e = .returned (.bool true) ∧ Below w.heap.size w w' := by
  rcases Nat.lt_or_ge 1048576 len0 with hbig | hsm
  · have hb : (1048576 : Int) < (len0 : Int) := by omega
    go_enter Try.func3, Try.ntmps3
    go_wp2_with fail
    go_ret
    exact ⟨rfl, Below.refl _ _⟩
  have hb : (len0 : Int) ≤ 1048576 := by omega
  go_enter Try.func3, Try.ntmps3
  go_wp2_with (go_at_call 14; refine (drawMany w0 hsm).mono ?_)
  rintro e w1 ⟨n, rfl, hn0, hn1, b1⟩
  have hcb := codeMany_bounds n
  obtain ⟨out, hout⟩ : ∃ out, out = codeMany n := ⟨_, rfl⟩
  have HSM := Lib.hid (fun W => spec_codeMany n W)
  have HIM := Lib.hid (fun W => impl_codeMany n W)
  rw [← hout] at HSM HIM hcb
  have HOUT := Lib.hid hout
  clear hout w0 hsm
  by_cases hneg : out < 0
  · go_wp2_with (first | (go_at_call 15; refine (HIM.out _).mono ?_; rintro e w' ⟨rfl, rfl⟩) | (go_at_call 16; refine (HSM.out _).mono ?_; rintro e w' ⟨rfl, rfl⟩))
    go_ret
    exact ⟨rfl, b1⟩
  · have hpos : 0 ≤ out := by omega
    clear hneg
    go_wp2_with (first | (go_at_call 15; refine (HIM.out _).mono ?_; rintro e w' ⟨rfl, rfl⟩) | (go_at_call 16; refine (HSM.out _).mono ?_; rintro e w' ⟨rfl, rfl⟩))
    by_cases hz : out = 0
    · have hn : n = 0 := by
        have h1 := HOUT.out
        apply Classical.byContradiction
        intro hne
        by_cases hr : 1 ≤ n ∧ n ≤ 30
        · have := codeMany_pos hr.1 hr.2; omega
        · unfold codeMany at h1; rw [if_pos (by omega)] at h1; omega
      subst hz
      subst hn
      have e1 : nthOk 0 0 = false := by simp [nthOk, ← HOUT.out]
      have e2 : nthOk 0 (-1) = false := by simp [nthOk]
      have N0 := Lib.hid (fun W => implNth 0 0 W)
      have N1 := Lib.hid (fun W => implNth 0 (-1) W)
      rw [e1] at N0
      rw [e2] at N1
      refine (N0.out _).mono ?_
      rintro e w2 ⟨v2, rfl, _, b2⟩
      go_wp2_with fail
      refine (N1.out _).mono ?_
      rintro e w3 ⟨v3, rfl, _, b3⟩
      go_wp2_with fail
      refine (N0.out _).mono ?_
      rintro e w4 ⟨v4, rfl, _, b4⟩
      go_wp2_with fail
      go_ret
      have c2 := b1.trans (b2.mono b1.size)
      have c3 := c2.trans (b3.mono c2.size)
      exact ⟨rfl, c3.trans (b4.mono c3.size)⟩
    · have hn : 1 ≤ n ∧ n ≤ 30 := by
        have h1 := HOUT.out
        apply Classical.byContradiction
        intro hr
        unfold codeMany at h1
        by_cases q : n < 0 ∨ 30 < n
        · rw [if_pos q] at h1; omega
        · rw [if_neg q, if_pos (by omega)] at h1; omega
      have e1 : nthOk n out = false := by simp [nthOk, ← HOUT.out]
      have e2 : nthOk n (out - 1) = true := nthOk_of (by omega) (by rw [← HOUT.out]; omega)
      have e3 : nthOk n 0 = true := nthOk_of (by omega) (by rw [← HOUT.out]; omega)
      have N1 := Lib.hid (fun W => implNth n out W)
      have N2 := Lib.hid (fun W => implNth n (out - 1) W)
      have N3 := Lib.hid (fun W => implNth n 0 W)
      rw [e1] at N1
      rw [e2] at N2
      rw [e3] at N3
      obtain ⟨X, hX⟩ : ∃ X, X = nthOf n (out - 1) := ⟨_, rfl⟩
      obtain ⟨Y, hY⟩ : ∃ Y, Y = nthOf n 0 := ⟨_, rfl⟩
      have xc := nthOf_code e2
      have yc := nthOf_code e3
      have xf := nthOf_first e2
      have yf := nthOf_first e3
      have xl := last_first hn.1 hn.2
      have yg := nthG_is 4 n.toNat 0 (by omega) (by omega) (by have := (nthOk_is e3).2.2.2; exact this)
      rw [← HOUT.out] at xl
      rw [← hX] at xc xf N2
      rw [← hY] at yc yf N3
      have xg := groupsB_ok xc.1
      have ygr := groupsB_ok yc.1
      obtain ⟨x0, hx0⟩ : ∃ x0, x0 = X.getD 0 0 := ⟨_, rfl⟩
      obtain ⟨y0, hy0⟩ : ∃ y0, y0 = Y.getD 0 0 := ⟨_, rfl⟩
      have hge : y0 ≤ x0 := by rw [hx0, hy0, xf, yf, xl]; omega
      have hx6 : x0 = min n 6 := by rw [hx0, xf, xl]
      have XR := Lib.hid xc.2.2.1
      have YR := Lib.hid yc.2.2.1
      have hXl : 1 ≤ X.length ∧ X.length ≤ 1048576 := by omega
      have hYl : 1 ≤ Y.length ∧ Y.length ≤ 1048576 := by omega
      have HX0 := Lib.hid hx0
      have HY0 := Lib.hid hy0
      have H6 := Lib.hid hx6
      have hz' : (out == 0) = false := by simpa using hz
      have hn1' := hn.1
      have hn2' := hn.2
      clear hX hY xc yc xf yf xl yg xg ygr hx0 hy0 hx6 e1 e2 e3 hz hn HOUT
      refine (N1.out _).mono ?_
      rintro e w2 ⟨v2, rfl, _, b2⟩
      go_wp2_with fail
      refine (N2.out _).mono ?_
      rintro e w3 ⟨vx, rfl, ox, b3⟩
      go_wp2_with fail
      refine (N3.out _).mono ?_
      rintro e w4 ⟨vy, rfl, oy, b4⟩
      have c2 := b1.trans (b2.mono b1.size)
      have c3 := c2.trans (b3.mono c2.size)
      have c4 := c3.trans (b4.mono c3.size)
      have ix := (ox.ints hXl.2).below b4
      have iy := oy.ints hYl.2
      have C4 := Lib.hid c4
      clear ox oy b2 b3 b4 c2 c3 b1 c4 N1 N2 N3 HSM HIM
      obtain ⟨ax, cx, rfl, lx, hcx⟩ := id ix
      obtain ⟨ay, cy, rfl, ly, hcy⟩ := id iy
      rcases hcx with e | ⟨bx, ox, rfl, hbx, hcx⟩
      · rw [e] at hXl; simp at hXl
      rcases hcy with e | ⟨by', oy, rfl, hby, hcy⟩
      · rw [e] at hYl; simp at hYl
      have kx : w4.cell? ⟨bx, ox, none⟩ = some (.int .i64 x0) := by have := hcx 0 (by omega); rw [← HX0.out] at this; simpa using this
      have ky : w4.cell? ⟨by', oy, none⟩ = some (.int .i64 y0) := by have := hcy 0 (by omega); rw [← HY0.out] at this; simpa using this
      have dx : ∀ d os, (Sort.grow (redrawn w4 d) os).cell? ⟨bx, ox, none⟩ = some (.int .i64 x0) := fun d os => cell_regrown kx d os
      have dy : ∀ d os, (Sort.grow (redrawn w4 d) os).cell? ⟨by', oy, none⟩ = some (.int .i64 y0) := fun d os => cell_regrown ky d os
      have RX := Lib.hid (fun d os => Calls.regrown_of (implRank (ix.below (below_regrown w4 d os))))
      have RY := Lib.hid (fun d os => Calls.regrown_of (implRank (iy.below (below_regrown w4 d os))))
      rw [XR.out] at RX
      rw [YR.out] at RY
      have hlx : (0 : Int) < (X.length : Int) := by omega
      have hly : (0 : Int) < (Y.length : Int) := by omega
      have hw1 : IntKind.i64.wrap (out - 1) = out - 1 := IntWalk.i64_in _ (by omega)
      have hmin : min n 6 = x0 := H6.out.symm
      have hmm : (if n ≤ 6 then n else 6) = x0 := by rw [← hmin]; omega
      have hmm2 : (if 6 < n then 6 else n) = x0 := by rw [← hmin]; omega
      have hlx' : 0 < X.length := by omega
      have hly' : 0 < Y.length := by omega
      clear hcx hcy ix iy kx ky HX0 HY0 XR YR
      go_wp2_with fail
      go_outline
      refine wp_region_quiet_below (by kernel_rfl) (by kernel_rfl) ?_
      repeat (quiet_step (first | (with_reducible exact RX.out _ _) | (with_reducible exact RY.out _ _)))
      refine wpQuiet_nil ?_
      intro _ hw'
      obtain ⟨⟨dq, osq⟩, hw''⟩ := hw'
      subst hw''
      go_wp2_with fail
      go_ret
      exact ⟨rfl, C4.out.trans ((below_regrown w4 dq osq).mono C4.out.size)⟩

end Go.Proofs.Ytmpelpmlmmfalaa

namespace Go.Proofs.Ytmpelpmlmmfalaa.fnCodeMany
open Go.ChangeShapes Go.WideShapes Go.ChangeAt Go.RowKit
open Go.ChangeMaps (open_string shut_string)
set_option linter.unusedVariables false

theorem own : ownKnob Try.prog.godebug = none := by kernel_rfl
theorem laidOut : laidOutB Try.prog = true := by kernel_rfl

set_option maxRecDepth 100000 in
theorem lifted (os : Os) (started : os.Started) (H : Type) (enc : TypeId × Value → H) :
    ReturnsInHanded {} Try.checked os 3 .any (Rows.fnCodeManySpec.pre6 enc Try.prog Try.f3 Rows.fnCodeManyRow.domain false) (Rows.fnCodeManySpec.post enc Try.prog Try.f3 false true false false) := by
  refine returnsInHanded_of_change (C := Try.checked) own started (by kernel_rfl) Try.func3
    (ChangeSpec.witness6 (enc := enc) (C := Try.checked) false ⟨#[], #[.slice none 0 0], []⟩ 8 (by kernel_rfl) (by kernel_rfl) (by kernel_rfl) (by kernel_rfl)) ?_
  intro W base args ds gs before hval0 hW hcnd _
  have hval : ∀ (j : Nat) t v, Try.f3.params[j]? = some t → args[j]? = some v → Value.okWide Try.prog W .any base t v := hval0
  have hW' := hW
  obtain ⟨p, q, hA0, hV, rfl, hfz, hnd⟩ := hW
  have hA : DataW.TrodAll enc Try.prog W 0 (fun _ => true) true Try.f3.params.toList args.toList ds p := hA0
  rw [Try.params3] at hA hval
  obtain ⟨v0, vs0, d0, ds0, p0, q0, hargs, rfl, rfl, h0, r0⟩ := trodAll_cons hA
  obtain ⟨rfl, rfl, rfl⟩ := trodAll_nil r0
  obtain rfl : args = #[v0] := by cases args; simp_all
  obtain ⟨rfl, rfl⟩ := trodVars_none hV
  obtain ⟨a0, len0, cap0, rfl⟩ := okWide_slice Try.underlying22 (hval 0 22 v0 rfl rfl)
  have k0 := h0
  have lt0 : ∀ x ∈ p0, x.block < W.heap.size := by obtain ⟨m, hm⟩ := k0; exact DataW.trod_lt m _ _ _ hm
  obtain ⟨z0, w0⟩ : ∃ zs, IsRowK .u8 W a0 len0 cap0 zs := by
    obtain ⟨fuel, hf⟩ := h0
    rcases open_ints Try.underlying22 Try.underlying5 (by kernel_rfl) hf with ⟨hcs, _⟩ | ⟨x, l, c, zs, hcs, _, hl, hm, hz, _, hcell, hwz⟩
    · simp [Value.cells] at hcs
      obtain ⟨rfl, rfl, rfl⟩ := hcs
      exact ⟨[], .inl ⟨rfl, rfl, rfl, rfl⟩⟩
    · simp [Value.cells] at hcs
      obtain ⟨rfl, rfl, rfl⟩ := hcs
      exact ⟨zs, .inr ⟨_, rfl, hl, hm, by simpa using hz, hcell, hwz⟩⟩
  clear hA0 hval0
  refine (walk_FnCodeMany a0 len0 cap0 z0 W w0).mono fun e W' ⟨he, bel⟩ => ?_
  subst he
  exact ⟨_, rfl, _, _, _, [], _, [], hW', trodAll_mk1 (shut_bool Try.underlying4 _), (trodAll_cons_mk (Below.trod laidOut (by kernel_rfl) (of_decide_eq_true (by kernel_rfl)) k0 bel lt0) trodAll_mk0), rfl, bel.frame _, fun h => by cases h⟩

theorem over : Rows.fnCodeManyRow.holds Try.pinned (OpenSpec.ofChange Rows.fnCodeManySpec) :=
  OpenClaim.holds_of_wide 3 Try.f3 rfl rfl rfl rfl rfl rfl rfl ⟨rfl, rfl, rfl, rfl, rfl⟩ rfl rfl rfl rfl rfl (by kernel_rfl) Try.func3 (by kernel_rfl)
    (of_decide_eq_true (by kernel_rfl)) (by unfold Func.isWrapper; first | (rw [if_pos (by decide +kernel)]; kernel_rfl) | (rw [if_neg (by decide +kernel)]; exact ⟨rfl, rfl⟩))
    (fun os started H enc _ => lifted os started H enc)

theorem proved : Rows.FnCodeManySaid := over
#print axioms proved
end Go.Proofs.Ytmpelpmlmmfalaa.fnCodeMany
