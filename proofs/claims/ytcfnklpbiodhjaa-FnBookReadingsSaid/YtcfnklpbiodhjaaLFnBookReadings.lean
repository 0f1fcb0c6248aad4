/-
  For every input the law 'FnBookReadings' returns true, and each of its arguments reads behind the call as it read before. Conditions: none beyond those of the row.
-/
import Derived.Test.YtcfnklpbiodhjaaRows
import Derived.WalkKit
import Derived.ProofKit
import Derived.OpenShut
import Derived.ShutString
import Derived.ChangeOld
import Derived.Below
import Derived.Deep.Matrix
import Derived.Test.YtcfnklpbiodhjaaDrawR
import Derived.Test.YtcfnklpbiodhjaaReadI
import Derived.Test.YtcfnklpbiodhjaaReadS
import Derived.Test.YtcfnklpbiodhjaaReadP
import Derived.Test.YtcfnklpbiodhjaaBookClear
import Derived.Test.YtcfnklpbiodhjaaSameL
namespace Go.Proofs.Ytcfnklpbiodhjaa
open Go.RowKit

open Go.Sort

theorem apart_of {bk : List (List Int)} (h : clearB bk = true) : Apart bk := by
  unfold clearB at h
  simp only [Bool.and_eq_true, decide_eq_true_eq] at h
  obtain ⟨hb, hc⟩ := h
  have hv := (bookB_is hb).1.1
  intro i j hi hj hlt e
  have := hc i hi j hj
  unfold beginsB at this
  rw [hv i hi, hv j hj] at this
  unfold clen at hlt e
  simp only [Bool.true_and, Bool.and_eq_false_iff, decide_eq_false_iff_not] at this
  rcases this with q | q
  · exact q hlt
  · exact q e

/-- What stands behind the first numbers of a list. -/
theorem Ints.behind {w : World} {b o n cap : Nat} {rs : List Int} (h : Ints w (.slice (some ⟨b, o, none⟩) n cap) rs) {m : Nat} (hm : m ≤ rs.length) : Ints w (.slice (some ⟨b, o + m, none⟩) (rs.length - m) (cap - m)) (rs.drop m) := by
  have hn : n = rs.length := by
    obtain ⟨_, _, e, _⟩ := h
    simp only [Value.slice.injEq] at e
    exact e.2.1
  subst hn
  have hc : rs.length ≤ cap := by
    obtain ⟨_, _, e, hl, _⟩ := h
    simp only [Value.slice.injEq] at e
    rw [← e.2.2] at hl
    exact hl.2
  have hl := h.len
  by_cases e : m = rs.length
  · subst e
    rw [List.drop_length, Nat.sub_self]
    exact ⟨_, _, rfl, by simp, .inl rfl⟩
  · have := h.part (p := m) (m := rs.length - m) (by omega) (by omega)
    rwa [List.take_of_length_le (by rw [List.length_drop]; omega)] at this

set_option maxHeartbeats 4000000 in
theorem walk_FnBookReadings (a0 : Option Addr) (len0 cap0 : Nat) (z0 : List Int) (w : World) (w0 : IsRowK .u8 w a0 len0 cap0 z0) :
    Calls Try.prog 3 #[.slice a0 len0 cap0] w fun e w' => e = .returned (.bool true) ∧ Below w.heap.size w w' := by
  rcases Nat.lt_or_ge 1048576 len0 with hbig | hsm
  · have hb : (1048576 : Int) < (len0 : Int) := by omega
    go_enter Try.func3, Try.ntmps3
    go_wp2_with fail
    go_ret
    exact ⟨rfl, Below.refl _ _⟩
  have hb : (len0 : Int) ≤ 1048576 := by omega
  go_enter Try.func3, Try.ntmps3
  go_wp2_with (go_at_call 6; refine (drawReadings w0 hsm).mono ?_)
  rintro e w1 ⟨u, v, bk, rs, rfl, hu, hv, hb7, hr40, b1⟩
  clear w0 hb
  have HI := Lib.hid (implReadings hu hv)
  obtain ⟨R, hR⟩ : ∃ R, R = readingsOf bk rs := ⟨_, rfl⟩
  rw [← hR] at HI
  have HR := Lib.hid hR
  clear hR
  go_wp2_with (go_at_call 7; refine HI.out.mono ?_)
  rintro e w2 ⟨rfl, b2⟩
  have hu2 := hu.below b2
  have hv2 := hv.below b2
  have c2 := b1.trans (b2.mono b1.size)
  have HS := Lib.hid (specReadings hu2 hv2)
  rw [← HR.out] at HS
  clear hu hv b1 b2 HI
  go_wp2_with (go_at_call 8; refine HS.out.mono ?_)
  rintro e w3 ⟨rfl, b3⟩
  have hu3 := hu2.below b3
  have hv3 := hv2.below b3
  have c3 := c2.trans (b3.mono c2.size)
  clear hu2 hv2 c2 b3 HS
  rcases Int.lt_or_le R 0 with hneg | hpos
  · go_wp2_with fail
    go_ret
    exact ⟨ret_bool (by simp), c3⟩
  · have hno : decide (R < 0) = false := by rw [decide_eq_false_iff_not]; omega
    have hbg : bookB bk = true ∧ groupsB rs 0 20 = true := by
      have q := HR.out
      unfold readingsOf at q
      cases h1 : bookB bk
      · rw [h1] at q; simp at q; omega
      · cases h2 : groupsB rs 0 20
        · rw [h1, h2] at q; simp at q; omega
        · exact ⟨rfl, rfl⟩
    have HBG := Lib.hid hbg
    clear hbg
    obtain ⟨av, cv, rfl, hlv, hcv⟩ := id hv3
    obtain ⟨au, cu, rfl, hlu, hcu⟩ := id hu3
    have HV := Lib.hid hv3
    have HU := Lib.hid hu3
    clear hv3 hu3
    by_cases h0 : rs.length = 0
    · have he : rs = [] := List.eq_nil_of_length_eq_zero h0
      subst he
      have hR1 : (R == 1) = true := by
        have q := HR.out
        unfold readingsOf at q
        rw [HBG.out.1, HBG.out.2] at q
        simp [tab] at q
        simpa using q
      clear h0
      go_wp2_with fail
      go_ret
      exact ⟨rfl, c3⟩
    · have h0' : ((rs.length : Int) == 0) = false := by simp; exact fun e => h0 (by rw [e]; rfl)
      have h0'' : (rs.length == 0) = false := by simp; exact fun e => h0 (by rw [e]; rfl)
      have h0n : rs = [] → False := fun e => h0 (by rw [e]; rfl)
      have h1n : 0 < rs.length := by omega
      have H0N := Lib.hid h0n
      clear h0 h0n
      have hb33 : Below w3.heap.size w3 w3 := Below.refl _ _
      rcases hcv with e | ⟨bv, ov, rfl, hbv, hcellv⟩
      · exact absurd e H0N.out
      clear hcellv
      go_wp2_with fail
      go_loopw [7, 8, 9] (fun S K _ wr => ∃ k : Nat, k ≤ bk.length ∧ K = .int .i64 k ∧ S = .int .i64 (partTo bk rs k) ∧ Below w3.heap.size w3 wr) (fun _ K _ _ => bk.length - (intOf K).toNat)
      case atStart => exact ⟨0, by omega, rfl, rfl, hb33⟩
      case round =>
        clear hb33
        obtain ⟨k, hk, rfl, rfl, hbel⟩ := hrel
        obtain ⟨S, hS⟩ : ∃ S, S = partTo bk rs k := ⟨_, rfl⟩
        rw [← hS]
        have HSK := Lib.hid hS
        clear hS
        by_cases hlt : k < bk.length
        · rcases hcu with e | ⟨bu, ou, rfl, hbu, hcell⟩
          · rw [e] at hlt; simp at hlt
          · obtain ⟨y, hy, iy⟩ := hcell k hlt
            obtain ⟨ys, hys⟩ : ∃ ys, ys = bk.getD k [] := ⟨_, rfl⟩
            have hll := lens_of HBG.out.1 k hlt
            have hcl : clen bk k = ys.length := by unfold clen; rw [hys]
            rw [hcl] at hll
            rw [← hys] at iy
            have hhere : here bk rs 0 k = decide (ys = (rs.drop 0).take ys.length) := by unfold here; rw [hys]
            rw [List.drop_zero] at hhere
            obtain ⟨ay, cy, rfl, hyl, -⟩ := id iy
            have hc1 : wr.cell? ⟨bu, ou + k, none⟩ = some (.slice ay ys.length cy) := (hbel.cell (p := ⟨bu, ou + k, none⟩) hbu).trans hy
            have hd1 : ∀ dd os, (grow (redrawn wr dd) os).cell? ⟨bu, ou + k, none⟩ = some (.slice ay ys.length cy) := fun dd os => cell_regrown hc1 dd os
            have hki : (k : Int) < (bk.length : Int) := by omega
            have HCL := Lib.hid hcl
            have HCC := Lib.hid hcell
            have HIY := Lib.hid iy
            clear hcell hys hcl hy iy
            by_cases hroom : ys.length ≤ rs.length
            · have hri : (ys.length : Int) ≤ (rs.length : Int) := by omega
              have hrc : (ys.length : Int) ≤ (cv : Int) := by omega
              have hrcn : ys.length ≤ cv := by omega
              have HE := Lib.hid (fun dd os => Calls.regrown_of (sameInts (((HV.out.take hroom).below hbel).below (below_regrown wr dd os)) ((HIY.out.below hbel).below (below_regrown wr dd os))))
              rw [show decide (rs.take ys.length = ys) = here bk rs 0 k by rw [hhere]; simp only [eq_comm]] at HE
              clear hhere
              cases hh : here bk rs 0 k
              · rw [hh] at HE
                have HN := Lib.hid (sum_not hh)
                clear hh
                go_wp2_with fail
                refine wp_region_quiet_below (by kernel_rfl) (by kernel_rfl) ?_
                repeat (go_big_quiet_step (exact HE.out _ _))
                refine wpQuiet_nil ?_
                intro _ hw'
                obtain ⟨⟨dq, osq⟩, hw''⟩ := hw'
                subst hw''
                go_wp2_with fail
                go_roundw
                case rel => exact ⟨k + 1, by omega, by go_num, by rw [HN.out, HSK.out], hbel.trans ((below_regrown wr dq osq).mono hbel.size)⟩
                case measure => simp [intOf]; omega
              · rw [hh] at HE
                have HN := Lib.hid (sum_here hh)
                clear hh
                go_wp2_with fail
                refine wp_region_quiet_below (by kernel_rfl) (by kernel_rfl) ?_
                repeat (go_big_quiet_step (exact HE.out _ _))
                refine wpQuiet_nil ?_
                intro _ hw'
                obtain ⟨⟨dq, osq⟩, hw''⟩ := hw'
                subst hw''
                have hbq := hbel.trans ((below_regrown wr dq osq).mono hbel.size)
                obtain ⟨W, hW⟩ : ∃ W, W = grow (redrawn wr dq) osq := ⟨_, rfl⟩
                rw [← hW] at hbq ⊢
                clear hW hd1 hc1 HE hbel
                have HUW := Lib.hid (HU.out.below hbq)
                have HVW := Lib.hid (HV.out.below hbq)
                have HRD := Lib.hid (readings_drop HBG.out.1 HBG.out.2 hroom)
                obtain ⟨X, hX⟩ : ∃ X, X = (whole bk rs ys.length).1 := ⟨_, rfl⟩
                have HX := Lib.hid hX
                clear hX
                by_cases hcap : cv = ys.length
                · have hlen : rs.length = ys.length := by omega
                  have HZ := Lib.hid (show Ints W (.slice (some ⟨bv, ov, none⟩) 0 0) (rs.drop ys.length) by
                    rw [← hlen, List.drop_length]
                    exact ⟨_, _, rfl, by simp, .inl rfl⟩)
                  have HCALL := Lib.hid (implReadings HUW.out HZ.out)
                  rw [HRD.out, ← HX.out] at HCALL
                  have hcap' : (cv == ys.length) = true := by simpa using hcap
                  have hlen' : rs.length - ys.length = 0 := by omega
                  have hcap'' : cv - ys.length = 0 := by omega
                  clear hcap hlen
                  go_wp2_with (go_at_call 7; refine HCALL.out.mono ?_)
                  rintro e w5 ⟨rfl, b5⟩
                  go_wp2_with fail
                  go_roundw
                  case rel => exact ⟨k + 1, by omega, by go_num, by rw [HN.out, HCL.out, ← HX.out, ← HSK.out, wrap_is], hbq.trans (b5.mono hbq.size)⟩
                  case measure => simp [intOf]; omega
                · have HZ := Lib.hid (HVW.out.behind hroom)
                  have HCALL := Lib.hid (implReadings HUW.out HZ.out)
                  rw [HRD.out, ← HX.out] at HCALL
                  have hcap' : (cv == ys.length) = false := by simpa using hcap
                  go_wp2_with (go_at_call 7; refine HCALL.out.mono ?_)
                  rintro e w5 ⟨rfl, b5⟩
                  go_wp2_with fail
                  go_roundw
                  case rel => exact ⟨k + 1, by omega, by go_num, by rw [HN.out, HCL.out, ← HX.out, ← HSK.out, wrap_is], hbq.trans (b5.mono hbq.size)⟩
                  case measure => simp [intOf]; omega
            · have hri : decide ((ys.length : Int) ≤ (rs.length : Int)) = false := by rw [decide_eq_false_iff_not]; omega
              have hri' : decide (ys.length ≤ rs.length) = false := by rw [decide_eq_false_iff_not]; omega
              have hh : here bk rs 0 k = false := by
                cases q : here bk rs 0 k
                · rfl
                · have := here_room q (by rw [HCL.out]; exact hll.1)
                  rw [HCL.out] at this
                  omega
              have HN := Lib.hid (sum_not hh)
              clear hh hroom hhere
              go_wp2_with fail
              refine wp_region_quiet_below (by kernel_rfl) (by kernel_rfl) ?_
              repeat (go_big_quiet_step (fail))
              refine wpQuiet_nil ?_
              intro _ hw'
              obtain ⟨⟨dq, osq⟩, hw''⟩ := hw'
              subst hw''
              go_wp2_with fail
              go_roundw
              case rel => exact ⟨k + 1, by omega, by go_num, by rw [HN.out, HSK.out], hbel.trans ((below_regrown wr dq osq).mono hbel.size)⟩
              case measure => simp [intOf]; omega
        · obtain rfl : k = bk.length := by omega
          have hSR : S = R := by rw [HSK.out, HR.out]; exact sum_all HBG.out.1 HBG.out.2 (by omega) h1n
          have HSR := Lib.hid hSR
          clear hSR
          rw [HSR.out]
          have HUW := Lib.hid (HU.out.below hbel)
          have hc := c3.trans (hbel.mono c3.size)
          cases hcl : clearB bk
          · have HCL := Lib.hid hcl
            clear hcl
            go_wp2_with (go_at_call 10; refine (implClear HUW.out).mono ?_; rw [HCL.out])
            rintro e w5 ⟨rfl, b5⟩
            go_wp2_with fail
            go_ret
            exact ⟨rfl, hc.trans (b5.mono hc.size)⟩
          · have hR1 : R ≤ 1 := by
              have q := readings_drop HBG.out.1 HBG.out.2 (Nat.zero_le rs.length)
              rw [List.drop_zero, ← HR.out] at q
              rw [q]
              exact clear_one (lens_of HBG.out.1) (differ_of HBG.out.1) (apart_of hcl) (by omega) (by have := (groupsB_ok HBG.out.2).2.2; omega) _ _ (Nat.zero_le _)
            have HCL := Lib.hid hcl
            clear hcl
            go_wp2_with (go_at_call 10; refine (implClear HUW.out).mono ?_; rw [HCL.out])
            rintro e w5 ⟨rfl, b5⟩
            go_wp2_with fail
            go_ret
            exact ⟨rfl, hc.trans (b5.mono hc.size)⟩

end Go.Proofs.Ytcfnklpbiodhjaa

namespace Go.Proofs.Ytcfnklpbiodhjaa.fnBookReadings
open Go.ChangeShapes Go.WideShapes Go.ChangeAt Go.RowKit
open Go.ChangeMaps (open_string shut_string)
set_option linter.unusedVariables false

theorem own : ownKnob Try.prog.godebug = none := by kernel_rfl
theorem laidOut : laidOutB Try.prog = true := by kernel_rfl

set_option maxRecDepth 100000 in
theorem lifted (os : Os) (started : os.Started) (H : Type) (enc : TypeId × Value → H) :
    ReturnsInHanded {} Try.checked os 3 .any (Rows.fnBookReadingsSpec.pre6 enc Try.prog Try.f3 Rows.fnBookReadingsRow.domain false) (Rows.fnBookReadingsSpec.post enc Try.prog Try.f3 false true false false) := by
  refine returnsInHanded_of_change (C := Try.checked) own started (by kernel_rfl) Try.func3
    (ChangeSpec.witness6 (enc := enc) (C := Try.checked) false ⟨#[], #[.slice none 0 0], []⟩ 8 (by kernel_rfl) (by kernel_rfl) (by kernel_rfl) (by kernel_rfl)) ?_
  intro W base args ds gs before hval0 hW hcnd _
  have hval : ∀ (j : Nat) t v, Try.f3.params[j]? = some t → args[j]? = some v → Value.okWide Try.prog W .any base t v := hval0
  have hW' := hW
  obtain ⟨p, q, hA0, hV, rfl, hfz, hnd⟩ := hW
  have hA : DataW.TrodAll enc Try.prog W 0 (fun _ => true) true Try.f3.params.toList args.toList ds p := hA0
  rw [Try.params3] at hA hval
  obtain ⟨v0, vs0, d0, ds0, p0, q0, hargs, rfl, rfl, h0, r0⟩ := trodAll_cons hA
  obtain ⟨rfl, rfl, rfl⟩ := trodAll_nil r0
  obtain rfl : args = #[v0] := by cases args; simp_all
  obtain ⟨rfl, rfl⟩ := trodVars_none hV
  obtain ⟨a0, len0, cap0, rfl⟩ := okWide_slice Try.underlying22 (hval 0 22 v0 rfl rfl)
  have k0 := h0
  have lt0 : ∀ x ∈ p0, x.block < W.heap.size := by obtain ⟨m, hm⟩ := k0; exact DataW.trod_lt m _ _ _ hm
  obtain ⟨z0, w0⟩ : ∃ zs, IsRowK .u8 W a0 len0 cap0 zs := by
    obtain ⟨fuel, hf⟩ := h0
    rcases open_ints Try.underlying22 Try.underlying5 (by kernel_rfl) hf with ⟨hcs, _⟩ | ⟨x, l, c, zs, hcs, _, hl, hm, hz, _, hcell, hwz⟩
    · simp [Value.cells] at hcs
      obtain ⟨rfl, rfl, rfl⟩ := hcs
      exact ⟨[], .inl ⟨rfl, rfl, rfl, rfl⟩⟩
    · simp [Value.cells] at hcs
      obtain ⟨rfl, rfl, rfl⟩ := hcs
      exact ⟨zs, .inr ⟨_, rfl, hl, hm, by simpa using hz, hcell, hwz⟩⟩
  clear hA0 hval0
  refine (walk_FnBookReadings a0 len0 cap0 z0 W w0).mono fun e W' ⟨he, bel⟩ => ?_
  subst he
  exact ⟨_, rfl, _, _, _, [], _, [], hW', trodAll_mk1 (shut_bool Try.underlying4 _), (trodAll_cons_mk (Below.trod laidOut (by kernel_rfl) (of_decide_eq_true (by kernel_rfl)) k0 bel lt0) trodAll_mk0), rfl, bel.frame _, fun h => by cases h⟩

theorem over : Rows.fnBookReadingsRow.holds Try.pinned (OpenSpec.ofChange Rows.fnBookReadingsSpec) :=
  OpenClaim.holds_of_wide 3 Try.f3 rfl rfl rfl rfl rfl rfl rfl ⟨rfl, rfl, rfl, rfl, rfl⟩ rfl rfl rfl rfl rfl (by kernel_rfl) Try.func3 (by kernel_rfl)
    (of_decide_eq_true (by kernel_rfl)) (by unfold Func.isWrapper; first | (rw [if_pos (by decide +kernel)]; kernel_rfl) | (rw [if_neg (by decide +kernel)]; exact ⟨rfl, rfl⟩))
    (fun os started H enc _ => lifted os started H enc)

theorem proved : Rows.FnBookReadingsSaid := over
#print axioms proved
end Go.Proofs.Ytcfnklpbiodhjaa.fnBookReadings
