/-
  For every input the law 'FnPathStands' returns true, and each of its arguments reads behind the call as it read before. Conditions: none beyond those of the row.
-/
import Derived.Test.YtifiomeiebammaaRows
import Derived.WalkKit
import Derived.ProofKit
import Derived.OpenShut
import Derived.ShutString
import Derived.ChangeOld
import Derived.Below
import Derived.Deep.Matrix
import Derived.Test.YtifiomeiebammaaDrawS
import Derived.Test.YtifiomeiebammaaRun
import Derived.Test.YtifiomeiebammaaStepA
import Derived.Deep.DeepCutAuto
import Derived.Deep.RegionWith
import Derived.BigQuiet
namespace Go.Proofs.Ytifiomeiebammaa
open Go.RowKit

set_option maxRecDepth 100000 in
set_option maxHeartbeats 8000000 in
theorem walk_FnPathStands (a0 : Option Addr) (len0 cap0 : Nat) (z0 : List Int) (w : World) (w0 : IsRowK .u8 w a0 len0 cap0 z0) :
    Calls Try.prog 3 #[.slice a0 len0 cap0] w fun e w' => e = .returned (.bool true) ∧ Below w.heap.size w w' := by
  rcases Nat.lt_or_ge 1048576 len0 with hbig | hsm
  · have hb : (1048576 : Int) < (len0 : Int) := by omega
    go_enter Try.func3, Try.ntmps3
    go_wp2_with fail
    go_ret
    exact ⟨rfl, Below.refl _ _⟩
  have hb : (len0 : Int) ≤ 1048576 := by omega
  have DS := Lib.hid (drawStands w0 hsm)
  clear w0
  go_enter Try.func3, Try.ntmps3
  go_wp2_with (go_at_call 15; refine DS.out.mono ?_)
  rintro e w1 ⟨n, v, p, rfl, hn1, hn4, pv, b1⟩
  obtain ⟨a1, m1, c1, a2, m2, c2, rfl⟩ := pv.form
  have e1 := below_alloc w1 (.cells #[.slice a1 m1 c1, .slice a2 m2 c2] 25)
  have p1 := Pair.new w1 (.slice a1 m1 c1) (.slice a2 m2 c2) 25
  obtain ⟨W, hW⟩ : ∃ X, X = w1.alloc (.cells #[.slice a1 m1 c1, .slice a2 m2 c2] 25) := ⟨_, rfl⟩
  rw [← hW] at e1 p1
  have HW := Lib.hid hW.symm
  have PV := Lib.hid (pv.below e1)
  have PP := Lib.hid p1
  have C0 := Lib.hid (b1.trans (e1.mono b1.size))
  have hn1' : (1 : Int) ≤ (n : Int) := by omega
  clear hW p1 e1 pv b1 DS
  have k0 := PP.out.cell0
  have k1 := PP.out.cell1
  go_upto_region 4 with fail
  rw [HW.out]
  go_wp2_with (go_at_call 16; refine (implStands (n := n) PV.out).mono ?_)
  rintro e w2 ⟨rfl, b2⟩
  clear k0 k1
  have k0 := (PP.out.below b2).cell0
  have k1 := (PP.out.below b2).cell1
  go_wp2_with (go_at_call 17; refine (specStands (n := n) (PV.out.below b2)).mono ?_)
  rintro e w3 ⟨rfl, b3⟩
  have c3 := b2.trans (b3.mono b2.size)
  clear k0 k1 b2 b3
  cases hpb : pathB n p
  · rw [stands_no hpb]
    clear hpb
    go_wp2_with fail
    go_ret
    exact ⟨rfl, C0.out.trans (c3.mono C0.out.size)⟩
  obtain ⟨⟨hq1, hq5⟩, hx, hy, hs⟩ := pathB_is hpb
  have hxn : p.1.length = n := by omega
  have hyn : p.2.length = n := by omega
  have hst := standsTo_bounds hs (p.1.length - 1) (by omega)
  have hbx := hs.bounds (j := p.1.length - 1) (by omega)
  obtain ⟨st, hste⟩ : ∃ st, st = stands n p := ⟨_, rfl⟩
  have hst1 : 0 ≤ st := by rw [hste, stands_yes hpb]; exact hst.1
  have hst2 : st ≤ 2000 := by rw [hste, stands_yes hpb]; omega
  rw [← hste]
  have HSUM := Lib.hid (show st + sumTo (runsTo p n) n = p.2.getD (n - 1) 0 - p.1.getD 0 0 by
    have q := sumTo_runs p n (n - 1) (by omega)
    rw [hste, stands_yes hpb, hxn]
    rw [show n - 1 + 1 = n by omega] at q
    exact q)
  have HSB := Lib.hid (show ∀ k, k ≤ (runsTo p n).length → -1000000 ≤ sumTo (runsTo p n) k ∧ sumTo (runsTo p n) k ≤ 1000000 from fun k hk => by
    rw [runsTo_len] at hk
    have q := sumTo_bounds hpb k (by omega)
    rw [hxn] at q
    omega)
  have HZ := Lib.hid (fun hshort => hste ▸ stands_zero hpb hshort)
  rw [hxn] at HZ
  have HS := Lib.hid (show ∀ j, j < n → 0 ≤ p.1.getD j 0 ∧ p.1.getD j 0 < p.2.getD j 0 ∧ p.2.getD j 0 ≤ 2000 from fun j hj => hs.bounds (by omega))
  obtain ⟨g1, o1, d1, g2, o2, d2, ev, hg1, hg2, hc1, hc2⟩ := PV.out.cells hpb
  simp only [Value.agg.injEq, Array.mk.injEq, List.cons.injEq, Value.slice.injEq, and_true] at ev
  obtain ⟨⟨rfl, rfl, rfl⟩, rfl, rfl, rfl⟩ := ev
  rw [hxn] at PP PV HW hc1
  rw [hyn] at PP PV HW hc2
  have HC1 := Lib.hid hc1
  have HC2 := Lib.hid hc2
  have HX := Lib.hid hxn
  have HY := Lib.hid hyn
  have tneg : decide (st < 0) = false := by simp; omega
  clear hpb hs hst hbx hste hc1 hc2 hx hy hq1 hq5
  rw [HX.out, HY.out]
  have ho := own_empty w3
  have hal := below_alloc w3 (.cells #[] 3)
  obtain ⟨i0, hi, hz0, hz1, hz2⟩ := info_parts info_int
  go_wp2_with fail
  clear hxn hyn
  go_loopw [7, 8, 9] (fun v s i wr => ∃ (k : Nat) (b : Bool), k ≤ n ∧ i = .int .i64 k ∧ s = .bool b ∧ OwnI wr w3.heap.size v (runsTo p k) ∧ (b = true ↔ ∀ j, j < k → p.2.getD j 0 - p.1.getD j 0 ≤ 100) ∧ Below w3.heap.size w3 wr) (fun _ _ i _ => n - (intOf i).toNat)
  case atStart => exact ⟨0, true, by omega, rfl, rfl, ho, by simp, hal⟩
  case round =>
    obtain ⟨k, b, hk, rfl, rfl, hown, hbt, hbel⟩ := hrel
    have cW := c3.trans (hbel.mono c3.size)
    by_cases hlt : k < n
    · have f1 := (PP.out.below cW).cell0
      have f2 := (PP.out.below cW).cell1
      have q1 := (cW.cell (p := ⟨g1, o1 + k, none⟩) hg1).trans (HC1.out k hlt)
      have q2 := (cW.cell (p := ⟨g2, o2 + k, none⟩) hg2).trans (HC2.out k hlt)
      obtain ⟨x, hx⟩ : ∃ x, x = p.1.getD k 0 := ⟨_, rfl⟩
      obtain ⟨y, hy⟩ : ∃ y, y = p.2.getD k 0 := ⟨_, rfl⟩
      have hsk := HS.out k hlt
      rw [← hx] at q1 hsk
      rw [← hy] at q2 hsk
      have s1 : 0 ≤ x := hsk.1
      have s2 : x < y := hsk.2.1
      have s3 : y ≤ 2000 := hsk.2.2
      have NX := Lib.hid (show runsTo p (k + 1) = runsTo p k ++ [y - x] by rw [runsTo_succ, hx, hy])
      have XX := Lib.hid (And.intro hx hy)
      have BT := Lib.hid hbt
      have hki : (k : Int) < (n : Int) := by omega
      have hw1 : IntKind.i64.wrap (y - x) = y - x := IntWalk.i64_in _ (by omega)
      have hw1' : wrap64 (y - x) = y - x := (IntWalk.i64_left _).symm.trans hw1
      have hown0 := hown
      unfold OwnI at hown0
      rw [runsTo_len] at hown0
      obtain ⟨av, cv, rfl⟩ := own_slice3 hown0
      have HOD := Lib.hid (show ((wr.alloc (.cells #[.int .i64 (y - x)] 3)).drew).ownsRow w3.heap.size 3 1 (.slice av k cv) k ((runsTo p k).map (Value.int .i64)) from (hown0.alloc _).drew)
      have CON := Lib.hid (show ∀ j u, [Value.int .i64 (y - x)][j]? = some u → ((wr.alloc (.cells #[.int .i64 (y - x)] 3)).drew).cell? ((⟨wr.heap.size, 0, none⟩ : Addr).add j) = some u from cell_one_new wr (.int .i64 (y - x)) 3)
      have SZ := Lib.hid (show w3.heap.size ≤ ((wr.alloc (.cells #[.int .i64 (y - x)] 3)).drew).heap.size from Nat.le_trans hbel.size (below_alloc wr (.cells #[.int .i64 (y - x)] 3)).size)
      have BD := Lib.hid (show Below w3.heap.size w3 (wr.alloc (.cells #[.int .i64 (y - x)] 3)).drew from (hbel.alloc hbel.size _).drew)
      clear hx hy hsk hbt hown hown0
      go_upto_region 13 with fail
      go_cut [7] (fun v wx => OwnI wx w3.heap.size v (runsTo p (k + 1)) ∧ Below w3.heap.size w3 wx)
      case first =>
        go_region_law (refine step_append_own rfl (.tmp 42) (.tmp 54) 23 rfl w3.heap.size 3 i0 (.int .i64 0) 1 8 Try.underlying23 hi hz0 hz1 hz2 rfl (by decide) (.slice av k cv) k _ (by simp [Act.eval]) HOD.out ⟨wr.heap.size, 0, none⟩ 1 1 [.int .i64 (y - x)] (by simp [Act.eval]) rfl CON.out (by intro u hu; simp at hu; subst hu; rfl) (by simp only [maxLen]; omega) (by omega) SZ.out ?_; intro v2 w2 hown2 hgrow)
        all_goals (go_wp2_with fail; go_meet; exact ⟨by unfold OwnI; rw [NX.out, List.length_append, List.map_append, runsTo_len]; exact hown2, BD.out.grown hgrow SZ.out (fun c hc => (HOD.out.lt c hc).1)⟩)
      case rest =>
      obtain ⟨hown, hbel2⟩ := hcut
      revert hown hbel2
      generalize wc = w4
      intro hown hbel2
      rcases hown.shape with ⟨-, e⟩ | ⟨g3, c4, rfl, hg3, hl3⟩
      · have := runsTo_len p (k + 1); rw [e] at this; simp at this
      rw [runsTo_len] at hown
      have ec := hown.at k (by rw [runsTo_len]; omega)
      rw [runsTo_get p (by omega), ← XX.out.1, ← XX.out.2] at ec
      rw [runsTo_len]
      have HO := Lib.hid hown
      have hkk : ((k : Nat) : Int) < ((k + 1 : Nat) : Int) := by omega
      have hkk2 : (k : Int) < (k : Int) + 1 := by omega
      clear hown
      cases b
      · have HB := Lib.hid (show (false = true ↔ ∀ j, j < k + 1 → p.2.getD j 0 - p.1.getD j 0 ≤ 100) from ⟨fun e => (by cases e), fun q => BT.out.2 fun j hj => q j (by omega)⟩)
        go_wp2_with fail
        go_roundw
        case rel => exact ⟨k + 1, false, by omega, by go_num, rfl, HO.out, HB.out, hbel2⟩
        case measure => simp [intOf]; omega
      · by_cases h100 : y - x ≤ 100
        · have HB := Lib.hid (show (true = true ↔ ∀ j, j < k + 1 → p.2.getD j 0 - p.1.getD j 0 ≤ 100) from ⟨fun _ j hj => by
            by_cases e : j = k
            · subst e; rw [← XX.out.1, ← XX.out.2]; exact h100
            · exact BT.out.1 rfl j (by omega), fun _ => rfl⟩)
          have hd : decide (y - x ≤ 100) = true := decide_eq_true h100
          clear h100
          go_wp2_with fail
          go_roundw
          case rel => exact ⟨k + 1, true, by omega, by go_num, rfl, HO.out, HB.out, hbel2⟩
          case measure => simp [intOf]; omega
        · have HB := Lib.hid (show (false = true ↔ ∀ j, j < k + 1 → p.2.getD j 0 - p.1.getD j 0 ≤ 100) from ⟨fun e => (by cases e), fun q => absurd (by have := q k (by omega); rw [← XX.out.1, ← XX.out.2] at this; exact this) h100⟩)
          have hd : decide (y - x ≤ 100) = false := decide_eq_false h100
          clear h100
          go_wp2_with fail
          go_roundw
          case rel => exact ⟨k + 1, false, by omega, by go_num, rfl, HO.out, HB.out, hbel2⟩
          case measure => simp [intOf]; omega
    · obtain rfl : k = n := by omega
      have q1 := (cW.cell (p := ⟨g1, o1 + 0, none⟩) hg1).trans (HC1.out 0 (by omega))
      have f1 := (PP.out.below cW).cell0
      have f2 := (PP.out.below cW).cell1
      obtain ⟨x0, hx0⟩ : ∃ x0, x0 = p.1.getD 0 0 := ⟨_, rfl⟩
      rw [← hx0] at q1 HSUM HZ
      have q1 : wr.cell? ⟨g1, o1, none⟩ = some (.int .i64 x0) := q1
      have hs0 := HS.out 0 (by omega)
      rw [← hx0] at hs0
      have s1 : 0 ≤ x0 := hs0.1
      have s2 : x0 ≤ 2000 := by omega
      have hoi := hown.ints (by rw [runsTo_len]; omega)
      have RN := Lib.hid (implRun (start := x0) hoi (by omega))
      have hlr := runOf_len x0 (runsTo p k)
      have LR := Lib.hid hlr
      have HO := Lib.hid hoi
      have BT := Lib.hid hbt
      have X0 := Lib.hid hx0
      obtain ⟨a3, n3, c3', rfl⟩ := own_is_slice hown
      clear hown hoi hbt hlr hx0 hs0
      go_wp2_with (go_at_call 18; refine RN.out.mono ?_)
      rintro e w5 ⟨v5, rfl, o5, b5⟩
      obtain ⟨a5, m5, c5, e5, n5, d5, rfl⟩ := o5.form
      have q5 := below_alloc w5 (.cells #[.slice a5 m5 c5, .slice e5 n5 d5] 25)
      have p5 := Pair.new w5 (.slice a5 m5 c5) (.slice e5 n5 d5) 25
      obtain ⟨w6, h6⟩ : ∃ X, X = w5.alloc (.cells #[.slice a5 m5 c5, .slice e5 n5 d5] 25) := ⟨_, rfl⟩
      rw [← h6] at q5 p5
      have H6 := Lib.hid h6.symm
      have b6 := b5.trans (q5.mono b5.size)
      have O5 := Lib.hid (o5.below q5)
      have P5 := Lib.hid p5
      have HO := Lib.hid (HO.out.below b6)
      have c6 := cW.trans (b6.mono cW.size)
      clear h6 q5 p5 o5 b5 f1 f2 q1
      go_upto_region 16 with fail
      rw [H6.out]
      obtain ⟨y1, hy1⟩ : ∃ y1, y1 = p.2.getD (k - 1) 0 := ⟨_, rfl⟩
      obtain ⟨SU, hSU⟩ : ∃ SU, SU = sumTo (runsTo p k) k := ⟨_, rfl⟩
      have hsum := HSUM.out
      rw [← hy1, ← hSU] at hsum
      have hyb := HS.out (k - 1) (by omega)
      rw [← hy1] at hyb
      have SM0 := sumOf (w := w6) HO.out HSB.out
      rw [runsTo_len, ← hSU] at SM0
      have SM := Lib.hid (fun d os => Calls.regrown_of ((sumOf (HO.out.below (below_regrown w6 d os)) HSB.out).mono (R' := fun e w' => e = .returned (.int .i64 SU) ∧ Below (Sort.grow (redrawn w6 d) os).heap.size (Sort.grow (redrawn w6 d) os) w') fun e w' ⟨he, hw⟩ => ⟨by rw [he, runsTo_len, ← hSU], hw ▸ Below.refl _ _⟩))
      have SP := Lib.hid (fun d os => Calls.regrown_of (samePath ((O5.out.pathV (by have := LR.out.1; omega) (by have := LR.out.2; omega)).below (below_regrown w6 d os)) ((PV.out.below c6).below (below_regrown w6 d os))))
      have f1 := fun d os => cell_regrown (PP.out.below c6).cell0 d os
      have f2 := fun d os => cell_regrown (PP.out.below c6).cell1 d os
      have f3 := fun d os => cell_regrown P5.out.cell0 d os
      have f4 := fun d os => cell_regrown P5.out.cell1 d os
      have q1 : w6.cell? ⟨g1, o1, none⟩ = some (.int .i64 x0) := by have q := (c6.cell (p := ⟨g1, o1 + 0, none⟩) hg1).trans (HC1.out 0 (by omega)); rw [← X0.out] at q; exact q
      have q2 : w6.cell? ⟨g2, o2 + (k - 1), none⟩ = some (.int .i64 y1) := by have q := (c6.cell (p := ⟨g2, o2 + (k - 1), none⟩) hg2).trans (HC2.out (k - 1) (by omega)); rw [← hy1] at q; exact q
      have f5 := fun d os => cell_regrown q1 d os
      have f6 := fun d os => cell_regrown q2 d os
      have w1 : IntKind.i64.wrap (st + SU) = y1 - x0 := by rw [hsum]; exact IntWalk.i64_in _ (by omega)
      have w2 : IntKind.i64.wrap (y1 - x0) = y1 - x0 := IntWalk.i64_in _ (by omega)
      have w3' : IntKind.i64.wrap ((k : Int) - 1) = ((k - 1 : Nat) : Int) := by rw [IntWalk.i64_in _ (by omega)]; omega
      have n1 : ((k - 1 : Nat) : Int) < (k : Int) := by omega
      have n2 : k - 1 < k := by omega
      have n3 : (0 : Int) < (k : Int) := by omega
      have n4 : 0 < k := by omega
      clear hsum hyb SM0 q1 q2 hy1 hSU
      cases b
      · go_wp2_with fail
        refine wp_region_quiet_below (by kernel_rfl) (by kernel_rfl) ?_
        repeat (go_big_quiet_step (first | (with_reducible exact SM.out _ _) | (with_reducible exact SP.out _ _)))
        refine wpQuiet_nil ?_
        intro _ hw'
        obtain ⟨⟨dq, osq⟩, hw''⟩ := hw'
        subst hw''
        go_wp2_with fail
        go_ret
        exact ⟨rfl, C0.out.trans ((c6.trans ((below_regrown w6 dq osq).mono c6.size)).mono C0.out.size)⟩
      · have hz := HZ.out (BT.out.1 rfl)
        cases hrb : runB x0 (runsTo p k)
        · have hne : (st == 0) = false := by
            refine Bool.eq_false_iff.2 fun e => ?_
            have := (hz.1 (by simpa using e)).1
            rw [hrb] at this
            cases this
          clear hz hrb
          go_wp2_with fail
          refine wp_region_quiet_below (by kernel_rfl) (by kernel_rfl) ?_
          repeat (go_big_quiet_step (first | (with_reducible exact SM.out _ _) | (with_reducible exact SP.out _ _)))
          refine wpQuiet_nil ?_
          intro _ hw'
          obtain ⟨⟨dq, osq⟩, hw''⟩ := hw'
          subst hw''
          go_wp2_with fail
          go_ret
          exact ⟨rfl, C0.out.trans ((c6.trans ((below_regrown w6 dq osq).mono c6.size)).mono C0.out.size)⟩
        · have hD : (st == 0) = decide (runOf x0 (runsTo p k) = p) := by
            by_cases e : st = 0
            · have := (hz.1 e).2
              rw [decide_eq_true this]
              simpa using e
            · have : ¬ runOf x0 (runsTo p k) = p := fun q => e (hz.2 ⟨hrb, q⟩)
              rw [decide_eq_false this]
              simpa using e
          obtain ⟨D, hDe⟩ : ∃ D, D = decide (runOf x0 (runsTo p k) = p) := ⟨_, rfl⟩
          rw [← hDe] at hD SP
          clear hz hrb hDe
          cases D
          · go_wp2_with fail
            refine wp_region_quiet_below (by kernel_rfl) (by kernel_rfl) ?_
            repeat (go_big_quiet_step (first | (with_reducible exact SM.out _ _) | (with_reducible exact SP.out _ _)))
            refine wpQuiet_nil ?_
            intro _ hw'
            obtain ⟨⟨dq, osq⟩, hw''⟩ := hw'
            subst hw''
            go_wp2_with fail
            go_ret
            exact ⟨rfl, C0.out.trans ((c6.trans ((below_regrown w6 dq osq).mono c6.size)).mono C0.out.size)⟩
          · go_wp2_with fail
            refine wp_region_quiet_below (by kernel_rfl) (by kernel_rfl) ?_
            repeat (go_big_quiet_step (first | (with_reducible exact SM.out _ _) | (with_reducible exact SP.out _ _)))
            refine wpQuiet_nil ?_
            intro _ hw'
            obtain ⟨⟨dq, osq⟩, hw''⟩ := hw'
            subst hw''
            go_wp2_with fail
            go_ret
            exact ⟨rfl, C0.out.trans ((c6.trans ((below_regrown w6 dq osq).mono c6.size)).mono C0.out.size)⟩

end Go.Proofs.Ytifiomeiebammaa

namespace Go.Proofs.Ytifiomeiebammaa.fnPathStands
open Go.ChangeShapes Go.WideShapes Go.ChangeAt Go.RowKit
open Go.ChangeMaps (open_string shut_string)
set_option linter.unusedVariables false

theorem own : ownKnob Try.prog.godebug = none := by kernel_rfl
theorem laidOut : laidOutB Try.prog = true := by kernel_rfl

set_option maxRecDepth 100000 in
theorem lifted (os : Os) (started : os.Started) (H : Type) (enc : TypeId × Value → H) :
    ReturnsInHanded {} Try.checked os 3 .any (Rows.fnPathStandsSpec.pre6 enc Try.prog Try.f3 Rows.fnPathStandsRow.domain false) (Rows.fnPathStandsSpec.post enc Try.prog Try.f3 false true false false) := by
  refine returnsInHanded_of_change (C := Try.checked) own started (by kernel_rfl) Try.func3
    (ChangeSpec.witness6 (enc := enc) (C := Try.checked) false ⟨#[], #[.slice none 0 0], []⟩ 8 (by kernel_rfl) (by kernel_rfl) (by kernel_rfl) (by kernel_rfl)) ?_
  intro W base args ds gs before hval0 hW hcnd _
  have hval : ∀ (j : Nat) t v, Try.f3.params[j]? = some t → args[j]? = some v → Value.okWide Try.prog W .any base t v := hval0
  have hW' := hW
  obtain ⟨p, q, hA0, hV, rfl, hfz, hnd⟩ := hW
  have hA : DataW.TrodAll enc Try.prog W 0 (fun _ => true) true Try.f3.params.toList args.toList ds p := hA0
  rw [Try.params3] at hA hval
  obtain ⟨v0, vs0, d0, ds0, p0, q0, hargs, rfl, rfl, h0, r0⟩ := trodAll_cons hA
  obtain ⟨rfl, rfl, rfl⟩ := trodAll_nil r0
  obtain rfl : args = #[v0] := by cases args; simp_all
  obtain ⟨rfl, rfl⟩ := trodVars_none hV
  obtain ⟨a0, len0, cap0, rfl⟩ := okWide_slice Try.underlying22 (hval 0 22 v0 rfl rfl)
  have k0 := h0
  have lt0 : ∀ x ∈ p0, x.block < W.heap.size := by obtain ⟨m, hm⟩ := k0; exact DataW.trod_lt m _ _ _ hm
  obtain ⟨z0, w0⟩ : ∃ zs, IsRowK .u8 W a0 len0 cap0 zs := by
    obtain ⟨fuel, hf⟩ := h0
    rcases open_ints Try.underlying22 Try.underlying5 (by kernel_rfl) hf with ⟨hcs, _⟩ | ⟨x, l, c, zs, hcs, _, hl, hm, hz, _, hcell, hwz⟩
    · simp [Value.cells] at hcs
      obtain ⟨rfl, rfl, rfl⟩ := hcs
      exact ⟨[], .inl ⟨rfl, rfl, rfl, rfl⟩⟩
    · simp [Value.cells] at hcs
      obtain ⟨rfl, rfl, rfl⟩ := hcs
      exact ⟨zs, .inr ⟨_, rfl, hl, hm, by simpa using hz, hcell, hwz⟩⟩
  clear hA0 hval0
  refine (walk_FnPathStands a0 len0 cap0 z0 W w0).mono fun e W' ⟨he, bel⟩ => ?_
  subst he
  exact ⟨_, rfl, _, _, _, [], _, [], hW', trodAll_mk1 (shut_bool Try.underlying4 _), (trodAll_cons_mk (Below.trod laidOut (by kernel_rfl) (of_decide_eq_true (by kernel_rfl)) k0 bel lt0) trodAll_mk0), rfl, bel.frame _, fun h => by cases h⟩

theorem over : Rows.fnPathStandsRow.holds Try.pinned (OpenSpec.ofChange Rows.fnPathStandsSpec) :=
  OpenClaim.holds_of_wide 3 Try.f3 rfl rfl rfl rfl rfl rfl rfl ⟨rfl, rfl, rfl, rfl, rfl⟩ rfl rfl rfl rfl rfl (by kernel_rfl) Try.func3 (by kernel_rfl)
    (of_decide_eq_true (by kernel_rfl)) (by unfold Func.isWrapper; first | (rw [if_pos (by decide +kernel)]; kernel_rfl) | (rw [if_neg (by decide +kernel)]; exact ⟨rfl, rfl⟩))
    (fun os started H enc _ => lifted os started H enc)

theorem proved : Rows.FnPathStandsSaid := over
#print axioms proved
end Go.Proofs.Ytifiomeiebammaa.fnPathStands
