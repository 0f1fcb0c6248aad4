/-
  For every input the law 'FnRegisterTrains' returns true, and each of its arguments reads behind the call as it read before. Conditions: none beyond those of the row.
-/
import Derived.Test.YtphadofigcipcaaRows
import Derived.WalkKit
import Derived.ProofKit
import Derived.OpenShut
import Derived.ShutString
import Derived.ChangeOld
import Derived.Below
import Derived.Deep.Matrix
import Derived.Test.YtphadofigcipcaaIo
import Derived.Test.YtphadofigcipcaaDrawG
import Derived.Test.YtphadofigcipcaaRegQ
import Derived.Test.YtphadofigcipcaaRegV
import Derived.Test.YtphadofigcipcaaSameL
import Derived.Deep.RegionHeld3
import Derived.Deep.RegionWith
import Derived.Lib.QuietBelow
import Derived.BigQuiet
namespace Go.Proofs.Ytphadofigcipcaa
open Go.RowKit

open Go.Sort

set_option maxRecDepth 100000 in
set_option maxHeartbeats 8000000 in
theorem walk_FnRegisterTrains (a0 : Option Addr) (len0 cap0 : Nat) (z0 : List Int) (w : World) (w0 : IsRowK .u8 w a0 len0 cap0 z0) :
    Calls Try.prog 7 #[.slice a0 len0 cap0] w fun e w' => e = .returned (.bool true) ∧ Below w.heap.size w w' := by
  rcases Nat.lt_or_ge 1048576 len0 with hbig | hsm
  · have hb : (1048576 : Int) < (len0 : Int) := by omega
    go_enter Try.func7, Try.ntmps7
    go_wp2_with fail
    go_ret
    exact ⟨rfl, Below.refl _ _⟩
  have hb : (len0 : Int) ≤ 1048576 := by omega
  have DN := Lib.hid (drawTrains w0 hsm)
  clear w0
  go_enter Try.func7, Try.ntmps7
  go_upto_region 4 with (go_at_call 26; refine DN.out.mono ?_; rintro e u1 ⟨v, ns, rfl, ho, hl, hd, b1⟩)
  have M1 := OwnN.nts ho (by omega)
  have M := Lib.hid (fun (X : World) (c : Below u1.heap.size u1 X) => (Rd.below M1 c : Mvs X v ns))
  have C1 := Lib.hid b1
  have U0 := Lib.hid (below_self u1)
  clear ho hd b1 M1 DN
  have TI := Lib.hid (fun (X : World) (c : Below u1.heap.size u1 X) => implRegisterTrains (M.out X c))
  have TS := Lib.hid (fun (X : World) (c : Below u1.heap.size u1 X) => specRegisterTrains (M.out X c))
  have TL := Lib.hid (fun (X : World) (c : Below u1.heap.size u1 X) => implRegisterLate (M.out X c) 5)
  have TT := Lib.hid (fun (X : World) (c : Below u1.heap.size u1 X) => implRegisterText (M.out X c))
  have FA := Lib.hid (fun (q : trL ns ≠ []) => trL_facts q)
  have FL := Lib.hid (fun (q : soundB ns = true) (q2 : latB ns 5 = true) => lat_trL q q2 (by omega))
  obtain ⟨xs, hxs⟩ : ∃ x, x = trL ns := ⟨_, rfl⟩
  rw [← hxs] at TI TS FA FL
  have XL : xs.length ≤ 33 := by
    rw [hxs]; unfold trL; split
    · have := trT_length ns ns.length; omega
    · exact Nat.zero_le _
  have HXL := Lib.hid XL
  have HXS := Lib.hid hxs
  have xli : (xs.length : Int) ≤ 33 := by omega
  clear hxs XL
  go_upto_region 5 with (go_at_call 27; refine (TI.out _ U0.out).mono ?_; rintro e u2 ⟨v2, rfl, o2, b2⟩)
  obtain ⟨a2, c2, rfl⟩ := own_slice2 o2
  have B2 := Lib.hid b2
  have O2 := Lib.hid (o2.ints (by have := HXL.out; omega))
  clear b2 o2
  go_upto_region 6 with (go_at_call 28; refine (TS.out _ B2.out).mono ?_; rintro e u3 ⟨v3, rfl, o3, b3⟩)
  have B3 := Lib.hid (B2.out.trans (b3.mono B2.out.size))
  have I3 := Lib.hid (O2.out.below b3)
  have SM := Lib.hid (fun (X : World) (c : Below u3.heap.size u3 X) => by
    have q := sameInts (I3.out.below c) ((o3.below c).ints (by have := HXL.out; omega))
    rw [decide_eq_true rfl] at q
    exact q)
  clear b3 o3
  rcases Nat.eq_zero_or_pos xs.length with h0 | h0
  · have t0 : ((xs.length : Int) == 0) = true := by rw [h0]; rfl
    clear h0
    go_wp2_with (first
      | (go_at_call 29; refine (SM.out _ (below_self _)).mono ?_; rintro e u4 ⟨rfl, b4⟩; clear TL)
      | (go_at_call 29; refine (SM.out _ b4).mono ?_; rintro e u5 ⟨rfl, b5⟩))
    go_ret
    exact ⟨rfl, C1.out.trans ((B3.out.trans ((b4.trans (b5.mono b4.size)).mono B3.out.size)).mono C1.out.size)⟩
  have t0 : ((xs.length : Int) == 0) = false := beq_eq_false_iff_ne.2 (by omega)
  have hne : xs ≠ [] := by intro q; rw [q] at h0; simp at h0
  obtain ⟨F1, F2, F3, F4, F5, F6, F7⟩ := FA.out hne
  have HF1 := Lib.hid F1
  have HF5 := Lib.hid F5
  have HF6 := Lib.hid F6
  have HF7 := Lib.hid F7
  have H0 := Lib.hid h0
  have HF2 := Lib.hid (And.intro F2 (And.intro F3 F4))
  clear F1 F2 F3 F4 F5 F6 F7 hne h0 FA
  go_upto_region 8 with (go_at_call 29; refine (SM.out _ (below_self _)).mono ?_; rintro e u4 ⟨rfl, b4⟩)
  have B4 := Lib.hid (B3.out.trans (b4.mono B3.out.size))
  have I4 := Lib.hid (I3.out.below b4)
  clear b4 SM t0
  go_upto_region 10 with (go_at_call 17; refine (TL.out _ B4.out).mono ?_; rintro e u5 ⟨v5, rfl, o5, b5⟩)
  have B5 := Lib.hid (B4.out.trans (b5.mono B4.out.size))
  have I5 := Lib.hid (I4.out.below b5)
  have LM := OwnN.nts o5 (latV_len ns 5)
  have LT := Lib.hid (fun (X : World) (c : Below u5.heap.size u5 X) => implRegisterTrains (Rd.below LM c : Mvs X v5 (latV ns 5)))
  have W5 := Lib.hid (below_self u5)
  clear b5 o5 LM
  go_loopw [8] (fun i wr => ∃ k : Nat, k ≤ xs.length ∧ i = .int .i64 k ∧ Hid (Below u5.heap.size u5 wr)) (fun i _ => xs.length - (intOf i).toNat)
  case atStart => exact ⟨0, by omega, rfl, W5⟩
  case round =>
    obtain ⟨k, hk, rfl, HB⟩ := hrel
    by_cases hlt : k < xs.length
    · have hki : (k : Int) < (xs.length : Int) := by omega
      obtain ⟨_, _, e6, -, hc⟩ := id I5.out
      simp only [Value.slice.injEq, true_and] at e6
      obtain ⟨rfl, rfl⟩ := e6
      rcases hc with hc | ⟨b, o, rfl, hbb, hcell⟩
      · rw [hc] at hlt; simp at hlt
      have c1 := (HB.out.cell (p := ⟨b, o + k, none⟩) hbb).trans (hcell k hlt)
      have r1 := HF5.out k hlt
      obtain ⟨x, hx⟩ : ∃ x, x = xs.getD k 0 := ⟨_, rfl⟩
      rw [← hx] at c1 r1
      have t1 : decide (x < 0) = false := decide_eq_false (by omega)
      clear hx hcell r1
      go_wp2_with fail
      go_roundw
      case rel => exact ⟨k + 1, by omega, by go_num, HB⟩
      case measure => simp [intOf]; omega
    · obtain rfl : k = xs.length := by omega
      have hff : decide ((xs.length : Int) < (xs.length : Int)) = false := decide_eq_false (by omega)
      have hns := HF2.out
      obtain ⟨av, cv, hv⟩ : ∃ a c, v = .slice a ns.length c := by
        obtain ⟨a, c, e, -⟩ := M.out _ U0.out
        exact ⟨a, c, e⟩
      subst hv
      obtain ⟨b, o, rfl, hbb, hcell⟩ := Mvs.at (M.out _ U0.out) hns.1
      have c1 := (hcell 0 hns.1).1
      have c2' := (hcell (ns.length - 1) (by omega)).1
      rw [Nat.zero_mul, Nat.add_zero] at c1
      have n0 := reg_note (sound_is HF1.out).1 (i := 0) (by omega)
      have n1 := reg_note (sound_is HF1.out).1 (i := ns.length - 1) (by omega)
      have FF6 := HF6.out
      obtain ⟨x0, hx0⟩ : ∃ x, x = (ns.getD 0 noMv).1 := ⟨_, rfl⟩
      obtain ⟨x1, hx1⟩ : ∃ x, x = (ns.getD (ns.length - 1) noMv).1 := ⟨_, rfl⟩
      rw [← hx0] at c1 n0 FF6
      rw [← hx1] at c2' n1 FF6
      have BW := Lib.hid (B5.out.trans (HB.out.mono B5.out.size))
      have CL := Lib.hid (fun (Y : World) (kk : Below wr.heap.size wr Y) => show Y.cell? ⟨b, o, none⟩ = some (.int .i64 x0) ∧ Y.cell? ⟨b, o + (ns.length - 1) * 2, none⟩ = some (.int .i64 x1) from
        ⟨((BW.out.trans (kk.mono BW.out.size)).cell (p := ⟨b, o, none⟩) hbb).trans c1, ((BW.out.trans (kk.mono BW.out.size)).cell (p := ⟨b, o + (ns.length - 1) * 2, none⟩) hbb).trans c2'⟩)
      have SI := Lib.hid (fun (Y : World) (kk : Below wr.heap.size wr Y) => (lawSum (w := Y) (xs := xs) ((I5.out.below HB.out).below kk) hns.2.2 HF5.out).mono (fun e w' (h : e = .returned (.int .i64 (sumI xs xs.length)) ∧ Y = w') => show e = .returned (.int .i64 (sumI xs xs.length)) ∧ Below Y.heap.size Y w' from ⟨h.1, h.2 ▸ Below.refl _ _⟩))
      have TX := Lib.hid (fun (Y : World) (kk : Below wr.heap.size wr Y) => show Calls Try.prog 32 #[.slice (some ⟨b, o, none⟩) ns.length cv] Y fun e w' => e = .returned (.string (nTx ns)) ∧ Below Y.heap.size Y w' from by
        have q := TT.out Y (BW.out.trans (kk.mono BW.out.size))
        rw [show regT ns = nTx ns by unfold regT; rw [regL_yes (sound_is HF1.out).1]] at q
        exact q)
      have SZ := Lib.hid (show (nTx ns).size ≤ 1048576 by rw [nTx_size (sound_is HF1.out).1]; omega)
      have CT := Lib.hid (fun (Y : World) => (countOf (nTx ns) SZ.out 108 Y).mono (fun e w' (h : e = .returned (.int .i64 (cntTo (nTx ns) 108 (nTx ns).size)) ∧ Y = w') => show e = .returned (.int .i64 (cntTo (nTx ns) 108 (nTx ns).size)) ∧ Below Y.heap.size Y w' from ⟨h.1, h.2 ▸ Below.refl _ _⟩))
      have FF7 := HF7.out
      rw [← FF7] at CT
      have sr := sumI_range (k := xs.length) HF5.out
      obtain ⟨sm, hsm2⟩ : ∃ x, x = sumI xs xs.length := ⟨_, rfl⟩
      rw [← hsm2] at SI FF6 sr
      have SMH := Lib.hid hsm2
      have HF4 := Lib.hid hns.2.2
      obtain ⟨tx, htx⟩ : ∃ x, x = nTx ns := ⟨_, rfl⟩
      rw [← htx] at TX CT
      have TL2 := Lib.hid (fun (q : latB ns 5 = true) (Y : World) (kk : Below wr.heap.size wr Y) => show Calls Try.prog 27 #[v5] Y (MadeInts Y xs) from by
        have q2 := LT.out Y (HB.out.trans (kk.mono HB.out.size))
        rw [FL.out HF1.out q] at q2
        exact q2)
      have SM2 := Lib.hid (fun (Y : World) (kk : Below wr.heap.size wr Y) (u : Value) (j : Ints Y u xs) => by
        have q := sameInts j ((I5.out.below HB.out).below kk)
        rw [decide_eq_true rfl] at q
        exact q)
      obtain ⟨p, hp⟩ : ∃ p, p = latB ns 5 := ⟨_, rfl⟩
      rw [← hp] at TL2 ⊢
      have hw1 : IntKind.i64.wrap ((ns.length : Int) - 1) = ((ns.length - 1 : Nat) : Int) := by rw [IntWalk.i64_in _ (by omega)]; omega
      have hw2 : IntKind.i64.wrap (x1 - x0) = x1 - x0 := IntWalk.i64_in _ (by omega)
      have e1 : decide (sm ≤ x1 - x0) = true := decide_eq_true FF6
      have e3 : ((xs.length : Int) == (xs.length : Int)) = true := by simp
      have hnl : ns.length - 1 < ns.length := by omega
      have hnl2 : ((ns.length - 1 : Nat) : Int) < (ns.length : Int) := by omega
      have hnl3 : (0 : Int) < (ns.length : Int) := by omega
      have hnl4 : 0 < ns.length := by omega
      have CW := Lib.hid (C1.out.trans (BW.out.mono C1.out.size))
      clear hx0 hx1 c1 c2' n0 n1 FF6 FF7 sr hsm2 htx hp hcell hns hk hlt hff
      go_upto_region 14 with fail
      cases p
      · have cw := CL.out _ (below_self wr)
        obtain ⟨cw1, cw2⟩ := cw
        have F0 := fun d os => cell_regrown cw1 d os
        have F1 := fun d os => cell_regrown cw2 d os
        have R1 := Lib.hid (fun (d : Nat) (os : Array Obj) => Calls.regrown_of (SI.out _ (below_regrown wr d os)))
        have R2 := Lib.hid (fun (d : Nat) (os : Array Obj) => Calls.regrown_of (TX.out _ (below_regrown wr d os)))
        have R3 := Lib.hid (fun (d : Nat) (os : Array Obj) => Calls.regrown_of (CT.out (Go.Sort.grow (redrawn wr d) os)))
        clear cw1 cw2
        refine wp_region_quiet_below (by kernel_rfl) (by kernel_rfl) ?_
        repeat (go_big_quiet_step (first | (with_reducible exact R1.out _ _) | (with_reducible exact R2.out _ _) | (with_reducible exact R3.out _ _)))
        refine wpQuiet_nil ?_
        intro _ hw'
        obtain ⟨⟨dq, osq⟩, hw''⟩ := hw'
        subst hw''
        have BR := Lib.hid (below_regrown wr dq osq)
        clear F0 F1 hw1 hw2
        go_wp2_with fail
        go_ret
        exact ⟨rfl, CW.out.trans (BR.out.mono CW.out.size)⟩
      · have d0 : Below wr.heap.size wr wr.drew := (Below.refl _ _).drew
        have TL3 := Lib.hid (fun (Y : World) (kk : Below wr.heap.size wr Y) => TL2.out rfl Y kk)
        clear TL2
        go_region_held3 (fun Y => Y.cell? ⟨b, o, none⟩ = some (.int .i64 x0) ∧ Y.cell? ⟨b, o + (ns.length - 1) * 2, none⟩ = some (.int .i64 x1))
          (first
            | exact CL.out _ d0
            | exact CL.out _ dA
            | exact CL.out _ dB
            | exact CL.out _ dC
            | exact CL.out _ dD
            | exact CL.out _ (dD.trans (bE.mono dD.size))
            | go_keep)
          (first
            | (go_at_call 30; refine (SI.out _ d0).mono ?_; rintro e wA ⟨rfl, bA⟩; have dA := d0.trans (bA.mono d0.size))
            | (go_at_call 27; refine (TL3.out _ dA).mono ?_; rintro e wB ⟨vB, rfl, oB, bB⟩; have dB := dA.trans (bB.mono dA.size); have jB := Lib.hid (oB.ints (by have := HF4.out; omega)); clear oB)
            | (go_at_call 29; refine (SM2.out _ dB _ jB.out).mono ?_; rintro e wC ⟨rfl, bC⟩; have dC := dB.trans (bC.mono dB.size))
            | (go_at_call 32; refine (TX.out _ dC).mono ?_; rintro e wD ⟨rfl, bD⟩; have dD := dC.trans (bD.mono dC.size))
            | (go_at_call 31; refine (CT.out _).mono ?_; rintro e wE ⟨rfl, bE⟩)
            | fail)
        all_goals
          go_wp2_with fail
          go_ret
          exact ⟨rfl, CW.out.trans ((dD.trans (bE.mono dD.size)).mono CW.out.size)⟩

end Go.Proofs.Ytphadofigcipcaa

namespace Go.Proofs.Ytphadofigcipcaa.fnRegisterTrains
open Go.ChangeShapes Go.WideShapes Go.ChangeAt Go.RowKit
open Go.ChangeMaps (open_string shut_string)
set_option linter.unusedVariables false

theorem own : ownKnob Try.prog.godebug = none := by kernel_rfl
theorem laidOut : laidOutB Try.prog = true := by kernel_rfl

set_option maxRecDepth 100000 in
theorem lifted (os : Os) (started : os.Started) (H : Type) (enc : TypeId × Value → H) :
    ReturnsInHanded {} Try.checked os 7 .any (Rows.fnRegisterTrainsSpec.pre6 enc Try.prog Try.f7 Rows.fnRegisterTrainsRow.domain false) (Rows.fnRegisterTrainsSpec.post enc Try.prog Try.f7 false true false false) := by
  refine returnsInHanded_of_change (C := Try.checked) own started (by kernel_rfl) Try.func7
    (ChangeSpec.witness6 (enc := enc) (C := Try.checked) false ⟨#[], #[.slice none 0 0], []⟩ 8 (by kernel_rfl) (by kernel_rfl) (by kernel_rfl) (by kernel_rfl)) ?_
  intro W base args ds gs before hval0 hW hcnd _
  have hval : ∀ (j : Nat) t v, Try.f7.params[j]? = some t → args[j]? = some v → Value.okWide Try.prog W .any base t v := hval0
  have hW' := hW
  obtain ⟨p, q, hA0, hV, rfl, hfz, hnd⟩ := hW
  have hA : DataW.TrodAll enc Try.prog W 0 (fun _ => true) true Try.f7.params.toList args.toList ds p := hA0
  rw [Try.params7] at hA hval
  obtain ⟨v0, vs0, d0, ds0, p0, q0, hargs, rfl, rfl, h0, r0⟩ := trodAll_cons hA
  obtain ⟨rfl, rfl, rfl⟩ := trodAll_nil r0
  obtain rfl : args = #[v0] := by cases args; simp_all
  obtain ⟨rfl, rfl⟩ := trodVars_none hV
  obtain ⟨a0, len0, cap0, rfl⟩ := okWide_slice Try.underlying22 (hval 0 22 v0 rfl rfl)
  have k0 := h0
  have lt0 : ∀ x ∈ p0, x.block < W.heap.size := by obtain ⟨m, hm⟩ := k0; exact DataW.trod_lt m _ _ _ hm
  obtain ⟨z0, w0⟩ : ∃ zs, IsRowK .u8 W a0 len0 cap0 zs := by
    obtain ⟨fuel, hf⟩ := h0
    rcases open_ints Try.underlying22 Try.underlying5 (by kernel_rfl) hf with ⟨hcs, _⟩ | ⟨x, l, c, zs, hcs, _, hl, hm, hz, _, hcell, hwz⟩
    · simp [Value.cells] at hcs
      obtain ⟨rfl, rfl, rfl⟩ := hcs
      exact ⟨[], .inl ⟨rfl, rfl, rfl, rfl⟩⟩
    · simp [Value.cells] at hcs
      obtain ⟨rfl, rfl, rfl⟩ := hcs
      exact ⟨zs, .inr ⟨_, rfl, hl, hm, by simpa using hz, hcell, hwz⟩⟩
  clear hA0 hval0
  refine (walk_FnRegisterTrains a0 len0 cap0 z0 W w0).mono fun e W' ⟨he, bel⟩ => ?_
  subst he
  exact ⟨_, rfl, _, _, _, [], _, [], hW', trodAll_mk1 (shut_bool Try.underlying4 _), (trodAll_cons_mk (Below.trod laidOut (by kernel_rfl) (of_decide_eq_true (by kernel_rfl)) k0 bel lt0) trodAll_mk0), rfl, bel.frame _, fun h => by cases h⟩

theorem closed : joinedFacts Try.checked.prog 7 Try.f7 Rows.fnRegisterTrainsSpec Rows.fnRegisterTrainsRow = true := by
  unfold joinedFacts
  simp only [Bool.and_eq_true]
  repeat' (refine And.intro ?_ ?_)
  all_goals first
    | with_reducible exact may_enter
    | (rw [lifts_final]; kernel_rfl)
    | (rw [make_is]; kernel_rfl)
    | kernel_rfl

theorem over : Rows.fnRegisterTrainsRow.holds Try.pinned (OpenSpec.ofChange Rows.fnRegisterTrainsSpec) :=
  OpenClaim.holds_of_wide 7 Try.f7 rfl rfl rfl rfl rfl rfl rfl ⟨rfl, rfl, rfl, rfl, rfl⟩ rfl rfl rfl rfl rfl (by kernel_rfl) Try.func7 closed
    (of_decide_eq_true (by kernel_rfl)) (by unfold Func.isWrapper; first | (rw [if_pos (by decide +kernel)]; kernel_rfl) | (rw [if_neg (by decide +kernel)]; exact ⟨rfl, rfl⟩))
    (fun os started H enc _ => lifted os started H enc)

theorem proved : Rows.FnRegisterTrainsSaid := over
#print axioms proved
end Go.Proofs.Ytphadofigcipcaa.fnRegisterTrains
