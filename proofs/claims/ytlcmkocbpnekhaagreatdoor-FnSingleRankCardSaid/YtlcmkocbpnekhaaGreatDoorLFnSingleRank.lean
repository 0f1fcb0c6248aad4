/-
  For every input the law 'FnSingleRank' returns true, and each of its arguments reads behind the call as it read before. Conditions: none beyond those of the row.
-/
import Derived.Test.YtlcmkocbpnekhaaGreatDoorRows
import Derived.WalkKit
import Derived.ProofKit
import Derived.OpenShut
import Derived.ShutString
import Derived.ChangeOld
import Derived.Below
import Derived.Deep.Matrix
import Derived.Test.YtlcmkocbpnekhaaGreatDoorIo
import Derived.LaidMore
import Derived.Lay
import Derived.SevenTiedAt
import Derived.Stop.Joined
import Derived.Test.YtlcmkocbpnekhaaGreatDoorCards
import Derived.Test.YtlcmkocbpnekhaaGreatDoorTie
import Derived.Test.YtlcmkocbpnekhaaGreatDoorShp
import Derived.Test.YtlcmkocbpnekhaaGreatDoorDrOs
import Derived.Test.YtlcmkocbpnekhaaGreatDoorSgU
import Derived.Test.YtlcmkocbpnekhaaGreatDoorRplD
import Derived.Deep.RegionHeld3
namespace Go.Proofs.YtlcmkocbpnekhaaGreatDoor
open Go.RowKit

theorem sw_put (b : UInt8) (T : ByteArray) : swO ((⟨#[b]⟩ : ByteArray) ++ T) = (⟨#[sx b]⟩ : ByteArray) ++ swO T := by
  rw [put_list, put_list]
  unfold swO
  simp
theorem tn_sw (S : ByteArray) : tnS S = swO S := by
  unfold tnS swO
  congr 2
theorem allF_comm (n : Nat) (u d : Nat) (h : u + d = n) : (allF n d u).length = (allF n u d).length := by
  have := mny_comm d u
  unfold mny at this
  rw [show d + u = n by omega, show u + d = n by omega] at this
  exact this
/-- Seen from the other side an order has as many ahead of it as it had behind it. -/
theorem rank_sw (n : Nat) : ∀ u d S, u + d = n → OrdOk u d S → lessN (swO S) (allF n d u) + lessN S (allF n u d) + 1 = (allF n u d).length := by
  induction n with
  | zero =>
    intro u d S h ok
    have e : S = ⟨#[]⟩ := by
      apply ByteArray.ext
      exact Array.eq_empty_of_size_eq_zero (by have := ok.size; show S.size = 0; omega)
    subst e
    have e2 : lsB ⟨#[]⟩ ⟨#[]⟩ = false := by unfold lsB; rw [ByteArray.toList_eq]; rfl
    have e3 : swO ⟨#[]⟩ = ⟨#[]⟩ := rfl
    rw [e3]
    show ((if lsB ⟨#[]⟩ ⟨#[]⟩ then 1 else 0) + 0) + ((if lsB ⟨#[]⟩ ⟨#[]⟩ then 1 else 0) + 0) + 1 = 1
    rw [e2]; rfl
  | succ n ih =>
    intro u d S h ok
    obtain ⟨x, hx, e⟩ := tl_step (S := S) (i := 0) (by have := ok.size; omega)
    rw [tl_zero] at e
    obtain ⟨T, eqT⟩ : ∃ T, T = tl S (0 + 1) := ⟨_, rfl⟩
    rw [← eqT] at e
    have h0 := ok.only 0 (by have := ok.size; omega)
    rw [hx] at h0
    rw [e] at ok ⊢
    rw [sw_put]
    rcases h0 with h85 | h68
    · obtain rfl : x = 85 := u8_is (k := 85) (by omega) h85
      obtain ⟨v, rfl, ok2⟩ := ok.tailU
      have q := ih v d T (by omega) ok2
      have sxU : sx 85 = 68 := rfl
      rw [sxU]
      have e1 : lessN ((⟨#[85]⟩ : ByteArray) ++ T) (allF (n + 1) (v + 1) d) = (if 0 < d then (allF n (v + 1) (d - 1)).length else 0) + lessN T (allF n v d) := by
        show lessN _ ((if 0 < d then _ else _) ++ (if 0 < v + 1 then _ else _)) = _
        rw [lessN_app, if_pos (Nat.zero_lt_succ v), Nat.add_sub_cancel]
        congr 1
        · split
          · exact lessN_all _ _
          · rfl
        · exact lessN_same 85 _ _
      have e2 : lessN ((⟨#[68]⟩ : ByteArray) ++ swO T) (allF (n + 1) d (v + 1)) = lessN (swO T) (allF n d v) := by
        show lessN _ ((if 0 < v + 1 then _ else _) ++ (if 0 < d then _ else _)) = _
        rw [lessN_app, if_pos (Nat.zero_lt_succ v), Nat.add_sub_cancel]
        have z : ∀ L : List ByteArray, lessN ((⟨#[68]⟩ : ByteArray) ++ swO T) (if 0 < d then L.map (fun o => sU ++ o) else []) = 0 := by
          intro L; split
          · exact lessN_none _ _
          · rfl
        rw [z]
        exact lessN_same 68 _ _
      have e3 : (allF (n + 1) (v + 1) d).length = (if 0 < d then (allF n (v + 1) (d - 1)).length else 0) + (allF n v d).length := by
        show ((if 0 < d then _ else _) ++ (if 0 < v + 1 then _ else _) : List ByteArray).length = _
        rw [List.length_append, if_pos (Nat.zero_lt_succ v), Nat.add_sub_cancel, List.length_map]
        congr 1
        split
        · rw [List.length_map]
        · rfl
      rw [e1, e2, e3]
      omega
    · obtain rfl : x = 68 := u8_is (k := 68) (by omega) h68
      obtain ⟨b, rfl, ok2⟩ := ok.tailD
      have q := ih u b T (by omega) ok2
      have sxD : sx 68 = 85 := rfl
      rw [sxD]
      have e1 : lessN ((⟨#[68]⟩ : ByteArray) ++ T) (allF (n + 1) u (b + 1)) = lessN T (allF n u b) := by
        show lessN _ ((if 0 < b + 1 then _ else _) ++ (if 0 < u then _ else _)) = _
        rw [lessN_app, if_pos (Nat.zero_lt_succ b), Nat.add_sub_cancel]
        have z : ∀ L : List ByteArray, lessN ((⟨#[68]⟩ : ByteArray) ++ T) (if 0 < u then L.map (fun o => sU ++ o) else []) = 0 := by
          intro L; split
          · exact lessN_none _ _
          · rfl
        rw [z]
        exact lessN_same 68 _ _
      have e2 : lessN ((⟨#[85]⟩ : ByteArray) ++ swO T) (allF (n + 1) (b + 1) u) = (if 0 < u then (allF n (b + 1) (u - 1)).length else 0) + lessN (swO T) (allF n b u) := by
        show lessN _ ((if 0 < u then _ else _) ++ (if 0 < b + 1 then _ else _)) = _
        rw [lessN_app, if_pos (Nat.zero_lt_succ b), Nat.add_sub_cancel]
        congr 1
        · split
          · exact lessN_all _ _
          · rfl
        · exact lessN_same 85 _ _
      have e3 : (allF (n + 1) u (b + 1)).length = (allF n u b).length + (if 0 < u then (allF n (u - 1) (b + 1)).length else 0) := by
        show ((if 0 < b + 1 then _ else _) ++ (if 0 < u then _ else _) : List ByteArray).length = _
        rw [List.length_append, if_pos (Nat.zero_lt_succ b), Nat.add_sub_cancel, List.length_map]
        congr 1
        split
        · rw [List.length_map]
        · rfl
      have e4 : (if 0 < u then (allF n (b + 1) (u - 1)).length else 0) = (if 0 < u then (allF n (u - 1) (b + 1)).length else 0) := by
        split
        · exact allF_comm n _ _ (by omega)
        · rfl
      rw [e1, e2, e3, e4]
      omega
theorem rank_facts {s : Sg} {S : ByteArray} (h : sgO s S = true) : nthB s (rankV s S) = true ∧ nthS s (rankV s S) = S ∧ rankV (tuG s) (swO S) = manyV s - 1 - rankV s S ∧ 0 ≤ rankV s S ∧ rankV s S ≤ 4096 ∧ manyV s ≤ 4096 ∧ 0 ≤ manyV s := by
  obtain ⟨o1, o2⟩ := sgO_of h
  have hs := sgB_yes o1
  obtain ⟨k, hk, e⟩ := mem_ords h
  have hr : lessN S (ords s) = k := by
    have := less_at (s.A.length + s.B.length) s.A.length s.B.length rfl k hk
    rw [show (allF (s.A.length + s.B.length) s.A.length s.B.length).getD k ⟨#[]⟩ = S from e] at this
    exact this
  have hv : rankV s S = (k : Int) := by rw [rankV_yes h, hr]
  have mv := manyV_yes hs
  have ml : mny s.A.length s.B.length ≤ 4096 := mny_le (by have := o1.lenA; have := o1.lenB; omega)
  rw [← ords_len] at mv ml
  have nb : nthB s (k : Int) = true := by unfold nthB; rw [mv]; exact decide_eq_true (by omega)
  rw [hv]
  refine ⟨nb, by rw [nthS_yes nb, Int.toNat_natCast]; exact e, ?_, by omega, by omega, by omega, by omega⟩
  rw [rankV_yes (tuG_sgO h), mv]
  have q := rank_sw (s.A.length + s.B.length) s.A.length s.B.length S rfl o2
  have e2 : ords (tuG s) = allF (s.A.length + s.B.length) s.B.length s.A.length := by
    show allF (s.B.length + s.A.length) s.B.length s.A.length = _
    rw [Nat.add_comm]
  rw [e2]
  have e3 : lessN S (allF (s.A.length + s.B.length) s.A.length s.B.length) = k := hr
  have e4 : (allF (s.A.length + s.B.length) s.A.length s.B.length).length = (ords s).length := rfl
  rw [e3, e4] at q
  omega

set_option maxRecDepth 100000 in
set_option maxHeartbeats 8000000 in
theorem walk_FnSingleRank (a0 : Option Addr) (len0 cap0 : Nat) (z0 : List Int) (w : World) (w0 : IsRowK .u8 w a0 len0 cap0 z0) :
    Calls Tryz.prog 3 #[.slice a0 len0 cap0] w fun e w' => e = .returned (.bool true) ∧ Below w.heap.size w w' := by
  rcases Nat.lt_or_ge 1048576 len0 with hbig | hsm
  · have hb : (1048576 : Int) < (len0 : Int) := by omega
    go_enter Tryz.func3, Tryz.ntmps3
    go_wp2_with fail
    go_ret
    exact ⟨rfl, Below.refl _ _⟩
  have hb : (len0 : Int) ≤ 1048576 := by omega
  have DN := Lib.hid (drawORank w0 hsm)
  clear w0
  go_enter Tryz.func3, Tryz.ntmps3
  go_upto_region 4 with (go_at_call 4; refine DN.out.mono ?_; rintro e wA ⟨v, s, S, rfl, os, ss, hS, bA⟩; obtain ⟨a1, n1, c1, a2, n2, c2, rfl⟩ := os.form)
  have qB0 := Quad.new wA (.slice a1 n1 c1) (.slice a2 n2 c2) (.int .i64 s.run) (.int .i64 s.head) 25
  have bB := below_alloc wA (.cells #[.slice a1 n1 c1, .slice a2 n2 c2, .int .i64 s.run, .int .i64 s.head] 25)
  have sv := (os.sgV (by have := ss.la; omega) (by have := ss.lb; omega)).below bB
  obtain ⟨wB, hwB⟩ : ∃ X, X = wA.alloc (.cells #[.slice a1 n1 c1, .slice a2 n2 c2, .int .i64 s.run, .int .i64 s.head] 25) := ⟨_, rfl⟩
  rw [← hwB] at qB0 bB sv ⊢
  have BB := Lib.hid (bA.trans (bB.mono bA.size))
  have QB := Lib.hid qB0
  have IE := Lib.hid (fun (X : World) (b : Below wB.heap.size wB X) => implRank (S := S) (sv.below b) (by omega))
  have SE := Lib.hid (fun (X : World) (b : Below wB.heap.size wB X) => specRank (S := S) (sv.below b) (by omega))
  have IN := Lib.hid (fun (X : World) (b : Below wB.heap.size wB X) (k : Int) => implNth (rk := k) (sv.below b))
  have IM := Lib.hid (fun (X : World) (b : Below wB.heap.size wB X) => implMany (sv.below b))
  have IT := Lib.hid (fun (X : World) (b : Below wB.heap.size wB X) => implTurn (sv.below b))
  obtain ⟨m, hm⟩ : ∃ m, m = rankV s S := ⟨_, rfl⟩
  have HM := Lib.hid hm
  rw [← hm] at IE SE
  have k0 := QB.out.cell0
  have k1 := QB.out.cell1
  have k2 := QB.out.cell2
  have k3 := QB.out.cell3
  have HS := Lib.hid hS
  clear hm hwB qB0 bB sv os ss bA
  go_upto_region 5 with (go_at_call 5; refine (IE.out _ (below_self _)).mono ?_; rintro e wC ⟨rfl, bC⟩)
  have l0 := (QB.out.below bC).cell0
  have l1 := (QB.out.below bC).cell1
  have l2 := (QB.out.below bC).cell2
  have l3 := (QB.out.below bC).cell3
  have BC := Lib.hid bC
  clear k0 k1 k2 k3 bC
  go_upto_region 6 with (go_at_call 6; refine (SE.out _ BC.out).mono ?_; rintro e wD ⟨rfl, bD⟩)
  have BD := Lib.hid (BC.out.trans (bD.mono BC.out.size))
  clear l0 l1 l2 l3 bD
  rcases Int.lt_or_le m 0 with hneg | hpos
  · have t0 : decide (m < 0) = true := decide_eq_true hneg
    have t1 : (m != m) = false := by simp
    have t2 : (m == m) = true := by simp
    clear hneg
    go_wp2_with fail
    go_ret
    exact ⟨rfl, BB.out.trans (BD.out.mono BB.out.size)⟩
  have t0 : decide (m < 0) = false := by simpa using hpos
  have t1 : (m != m) = false := by simp
  have OK := Lib.hid (show sgO s S = true by
    cases hs : sgO s S
    · rw [HM.out, rankV_no hs] at hpos; omega
    · rfl)
  have HSG := Lib.hid (sgB_yes (sgO_of OK.out).1)
  obtain ⟨F1, F2, F3, F4, F5, F6, F7⟩ := rank_facts OK.out
  rw [← HM.out] at F1 F2 F3 F4 F5
  have IN1 := IN.out _ BD.out m
  rw [F1, F2] at IN1
  have IN1 := Lib.hid IN1
  have IT1 := IT.out
  rw [HSG.out, show tuV s = tuG s by unfold tuV; rw [HSG.out]; rfl] at IT1
  have IT1 := Lib.hid IT1
  have LS := Lib.hid (show s.A.length ≤ 6 ∧ s.B.length ≤ 6 from ⟨(sgB_of HSG.out).lenA, (sgB_of HSG.out).lenB⟩)
  have SZ := Lib.hid (sgO_size OK.out)
  have HD : dirB S = true := by
    unfold dirB
    rw [decide_eq_true (by have := SZ.out; omega), onlyB_yes (sgO_of OK.out).2.only]; rfl
  have TD := Lib.hid (fun (X : World) => show Calls Tryz.prog 9 #[.string S] X fun e w' => e = .returned (.tuple #[.string (swO S), .bool true]) ∧ Below X.heap.size X w' from by
    have q := implTurnD S (by have := SZ.out; omega) X
    rw [HD, show dtS S = swO S by unfold dtS; rw [HD, if_pos rfl]; exact tn_sw S] at q
    exact q)
  have l0 := (QB.out.below BD.out).cell0
  have l1 := (QB.out.below BD.out).cell1
  have l2 := (QB.out.below BD.out).cell2
  have l3 := (QB.out.below BD.out).cell3
  have FF := Lib.hid (And.intro F3 (And.intro F4 (And.intro F5 (And.intro F6 F7))))
  clear F1 F2 F3 F4 F5 F6 F7 HD hpos hS
  go_upto_region 9 with (go_at_call 7; refine IN1.out.mono ?_; rintro e wE ⟨rfl, bE⟩)
  have BE := Lib.hid (BD.out.trans (bE.mono BD.out.size))
  have k0 := (QB.out.below BE.out).cell0
  have k1 := (QB.out.below BE.out).cell1
  have k2 := (QB.out.below BE.out).cell2
  have k3 := (QB.out.below BE.out).cell3
  clear l0 l1 l2 l3 bE
  go_upto_region 10 with (go_at_call 8; refine (IT1.out _ BE.out).mono ?_; rintro e wF ⟨vt, rfl, ot, bF⟩; obtain ⟨gx1, gx2, gx3, gy1, gy2, gy3, rfl⟩ := ot.form)
  have q4 := Quad.new wF (.slice gx1 gx2 gx3) (.slice gy1 gy2 gy3) (.int .i64 (tuG s).run) (.int .i64 (tuG s).head) 25
  have b4 := below_alloc wF (.cells #[.slice gx1 gx2 gx3, .slice gy1 gy2 gy3, .int .i64 (tuG s).run, .int .i64 (tuG s).head] 25)
  have sg4 := (ot.sgV (by have := LS.out; simp only [tuG]; omega) (by have := LS.out; simp only [tuG]; omega)).below b4
  obtain ⟨wG, hwG⟩ : ∃ X, X = wF.alloc (.cells #[.slice gx1 gx2 gx3, .slice gy1 gy2 gy3, .int .i64 (tuG s).run, .int .i64 (tuG s).head] 25) := ⟨_, rfl⟩
  have HWG := Lib.hid hwG
  rw [← hwG] at q4 b4 sg4 ⊢
  have BG := Lib.hid (BE.out.trans ((bF.trans (b4.mono bF.size)).mono BE.out.size))
  have Q4 := Lib.hid q4
  have S4 := Lib.hid sg4
  clear k0 k1 k2 k3 hwG q4 b4 sg4 ot bF
  go_upto_region 11 with (go_at_call 9; refine (TD.out _).mono ?_; rintro e wH ⟨rfl, bH⟩)
  have BH := Lib.hid (BG.out.trans (bH.mono BG.out.size))
  have P3 := QB.out.below BH.out
  have P9 := Q4.out.below bH
  have VT := fun (X : World) (b : Below wH.heap.size wH X) => implRank (S := swO S) (S4.out.below (bH.trans (b.mono bH.size))) (by rw [swO_size]; have := SZ.out; omega)
  have VM := fun (X : World) (b : Below wH.heap.size wH X) => IM.out X (BH.out.trans (b.mono BH.out.size))
  rw [FF.out.1] at VT
  obtain ⟨mm, hmm⟩ : ∃ x, x = manyV s := ⟨_, rfl⟩
  have G6 := FF.out.2.2.2
  have G4 := FF.out.2.1
  have G5 := FF.out.2.2.1
  rw [← hmm] at VT VM G6
  have hw1 : IntKind.i64.wrap (mm - 1) = mm - 1 := IntWalk.i64_in _ (by omega)
  have hw2 : IntKind.i64.wrap (mm - 1 - m) = mm - 1 - m := IntWalk.i64_in _ (by omega)
  have e1 : (mm - 1 - m == mm - 1 - m) = true := by simp
  have e2 : (S.toList == S.toList) = true := by simp
  have c0 := P3.cell0
  have c1' := P3.cell1
  have c2' := P3.cell2
  have c3 := P3.cell3
  have d0 := P9.cell0
  have d1 := P9.cell1
  have d2 := P9.cell2
  have d3 := P9.cell3
  have F0 := fun d os => cell_regrown c0 d os
  have F1 := fun d os => cell_regrown c1' d os
  have F2 := fun d os => cell_regrown c2' d os
  have F3 := fun d os => cell_regrown c3 d os
  have G0 := fun d os => cell_regrown d0 d os
  have G1 := fun d os => cell_regrown d1 d os
  have G2 := fun d os => cell_regrown d2 d os
  have G3 := fun d os => cell_regrown d3 d os
  have R1 := Lib.hid (fun (d : Nat) (os : Array Obj) => Calls.regrown_of (VT _ (below_regrown wH d os)))
  have R2 := Lib.hid (fun (d : Nat) (os : Array Obj) => Calls.regrown_of (VM _ (below_regrown wH d os)))
  obtain ⟨T, eqT⟩ : ∃ T, T = swO S := ⟨_, rfl⟩
  rw [← eqT] at R1 ⊢
  clear P3 P9 VT VM hmm c0 c1' c2' c3 d0 d1 d2 d3 G6 G4 G5 bH eqT FF
  refine wp_region_quiet_below (by kernel_rfl) (by kernel_rfl) ?_
  repeat (go_big_quiet_step (first | (with_reducible exact R1.out _ _) | (with_reducible exact R2.out _ _)))
  refine wpQuiet_nil ?_
  intro _ hw'
  obtain ⟨⟨dq, osq⟩, hw''⟩ := hw'
  subst hw''
  have BR := below_regrown wH dq osq
  have BY := Lib.hid (BB.out.trans ((BH.out.trans (BR.mono BH.out.size)).mono BB.out.size))
  clear F0 F1 F2 F3 G0 G1 G2 G3 BR hw1 hw2
  go_wp2_with fail
  go_ret
  exact ⟨rfl, BY.out⟩

end Go.Proofs.YtlcmkocbpnekhaaGreatDoor

namespace Go.Proofs.YtlcmkocbpnekhaaGreatDoor.fnSingleRank
open Go.ChangeShapes Go.WideShapes Go.ChangeAt Go.RowKit
open Go.ChangeMaps (open_string shut_string)
set_option linter.unusedVariables false

theorem own : ownKnob Tryz.prog.godebug = none := by kernel_rfl
theorem laidOut : laidOutB Tryz.prog = true := by kernel_rfl

abbrev lst : List (String × DataW Unit) := Rows.fnSingleRankRow.laid

set_option maxRecDepth 100000 in
theorem lifted (os : Os) (started : os.Started) (H : Type) (enc : TypeId × Value → H) :
    ReturnsInHanded {} Tryz.checked os 3 .any (fun w args => (Rows.fnSingleRankSpec.pre enc Tryz.prog Tryz.f3 Rows.fnSingleRankRow.domain false w args ∧ laidMetH Tryz.prog lst w) ∧ sizedMet enc Tryz.prog Tryz.f3 (OpenSpec.ofChange Rows.fnSingleRankSpec) false w args) (Rows.fnSingleRankSpec.post enc Tryz.prog Tryz.f3 false true false false) := by
  refine returns_shaped (C := Tryz.checked) (X := fun w _ => laidMetH Tryz.prog lst w) (fun _ _ _ hh h => h.of_heap hh) own started (by kernel_rfl) Tryz.func3
    (ChangeSpec.witness_shaped (enc := enc) (C := Tryz.checked) (os := os) (X := fun w _ => laidMetH Tryz.prog lst w) false (World.laidAll Tryz.prog os lst) #[.slice none 0 0] 8 (World.laidAll_os _ _ _)
      (World.shaped_of_ZipB (by kernel_rfl) (by kernel_rfl)) (by kernel_rfl) (by kernel_rfl) (by kernel_rfl)
      (by rw [MakeChecks.laidMetH_plain _ _ _ (by kernel_rfl)]; exact laidMet_laidAll _ (by kernel_rfl) (by kernel_rfl))) ?_
  intro W base args ds gs before hshape hval0 hW hcnd _ hL _
  have hval : ∀ (j : Nat) t v, Tryz.f3.params[j]? = some t → args[j]? = some v → Value.okWide Tryz.prog W .any base t v := hval0
  have hW' := hW
  obtain ⟨p, q, hA0, hV, rfl, hfz, hnd⟩ := hW
  have hA : DataW.TrodAll enc Tryz.prog W 0 (fun _ => true) true Tryz.f3.params.toList args.toList ds p := hA0
  rw [Tryz.params3] at hA hval
  obtain ⟨v0, vs0, d0, ds0, p0, q0, hargs, rfl, rfl, h0, r0⟩ := trodAll_cons hA
  obtain ⟨rfl, rfl, rfl⟩ := trodAll_nil r0
  obtain rfl : args = #[v0] := by cases args; simp_all
  obtain ⟨rfl, rfl⟩ := trodVars_none hV
  obtain ⟨a0, len0, cap0, rfl⟩ := okWide_slice Tryz.underlying22 (hval 0 22 v0 rfl rfl)
  have k0 := h0
  have lt0 : ∀ x ∈ p0, x.block < W.heap.size := by obtain ⟨m, hm⟩ := k0; exact DataW.trod_lt m _ _ _ hm
  obtain ⟨z0, w0⟩ : ∃ zs, IsRowK .u8 W a0 len0 cap0 zs := by
    obtain ⟨fuel, hf⟩ := h0
    rcases open_ints Tryz.underlying22 Tryz.underlying5 (by kernel_rfl) hf with ⟨hcs, _⟩ | ⟨x, l, c, zs, hcs, _, hl, hm, hz, _, hcell, hwz⟩
    · simp [Value.cells] at hcs
      obtain ⟨rfl, rfl, rfl⟩ := hcs
      exact ⟨[], .inl ⟨rfl, rfl, rfl, rfl⟩⟩
    · simp [Value.cells] at hcs
      obtain ⟨rfl, rfl, rfl⟩ := hcs
      exact ⟨zs, .inr ⟨_, rfl, hl, hm, by simpa using hz, hcell, hwz⟩⟩
  clear hA0 hval0
  refine (walk_FnSingleRank a0 len0 cap0 z0 W w0).mono fun e W' ⟨he, bel⟩ => ?_
  subst he
  exact ⟨_, rfl, _, _, _, [], _, [], hW', trodAll_mk1 (shut_bool Tryz.underlying4 _), (trodAll_cons_mk (Below.trod laidOut (by kernel_rfl) (of_decide_eq_true (by kernel_rfl)) k0 bel lt0) trodAll_mk0), rfl, bel.frame _, fun h => by cases h⟩

theorem closed : joinedFacts Tryz.checked.prog 3 Tryz.f3 Rows.fnSingleRankSpec Rows.fnSingleRankRow = true := by
  unfold joinedFacts
  simp only [Bool.and_eq_true]
  repeat' (refine And.intro ?_ ?_)
  all_goals first
    | with_reducible exact may_enter
    | (rw [lifts_final]; kernel_rfl)
    | (rw [make_is]; kernel_rfl)
    | kernel_rfl

theorem over : Rows.fnSingleRankRow.holds Tryz.pinned (OpenSpec.ofChange Rows.fnSingleRankSpec) :=
  OpenClaim.holds_of_wide 3 Tryz.f3 rfl rfl rfl rfl rfl rfl rfl ⟨rfl, rfl, rfl, rfl, rfl⟩ rfl rfl rfl rfl rfl (by kernel_rfl) Tryz.func3 closed
    (of_decide_eq_true (by kernel_rfl)) (by unfold Func.isWrapper; first | (rw [if_pos (by decide +kernel)]; kernel_rfl) | (rw [if_neg (by decide +kernel)]; exact ⟨rfl, rfl⟩))
    (fun os started H enc _ => lifted os started H enc)

set_option maxRecDepth 100000 in
theorem proved : Rows.FnSingleRankCardSaid :=
  Claim7.holds_tied_plain_at .later [] [.data, .pinned] true (true, "e4a2d1fa5a89375c3da9e737b078f92b4578a47e83521b6e907ed15469e88ec2") true over (fun _ h => by cases h) (by kernel_rfl) (fun _ h => by cases h) fnSingleRank_row_tie rfl ⟨rfl, rfl⟩ (by kernel_rfl) rfl
    (fun f fn hf hfn => by
      obtain rfl : f = 3 := Option.some.inj ((show Tryz.prog.funcNamed "loop.example/blockboxes/laws.FnSingleRank" = some 3 by kernel_rfl).symm.trans hf) |>.symm
      obtain rfl : fn = Tryz.f3 := (Option.some.inj (Tryz.func3.symm.trans hfn)).symm
      exact ⟨by kernel_rfl, fun j t ht => by
        rw [Tryz.params3] at ht
        have hm : t ∈ [22] := by simpa using Array.mem_of_getElem? ht
        have hall : ([22].all fun u => !Tryz.prog.wantsStandIn u) = true := by kernel_rfl
        exact (show Tryz.prog.wantsStandIn t = false by simpa using List.all_eq_true.1 hall t hm)⟩)
    (by kernel_rfl)
#print axioms proved
end Go.Proofs.YtlcmkocbpnekhaaGreatDoor.fnSingleRank
