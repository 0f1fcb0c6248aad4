/-
  For every input the law 'FnAddPath' returns true, and each of its arguments reads behind the call as it read before. Conditions: none beyond those of the row.
-/
import Derived.Test.YtoebgdcgcdigaabRows
import Derived.WalkKit
import Derived.ProofKit
import Derived.OpenShut
import Derived.ShutString
import Derived.ChangeOld
import Derived.Below
import Derived.Deep.Matrix
import Derived.Test.YtoebgdcgcdigaabIo
import Derived.Test.YtoebgdcgcdigaabDrawV
import Derived.Test.YtoebgdcgcdigaabSameP
import Derived.Test.YtoebgdcgcdigaabAddQ
import Derived.Test.YtoebgdcgcdigaabAddS
import Derived.Test.YtoebgdcgcdigaabAdd
import Derived.Test.YtoebgdcgcdigaabGap
import Derived.Test.YtoebgdcgcdigaabSort
import Derived.Lib.QuietBelow
import Derived.BigRegion
import Derived.BigQuiet
import Derived.Deep.RegionWith
namespace Go.Proofs.Ytoebgdcgcdigaab
open Go.RowKit

open Go.Sort

/-- What the law reads of paths behind which one was added. -/
theorem add_facts {n : Nat} {s : Int} {ps : List (List Int × List Int)} {rs : List Int} (h : addB (n : Int) ps s rs = true) :
    rs.length = n ∧ pathsB (n : Int) ps = true ∧ ps.length < 8 ∧ pathsB (n : Int) (addV (n : Int) ps s rs) = true ∧ (addV (n : Int) ps s rs).length = ps.length + 1 ∧
      (∀ k, k < n → 1 ≤ rs.getD k 0 ∧ rs.getD k 0 ≤ 100) ∧ (∀ i, i < ps.length → (addV (n : Int) ps s rs).getD i noPath = ps.getD i noPath) ∧
      (∀ k, (orderOf (addV (n : Int) ps s rs) k).filter (fun y => y != (ps.length : Int)) = orderOf ps k) ∧
      ∀ k, k < n → busyTo (addV (n : Int) ps s rs) k (addV (n : Int) ps s rs).length = busyTo ps k ps.length + rs.getD k 0 := by
  have hv := addV_yes h
  unfold addB at h
  rw [Bool.and_eq_true] at h
  obtain ⟨hf, h8⟩ := h
  have h8 := of_decide_eq_true h8
  obtain ⟨h1, h2, h3⟩ := fitB_is hf
  have hp := (hasB_is (freeB_is (h3 0 (by omega))).1).1
  rw [hv]
  refine ⟨by omega, hp, h8, by rw [add_paths hf]; exact decide_eq_true h8, by simp, fun k hk => (freeB_is (h3 k (by omega))).2.1, fun i hi => add_getD _ _ hi, fun k => add_order _ _ _, fun k hk => ?_⟩
  rw [add_busy, (fitPath_get (show k < rs.length by omega)).1, (fitPath_get (show k < rs.length by omega)).2, fitTo_next]
  omega
theorem paths_take {w : World} {a : Option Addr} {m c : Nat} {ps qs : List (List Int × List Int)} (h : Paths w (.slice a m c) qs) (hl : ps.length ≤ qs.length) (hg : ∀ i, i < ps.length → qs.getD i noPath = ps.getD i noPath) : Paths w (.slice a ps.length c) ps := by
  obtain ⟨a', c', e, ⟨h1, h2⟩, hc⟩ := h
  simp only [Value.slice.injEq] at e
  obtain ⟨rfl, rfl, rfl⟩ := e
  refine ⟨a, c, rfl, ⟨by omega, by omega⟩, ?_⟩
  rcases hc with rfl | ⟨b, o, rfl, hb, hi⟩
  · left
    exact List.eq_nil_of_length_eq_zero (by simpa using hl)
  · right
    exact ⟨b, o, rfl, hb, fun i h => by rw [← hg i h]; exact hi i (by omega)⟩
theorem app_small {m i l c : Nat} (h : m ≤ i) (h' : i ≤ l) (hl : l = c + 1) (h8 : c < 8) : m + 1 ≤ 10 := by omega
theorem yr_wraps {Y r : Int} {l : Nat} (hy : 0 ≤ Y ∧ Y ≤ 2000 * l) (hr : 1 ≤ r ∧ r ≤ 100) (hl : l ≤ 9) : IntKind.i64.wrap (Y + r) = Y + r := IntWalk.i64_in _ (by omega)
theorem filter_next (L : List Int) (x : Int) {i : Nat} (h : i < L.length) : (L.take (i + 1)).filter (fun y => y != x) = (L.take i).filter (fun y => y != x) ++ (if L.getD i 0 = x then [] else [L.getD i 0]) := by
  rw [List.take_add_one, List.getElem?_eq_getElem h, List.filter_append, List.getD_eq_getElem?_getD, List.getElem?_eq_getElem h]
  simp only [Option.toList, Option.getD_some]
  by_cases e : L[i] = x
  · rw [if_pos e, e]; simp
  · rw [if_neg e]; simp [e]
theorem filter_le (L : List Int) (x : Int) (i : Nat) : ((L.take i).filter (fun y => y != x)).length ≤ i := Nat.le_trans (List.length_filter_le _ _) (by rw [List.length_take]; omega)
theorem five_len {n : Int} {ps : List (List Int × List Int)} (h : pathsB n ps = true) : ∀ i, i < ps.length → (ps.getD i noPath).1.length ≤ 1048576 ∧ (ps.getD i noPath).2.length ≤ 1048576 := fun i hi => by
  have q := pathB_is (pathsB_at h hi)
  have := q.1; have := q.2.1; have := q.2.2.1
  omega

set_option maxRecDepth 100000 in
set_option maxHeartbeats 8000000 in
theorem walk_FnAddPath (a0 : Option Addr) (len0 cap0 : Nat) (z0 : List Int) (w : World) (w0 : IsRowK .u8 w a0 len0 cap0 z0) :
    Calls Try.prog 7 #[.slice a0 len0 cap0] w fun e w' => e = .returned (.bool true) ∧ Below w.heap.size w w' := by
  rcases Nat.lt_or_ge 1048576 len0 with hbig | hsm
  · have hb : (1048576 : Int) < (len0 : Int) := by omega
    go_enter Try.func7, Try.ntmps7
    go_wp2_with fail
    go_ret
    exact ⟨rfl, Below.refl _ _⟩
  have hb : (len0 : Int) ≤ 1048576 := by omega
  have DS := Lib.hid (drawAdd w0 hsm)
  clear w0
  go_enter Try.func7, Try.ntmps7
  go_wp2_with (go_at_call 23; refine DS.out.mono ?_)
  rintro e w1 ⟨n, b, c, vs, ps, s, v, rs, rfl, hn1, hn4, hpl, hs, hv, lq, b1⟩
  have hpp := lq.paths (by omega)
  have GI := Lib.hid (implAdd (n := (n : Int)) (s := s) hpp hv)
  have GS := Lib.hid (fun (X : World) (hX : Below w1.heap.size w1 X) => specAdd (n := (n : Int)) (s := s) (hpp.below hX) (hv.below hX))
  have GO := Lib.hid (fun (X : World) (hX : Below w1.heap.size w1 X) (k : Int) => implOrder (n := (n : Int)) (k := k) (hpp.below hX))
  have GB := Lib.hid (fun (X : World) (hX : Below w1.heap.size w1 X) (k : Int) => implBusy (n := (n : Int)) (k := k) (hpp.below hX))
  have HP := Lib.hid hpp
  have B1 := Lib.hid b1
  have HVV := Lib.hid hv
  obtain ⟨av, cv, rfl, ⟨hrl1, hrl2⟩, hrc⟩ := hv
  clear hpp lq DS b1 hrc
  have hlen : ∀ i, i < (addV (n : Int) ps s rs).length → ((addV (n : Int) ps s rs).getD i noPath).1.length ≤ 1048576 ∧ ((addV (n : Int) ps s rs).getD i noPath).2.length ≤ 1048576 := by
    cases e : addB (n : Int) ps s rs
    · rw [addV_no e]; intro i hi; simp at hi
    · exact five_len (add_facts e).2.2.2.1
  have hlq : (addV (n : Int) ps s rs).length ≤ 1048576 := by
    cases e : addB (n : Int) ps s rs
    · rw [addV_no e]; simp
    · have := add_facts e; omega
  obtain ⟨t, ht⟩ : ∃ t, t = addB (n : Int) ps s rs := ⟨_, rfl⟩
  obtain ⟨qs, hqs⟩ : ∃ qs, qs = addV (n : Int) ps s rs := ⟨_, rfl⟩
  rw [← ht, ← hqs] at GI GS
  rw [← hqs] at hlen hlq
  have AF := Lib.hid (fun (h : t = true) => hqs ▸ add_facts (ht ▸ h))
  have HLN := Lib.hid hlen
  clear ht hqs hlen
  go_wp2_with (go_at_call 22; refine GI.out.mono ?_)
  rintro e w2 ⟨v2, rfl, o2, b2⟩
  obtain ⟨a2, c2, rfl⟩ := o2.shape
  have P2 := Lib.hid (o2.paths hlq HLN.out)
  have B2 := Lib.hid b2
  clear o2 b2 GI
  go_wp2_with (go_at_call 24; refine (GS.out _ B2.out).mono ?_)
  rintro e w3 ⟨v3, rfl, o3, b3⟩
  obtain ⟨a3, c3, rfl⟩ := o3.shape
  have P3 := o3.paths hlq HLN.out
  have P2 := Lib.hid (P2.out.below b3)
  have C3 := Lib.hid (B2.out.trans (b3.mono B2.out.size))
  have SP := Lib.hid (fun (X : World) (hX : Below w3.heap.size w3 X) => samePathsE (P2.out.below hX) (P3.below hX))
  clear o3 b3 GS P3
  go_wp2_with (go_at_call 25; refine (SP.out _ (Below.refl _ _)).mono ?_)
  rintro e w4 ⟨rfl, b4⟩
  have B4 := Lib.hid b4
  have C4 := Lib.hid (C3.out.trans (b4.mono C3.out.size))
  clear b4
  cases t
  · go_wp2_with (go_at_call 25; refine (SP.out _ B4.out).mono ?_)
    rintro e w5 ⟨rfl, b5⟩
    have CE := Lib.hid (B1.out.trans ((C4.out.trans (b5.mono C4.out.size)).mono B1.out.size))
    clear b5
    go_wp2_with fail
    go_ret
    exact ⟨rfl, CE.out⟩
  obtain ⟨hrs, hpb, h8, hqb, hql, hrb, hqp, hqo, hqy⟩ := AF.out rfl
  have P4 := P2.out.below B4.out
  rw [hql] at P4
  have P4 := Lib.hid P4
  have QO := Lib.hid (fun (X : World) (hX : Below w4.heap.size w4 X) (k : Int) => implOrder (n := (n : Int)) (k := k) (P4.out.below hX))
  have QB := Lib.hid (fun (X : World) (hX : Below w4.heap.size w4 X) (k : Int) => implBusy (n := (n : Int)) (k := k) (P4.out.below hX))
  have QV := Lib.hid (fun (X : World) (hX : Below w4.heap.size w4 X) => implPaths (n := (n : Int)) (P4.out.below hX))
  have QT := Lib.hid (fun (X : World) (hX : Below w4.heap.size w4 X) => samePathsE (paths_take (ps := ps) (P4.out.below hX) (by omega) hqp) ((HP.out.below C4.out).below hX))
  have hcap : ps.length ≤ c2 := by
    obtain ⟨a', c', e, ⟨_, hcc⟩, _⟩ := P4.out
    simp only [Value.slice.injEq] at e
    omega
  have PB := Lib.hid hpb
  have QPB := Lib.hid hqb
  have HRS := Lib.hid hrs
  have RB := Lib.hid hrb
  have HQO := Lib.hid hqo
  have HQY := Lib.hid hqy
  have hr0 : rs ≠ [] := fun e => by rw [e] at hrs; simp only [List.length_nil] at hrs; omega
  obtain ⟨av', cv', ev, _, hrc⟩ := HVV.out
  simp only [Value.slice.injEq, true_and] at ev
  obtain ⟨rfl, rfl⟩ := ev
  obtain ⟨rb, ro, rfl, hrbk, hrcell⟩ := hrc.resolve_left hr0
  rw [hrs] at hrcell
  have RC := Lib.hid hrcell
  have hcapI : (ps.length : Int) ≤ (c2 : Int) := by omega
  have CE := Lib.hid (B1.out.trans (C4.out.mono B1.out.size))
  obtain ⟨i0, hi, hz0, hz1, hz2⟩ := info_parts info_int
  rw [hql]
  rw [hrs]
  clear hpb hqb hrs hrb hqp hqo hqy hrcell hrc P2 SP AF
  go_wp2_with fail
  go_loopw [12] (fun kv wr => ∃ k : Nat, k ≤ n ∧ kv = .int .i64 k ∧ Below w4.heap.size w4 wr) (fun kv _ => n - (intOf kv).toNat)
  case atStart => exact ⟨0, by omega, rfl, Below.refl _ _⟩
  case round =>
    obtain ⟨k, hk, rfl, hbel⟩ := hrel
    have CK := Lib.hid (C4.out.trans (hbel.mono C4.out.size))
    have BK := Lib.hid hbel
    clear hbel
    by_cases hkn : k < n
    · have hki : (k : Int) < (n : Int) := by omega
      have hh1 := hasB_yes PB.out (k := (k : Int)) ⟨by omega, hki⟩
      have hh2 := hasB_yes QPB.out (k := (k : Int)) ⟨by omega, hki⟩
      have GO1 := GO.out _ CK.out k
      have e1 : ordV (n : Int) ps (k : Int) = orderOf ps k := by unfold ordV; rw [hh1, if_pos rfl, Int.toNat_natCast]
      have e2 : ordV (n : Int) qs (k : Int) = orderOf qs k := by unfold ordV; rw [hh2, if_pos rfl, Int.toNat_natCast]
      rw [e1, hh1] at GO1
      have QO1 := fun (X : World) (hX : Below wr.heap.size wr X) => QO.out X (BK.out.trans (hX.mono BK.out.size)) k
      rw [e2, hh2] at QO1
      have BY := HQY.out k hkn
      have y1 : busyOf (n : Int) ps (k : Int) = busyTo ps k ps.length := by rw [busyOf_yes hh1, Int.toNat_natCast]
      have y2 : busyOf (n : Int) qs (k : Int) = busyTo qs k qs.length := by rw [busyOf_yes hh2, Int.toNat_natCast]
      have bd := busyTo_bounds PB.out hki ps.length (Nat.le_refl _)
      have hrk := RB.out k hkn
      have hl1 := order_len ps k
      have hl2 := order_len qs k
      have FO := HQO.out k
      rw [hql] at hl2
      obtain ⟨L0, hL0⟩ : ∃ L, L = orderOf ps k := ⟨_, rfl⟩
      obtain ⟨L1, hL1⟩ : ∃ L, L = orderOf qs k := ⟨_, rfl⟩
      rw [← hL0] at GO1 hl1 FO
      rw [← hL1] at QO1 hl2 FO
      obtain ⟨Y, hY⟩ : ∃ Y, Y = busyTo ps k ps.length := ⟨_, rfl⟩
      rw [← hY] at y1 bd BY
      rw [BY] at y2
      have GO1 := Lib.hid GO1
      have QO1 := Lib.hid QO1
      have FO := Lib.hid FO
      have Y1 := Lib.hid y1
      have Y2 := Lib.hid y2
      have HL1 := Lib.hid hl1
      have HL2 := Lib.hid hl2
      clear e1 e2 hh1 hh2 hL0 hL1 hY y1 y2 BY hl1
      go_wp2_with (go_at_call 11; refine GO1.out.mono ?_)
      rintro e w5 ⟨v5, rfl, o5, b5⟩
      obtain ⟨a5, d5, rfl⟩ := own_slice2 o5
      have I5 := Lib.hid (o5.ints (by have := HL1.out; omega))
      have B5 := Lib.hid b5
      clear o5 b5
      go_wp2_with (go_at_call 11; refine (QO1.out _ B5.out).mono ?_)
      rintro e w6 ⟨v6, rfl, o6, b6⟩
      obtain ⟨a6, d6, rfl⟩ := own_slice2 o6
      have I5 := Lib.hid (I5.out.below b6)
      have O6 := Lib.hid o6
      have C6 := Lib.hid (BK.out.trans ((B5.out.trans (b6.mono B5.out.size)).mono BK.out.size))
      have ho := own_empty w6
      have hal := below_alloc w6 (.cells #[] 3)
      rcases O6.out.shape with ⟨_, e⟩ | ⟨g6, cg6, e, -, hg6⟩
      · exfalso
        rw [e] at hl2
        simp only [List.length_nil] at hl2
        omega
      simp only [Value.slice.injEq, true_and] at e
      obtain ⟨rfl, rfl⟩ := e
      clear o6 b6
      go_wp2_with fail
      go_loopw [17, 18] (fun rv iv ws => ∃ i : Nat, i ≤ L1.length ∧ iv = .int .i64 i ∧ OwnI ws w6.heap.size rv ((L1.take i).filter (fun y => y != (ps.length : Int))) ∧ Below w6.heap.size w6 ws) (fun _ iv _ => L1.length - (intOf iv).toNat)
      case atStart => exact ⟨0, by omega, rfl, ho, hal⟩
      case round =>
        obtain ⟨i, hi', rfl, hown, hbi⟩ := hrel
        have hfl := filter_le L1 (ps.length : Int) i
        by_cases hil : i < L1.length
        · have hili : (i : Int) < (L1.length : Int) := by omega
          have cx := (hbi.cell (p := ⟨g6, i, none⟩) hg6).trans (OwnI.readAt O6.out i hil)
          have FN := filter_next L1 (ps.length : Int) hil
          obtain ⟨x, hx⟩ : ∃ x, x = L1.getD i 0 := ⟨_, rfl⟩
          rw [← hx] at cx FN
          have cx' : wr.cell? ⟨g6, 0 + i, none⟩ = some (.int .i64 x) := by rw [Nat.zero_add]; exact cx
          clear hx
          by_cases hxe : x = (ps.length : Int)
          · have hne : (x != (ps.length : Int)) = false := by simp [hxe]
            have HO := Lib.hid (show OwnI wr w6.heap.size _ ((L1.take (i + 1)).filter (fun y => y != (ps.length : Int))) by rw [FN, if_pos hxe, List.append_nil]; exact hown)
            clear hown hxe FN
            go_wp2_with fail
            go_roundw
            case rel => exact ⟨i + 1, by omega, by go_num, HO.out, hbi⟩
            case measure => simp [intOf]; omega
          · have hne : (x != (ps.length : Int)) = true := by simp [hxe]
            have HC := Lib.hid (show (L1.take (i + 1)).filter (fun y => y != (ps.length : Int)) = (L1.take i).filter (fun y => y != (ps.length : Int)) ++ [x] by rw [FN, if_neg hxe])
            obtain ⟨R, hR⟩ : ∃ R, R = (L1.take i).filter (fun y => y != (ps.length : Int)) := ⟨_, rfl⟩
            rw [← hR] at hown HC hfl
            unfold OwnI at hown
            obtain ⟨m, hm⟩ : ∃ m, m = R.length := ⟨_, rfl⟩
            rw [← hm] at hown hfl
            obtain ⟨ar, cr, rfl⟩ := own_slice2 hown
            have HM := Lib.hid hm
            have HR := Lib.hid hR
            have hsz := hbi.size
            have hsmall := app_small hfl hi' hl2 h8
            clear hm hR FN hxe hfl
            go_wp2_with (at_builtin; refine wpList_append_own _ rfl _ _ 27 rfl w6.heap.size 3 i0 (.int .i64 0) 1 8 Try.underlying27 hi hz0 hz1 hz2 rfl (by decide) _ _ _ rfl (hown.alloc _) ⟨wr.heap.size, 0, none⟩ 1 1 [.int .i64 x] rfl rfl ?c1 ?c2 ?c3 ?c4 ?c5 ?_)
            case c1 => exact cell_one_new _ _ _
            case c2 => intro u hu; simp at hu; subst hu; rfl
            case c3 => simp only [maxLen]; omega
            case c4 => omega
            case c5 => simp; exact Nat.le_succ_of_le hsz
            intro v' w7 hown' hgrow _
            have HB := Lib.hid ((hbi.alloc hsz _).grown hgrow (by simp; exact Nat.le_succ_of_le hsz) (fun g hg => (hown.lt g hg).1))
            have HO := Lib.hid (show OwnI w7 w6.heap.size v' ((L1.take (i + 1)).filter (fun y => y != (ps.length : Int))) by
              unfold OwnI
              rw [HC.out, List.length_append, List.map_append, ← HM.out]
              exact hown')
            obtain ⟨av', cv', rfl⟩ := own_slice2 hown'
            clear hown' hgrow hown hbi
            go_wp2_with fail
            go_roundw
            case rel => exact ⟨i + 1, by omega, by go_num, HO.out, HB.out⟩
            case measure => simp [intOf]; omega
        · obtain rfl : i = L1.length := by omega
          rw [List.take_length, FO.out] at hown
          obtain ⟨ar, cr, rfl⟩ := own_slice2 hown
          have BI := Lib.hid hbi
          have IR := Lib.hid (hown.ints (by have := HL1.out; omega))
          have I5' := Lib.hid (I5.out.below hbi)
          have CI := Lib.hid (C6.out.trans (hbi.mono C6.out.size))
          have k5 := ((C4.out.trans (CI.out.mono C4.out.size)).cell (p := ⟨rb, ro + k, none⟩) hrbk).trans (RC.out k hkn)
          generalize hrr : rs.getD k 0 = r at k5 hrk Y2
          have S1 := fun (d : Nat) (os : Array Obj) => Calls.regrown_of (sameInts (IR.out.below (below_regrown wr d os)) (I5'.out.below (below_regrown wr d os)))
          rw [decide_eq_true rfl] at S1
          have S1 := Lib.hid S1
          have Q1 := fun (d : Nat) (os : Array Obj) => Calls.regrown_of (QB.out (grow (redrawn wr d) os) (CI.out.trans ((below_regrown wr d os).mono CI.out.size)) k)
          rw [Y2.out] at Q1
          have Q1 := Lib.hid Q1
          have G1 := fun (d : Nat) (os : Array Obj) => Calls.regrown_of (GB.out (grow (redrawn wr d) os) ((C4.out.trans (CI.out.mono C4.out.size)).trans ((below_regrown wr d os).mono (C4.out.trans (CI.out.mono C4.out.size)).size)) k)
          rw [Y1.out] at G1
          have G1 := Lib.hid G1
          have z5 := fun d os => cell_regrown k5 d os
          have hw1 := yr_wraps bd hrk hpl
          have hyy : (Y + r != Y + r) = false := by simp
          have hKi : (k : Int) < (n : Int) := hki
          clear k5 hrr hown hbi
          go_wp2_with fail
          refine wp_region_quiet_below (by kernel_rfl) (by kernel_rfl) ?_
          repeat (go_big_quiet_step (first | (with_reducible exact S1.out _ _) | (with_reducible exact Q1.out _ _) | (with_reducible exact G1.out _ _)))
          refine wpQuiet_nil ?_
          intro _ hw'
          obtain ⟨⟨dq, osq⟩, hw''⟩ := hw'
          subst hw''
          have BF := Lib.hid (CI.out.trans ((below_regrown wr dq osq).mono CI.out.size))
          clear z5
          go_wp2_with fail
          go_roundw
          case rel => exact ⟨k + 1, by omega, by go_num, BF.out⟩
          case measure => simp [intOf]; omega
    · obtain rfl : k = n := by omega
      have QV1 := fun (X : World) (hX : Below wr.heap.size wr X) => QV.out X (BK.out.trans (hX.mono BK.out.size))
      rw [QPB.out] at QV1
      have QV1 := Lib.hid QV1
      have QT1 := Lib.hid (QT.out _ BK.out)
      have CF := Lib.hid (CE.out.trans (BK.out.mono CE.out.size))
      have heq : ((ps.length : Int) + 1 == (ps.length : Int) + 1) = true := by simp
      go_wp2_with (first | (go_at_call 25; refine QT1.out.mono ?_; rintro e w5 ⟨rfl, b5⟩) | (go_at_call 27; refine (QV1.out _ b5).mono ?_; rintro e w6 ⟨rfl, b6⟩))
      go_ret
      exact ⟨rfl, CF.out.trans ((b5.trans (b6.mono b5.size)).mono CF.out.size)⟩

end Go.Proofs.Ytoebgdcgcdigaab

namespace Go.Proofs.Ytoebgdcgcdigaab.fnAddPath
open Go.ChangeShapes Go.WideShapes Go.ChangeAt Go.RowKit
open Go.ChangeMaps (open_string shut_string)
set_option linter.unusedVariables false

theorem own : ownKnob Try.prog.godebug = none := by kernel_rfl
theorem laidOut : laidOutB Try.prog = true := by kernel_rfl

set_option maxRecDepth 100000 in
theorem lifted (os : Os) (started : os.Started) (H : Type) (enc : TypeId × Value → H) :
    ReturnsInHanded {} Try.checked os 7 .any (Rows.fnAddPathSpec.pre6 enc Try.prog Try.f7 Rows.fnAddPathRow.domain false) (Rows.fnAddPathSpec.post enc Try.prog Try.f7 false true false false) := by
  refine returnsInHanded_of_change (C := Try.checked) own started (by kernel_rfl) Try.func7
    (ChangeSpec.witness6 (enc := enc) (C := Try.checked) false ⟨#[], #[.slice none 0 0], []⟩ 8 (by kernel_rfl) (by kernel_rfl) (by kernel_rfl) (by kernel_rfl)) ?_
  intro W base args ds gs before hval0 hW hcnd _
  have hval : ∀ (j : Nat) t v, Try.f7.params[j]? = some t → args[j]? = some v → Value.okWide Try.prog W .any base t v := hval0
  have hW' := hW
  obtain ⟨p, q, hA0, hV, rfl, hfz, hnd⟩ := hW
  have hA : DataW.TrodAll enc Try.prog W 0 (fun _ => true) true Try.f7.params.toList args.toList ds p := hA0
  rw [Try.params7] at hA hval
  obtain ⟨v0, vs0, d0, ds0, p0, q0, hargs, rfl, rfl, h0, r0⟩ := trodAll_cons hA
  obtain ⟨rfl, rfl, rfl⟩ := trodAll_nil r0
  obtain rfl : args = #[v0] := by cases args; simp_all
  obtain ⟨rfl, rfl⟩ := trodVars_none hV
  obtain ⟨a0, len0, cap0, rfl⟩ := okWide_slice Try.underlying22 (hval 0 22 v0 rfl rfl)
  have k0 := h0
  have lt0 : ∀ x ∈ p0, x.block < W.heap.size := by obtain ⟨m, hm⟩ := k0; exact DataW.trod_lt m _ _ _ hm
  obtain ⟨z0, w0⟩ : ∃ zs, IsRowK .u8 W a0 len0 cap0 zs := by
    obtain ⟨fuel, hf⟩ := h0
    rcases open_ints Try.underlying22 Try.underlying5 (by kernel_rfl) hf with ⟨hcs, _⟩ | ⟨x, l, c, zs, hcs, _, hl, hm, hz, _, hcell, hwz⟩
    · simp [Value.cells] at hcs
      obtain ⟨rfl, rfl, rfl⟩ := hcs
      exact ⟨[], .inl ⟨rfl, rfl, rfl, rfl⟩⟩
    · simp [Value.cells] at hcs
      obtain ⟨rfl, rfl, rfl⟩ := hcs
      exact ⟨zs, .inr ⟨_, rfl, hl, hm, by simpa using hz, hcell, hwz⟩⟩
  clear hA0 hval0
  refine (walk_FnAddPath a0 len0 cap0 z0 W w0).mono fun e W' ⟨he, bel⟩ => ?_
  subst he
  exact ⟨_, rfl, _, _, _, [], _, [], hW', trodAll_mk1 (shut_bool Try.underlying4 _), (trodAll_cons_mk (Below.trod laidOut (by kernel_rfl) (of_decide_eq_true (by kernel_rfl)) k0 bel lt0) trodAll_mk0), rfl, bel.frame _, fun h => by cases h⟩

theorem closed : joinedFacts Try.checked.prog 7 Try.f7 Rows.fnAddPathSpec Rows.fnAddPathRow = true := by
  unfold joinedFacts
  simp only [Bool.and_eq_true]
  repeat' (refine And.intro ?_ ?_)
  all_goals first
    | with_reducible exact may_enter
    | (rw [lifts_final]; kernel_rfl)
    | (rw [make_is]; kernel_rfl)
    | kernel_rfl

theorem over : Rows.fnAddPathRow.holds Try.pinned (OpenSpec.ofChange Rows.fnAddPathSpec) :=
  OpenClaim.holds_of_wide 7 Try.f7 rfl rfl rfl rfl rfl rfl rfl ⟨rfl, rfl, rfl, rfl, rfl⟩ rfl rfl rfl rfl rfl (by kernel_rfl) Try.func7 closed
    (of_decide_eq_true (by kernel_rfl)) (by unfold Func.isWrapper; first | (rw [if_pos (by decide +kernel)]; kernel_rfl) | (rw [if_neg (by decide +kernel)]; exact ⟨rfl, rfl⟩))
    (fun os started H enc _ => lifted os started H enc)

theorem proved : Rows.FnAddPathSaid := over
#print axioms proved
end Go.Proofs.Ytoebgdcgcdigaab.fnAddPath
