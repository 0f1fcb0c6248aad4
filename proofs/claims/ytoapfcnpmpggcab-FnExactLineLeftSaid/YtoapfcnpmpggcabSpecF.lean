/-
  How many moves are left, by the model. For valid lines.
-/
import Derived.Test.YtoapfcnpmpggcabSpecL
namespace Go.Proofs.Ytoapfcnpmpggcab
open Go.RowKit Go.Sort

set_option maxHeartbeats 2000000 in
theorem l4Left {w : World} {v : Value} {l : Ln} {k : Nat} {r : Int} (h : LineV w v l) (hk : k < l.1.length) (hp : bkPos (l.1.getD k nb) = true) (hrr : r = evLeft (l.1.getD k nb) (comTo l.2 (2 * (k : Int)))) : Calls Try.prog 73 #[v, .int .i64 (k : Int)] w fun e w' => e = .returned (.int .i64 r) ∧ Below w.heap.size w w' := by
  obtain ⟨u1, u2, rfl, h1, h2⟩ := h
  have k1 : (l.1.length : Int) ≤ 1048576 := by have := Rd.len h1; omega
  have k2 : (l.2.length : Int) ≤ 1048576 := by have := h2.len; omega
  obtain ⟨a1, c1, rfl⟩ := Rd.slice h1
  have hh2 := h2
  obtain ⟨a2, c2, rfl, -, -⟩ := h2
  have q0 := below_alloc w (.cells #[.slice a1 l.1.length c1, .slice a2 l.2.length c2] 30)
  have p0 := Pair.new w (.slice a1 l.1.length c1) (.slice a2 l.2.length c2) 30
  obtain ⟨W, hW⟩ : ∃ X, X = w.alloc (.cells #[.slice a1 l.1.length c1, .slice a2 l.2.length c2] 30) := ⟨_, rfl⟩
  rw [← hW] at q0 p0
  have HW := Lib.hid hW.symm
  have Q0 := Lib.hid q0
  have P0 := Lib.hid p0
  have e0 := p0.cell0
  have e1 := p0.cell1
  have TR := Lib.hid (fun (i : Nat) (hi : i < l.2.length) => tr_at hh2 hi)
  have AT := Lib.hid (fun (i : Nat) (hi : i < l.1.length) => Blks.at h1 hi)
  have LV := Lib.hid (show LineV W (.agg #[.slice a1 l.1.length c1, .slice a2 l.2.length c2]) l from ⟨_, _, rfl, Rd.below h1 q0, hh2.below q0⟩)
  clear hW p0 q0 h1 hh2
  have RR := Lib.hid hrr
  clear hrr
  go_enter Try.func73, Try.ntmps73
  go_upto_region 1 with fail
  rw [HW.out]
  have hkl : (k : Int) < (l.1.length : Int) := by omega
  go_wp2_with fail
  go_loop [5, 6] (fun m i => ∃ j : Nat, j ≤ l.2.length ∧ i = .int .i64 j ∧ m = .int .i64 (comP l.2 (2 * (k : Int)) j)) (fun _ i => l.2.length - (intOf i).toNat)
  case atStart => exact ⟨0, by omega, rfl, rfl⟩
  case round =>
    obtain ⟨j, hj, rfl, rfl⟩ := hrel
    have hr := comP_range l.2 (2 * (k : Int)) j
    obtain ⟨m, hm⟩ : ∃ m, m = comP l.2 (2 * (k : Int)) j := ⟨_, rfl⟩
    rw [← hm] at hr ⊢
    have M := Lib.hid hm
    by_cases hjl : j < l.2.length
    · obtain ⟨b, o, rfl, hb, hcell⟩ := TR.out j hjl
      have d0 := (Q0.out.cell (p := ⟨b, o + j, none⟩) hb).trans (hcell j hjl)
      have hji : (j : Int) < (l.2.length : Int) := by omega
      obtain ⟨x, hx⟩ : ∃ x, x = l.2.getD j 0 := ⟨_, rfl⟩
      rw [← hx] at d0
      have X := Lib.hid hx
      clear hx hcell hm
      by_cases e : x ≤ 2 * (k : Int)
      · have E := Lib.hid ((comP_yes (show l.2.getD j 0 ≤ 2 * (k : Int) by rw [← X.out]; exact e)).trans (by rw [← M.out]))
        go_wp2_with fail
        go_round
        case rel => exact ⟨j + 1, by omega, by go_num, by rw [E.out]; try go_num⟩
        case measure => simp [intOf]; omega
      · have E := Lib.hid ((comP_no (show ¬ l.2.getD j 0 ≤ 2 * (k : Int) by rw [← X.out]; exact e)).trans M.out.symm)
        go_wp2_with fail
        go_round
        case rel => exact ⟨j + 1, by omega, by go_num, by rw [E.out]; try go_num⟩
        case measure => simp [intOf]; omega
    · obtain rfl : j = l.2.length := by omega
      obtain ⟨b, o, rfl, hb, hcell⟩ := AT.out k hk
      obtain ⟨g0, g1, g2⟩ := hcell k hk
      have d0 := (Q0.out.cell (p := ⟨b, o + k * 3, none⟩) hb).trans g0
      have d1 : W.cell? ⟨b, o + k * 3 + 1, none⟩ = _ := (Q0.out.cell (p := ⟨b, o + k * 3 + 1, none⟩) hb).trans g1
      have d2 : W.cell? ⟨b, o + k * 3 + 2, none⟩ = _ := (Q0.out.cell (p := ⟨b, o + k * 3 + 2, none⟩) hb).trans g2
      obtain ⟨x, hx⟩ : ∃ x, x = l.1.getD k nb := ⟨_, rfl⟩
      rw [← hx] at d0 d1 d2 hp
      have EE := Lib.hid (show ∀ n, n = evLeft x m → Ending.returned (.int .i64 n) = .returned (.int .i64 r) from fun n e => by rw [e, RR.out, hm, hx]; rfl)
      have t2 := Tri3.new W (.int .i64 x.1) (.bool x.2.1) (.bool x.2.2) 69
      have b2 := below_alloc W (.cells #[.int .i64 x.1, .bool x.2.1, .bool x.2.2] 69)
      obtain ⟨V, hV⟩ : ∃ V, V = W.alloc (.cells #[.int .i64 x.1, .bool x.2.1, .bool x.2.2] 69) := ⟨_, rfl⟩
      rw [← hV] at t2 b2
      have HV := Lib.hid hV.symm
      have V0 := t2.cell0
      have V1 := t2.cell1
      have V2 := t2.cell2
      have B2 := Lib.hid (Q0.out.trans (b2.mono Q0.out.size))
      clear hx hV g0 g1 g2 hcell t2 b2 hjl hj hm M
      by_cases z : 0 < m
      · rcases bkPos_five hp with rfl | rfl | rfl | rfl | rfl
        all_goals
          clear hp
          simp only at d0 d1 d2 HV V0 V1 V2
          go_upto_region 8 with fail
          rw [HV.out]
          go_wp2_with fail
          go_ret
          exact ⟨EE.out _ (by simp [evLeft, nb]; try omega), B2.out⟩
      · have z0 : m = 0 := by omega
        have z' : decide (0 < m) = false := decide_eq_false z
        clear z
        rcases bkPos_five hp with rfl | rfl | rfl | rfl | rfl
        all_goals
          clear hp
          simp only at d0 d1 d2 HV V0 V1 V2
          go_upto_region 8 with fail
          rw [HV.out]
          go_wp2_with fail
          go_ret
          exact ⟨EE.out _ (by simp [evLeft, nb]; try omega), B2.out⟩

set_option maxHeartbeats 2000000 in
theorem specLineLeft {w : World} {v : Value} {l : Ln} (h : LineV w v l) : Calls Try.prog 39 #[v] w fun e w' => e = .returned (.int .i64 (leftV l)) ∧ Below w.heap.size w w' := by
  obtain ⟨u1, u2, rfl, h1, h2⟩ := h
  have k1 : (l.1.length : Int) ≤ 1048576 := by have := Rd.len h1; omega
  have k2 : (l.2.length : Int) ≤ 1048576 := by have := h2.len; omega
  obtain ⟨a1, c1, rfl⟩ := Rd.slice h1
  have hh2 := h2
  obtain ⟨a2, c2, rfl, -, -⟩ := h2
  have q0 := below_alloc w (.cells #[.slice a1 l.1.length c1, .slice a2 l.2.length c2] 30)
  have p0 := Pair.new w (.slice a1 l.1.length c1) (.slice a2 l.2.length c2) 30
  obtain ⟨W, hW⟩ : ∃ X, X = w.alloc (.cells #[.slice a1 l.1.length c1, .slice a2 l.2.length c2] 30) := ⟨_, rfl⟩
  rw [← hW] at q0 p0
  have HW := Lib.hid hW.symm
  have Q0 := Lib.hid q0
  have P0 := Lib.hid p0
  have e0 := p0.cell0
  have e1 := p0.cell1
  have TR := Lib.hid (fun (i : Nat) (hi : i < l.2.length) => tr_at hh2 hi)
  have AT := Lib.hid (fun (i : Nat) (hi : i < l.1.length) => Blks.at h1 hi)
  have LV := Lib.hid (show LineV W (.agg #[.slice a1 l.1.length c1, .slice a2 l.2.length c2]) l from ⟨_, _, rfl, Rd.below h1 q0, hh2.below q0⟩)
  clear hW p0 q0 h1 hh2
  go_enter Try.func39, Try.ntmps39
  go_upto_region 1 with fail
  rw [HW.out]
  have SV := Lib.hid (specLineValid LV.out)
  cases hb : lnB l
  · have EV := Lib.hid (show leftV l = -1 by unfold leftV; rw [if_neg (by rw [hb]; decide)])
    rw [hb] at SV
    clear hb
    go_wp2_with (go_at_call 16; refine SV.out.mono ?_; rintro e w1 ⟨rfl, b1⟩)
    go_ret
    exact ⟨ret_int EV.out.symm, Q0.out.trans (b1.mono Q0.out.size)⟩
  · have k5 := ln_small hb
    have OK := Lib.hid (lnB_is hb)
    have EV := Lib.hid (show leftV l = leftP l l.1.length by unfold leftV; rw [if_pos hb]; rfl)
    have L4 := Lib.hid (fun (X : World) (c : Below W.heap.size W X) (k : Nat) (hk : k < l.1.length) => l4Left (LV.out.below c) hk ((OK.out.2.2.2 k hk).1) rfl)
    have LS := Lib.hid (leftP_small (l := l) k5.2)
    have LE := Lib.hid (leftP_succ l)
    rw [hb] at SV
    clear hb
    go_wp2_with (go_at_call 16; refine SV.out.mono ?_; rintro e w1 ⟨rfl, b1⟩)
    have B1 := Lib.hid b1
    clear b1
    go_loopw [3, 4] (fun m i wo => ∃ k : Nat, k ≤ l.1.length ∧ i = .int .i64 k ∧ m = .int .i64 (leftP l k) ∧ Below W.heap.size W wo) (fun _ i _ => l.1.length - (intOf i).toNat)
    case atStart => exact ⟨0, by omega, rfl, rfl, B1.out⟩
    case round =>
      obtain ⟨k, hk, rfl, rfl, hbo⟩ := hrel
      have hr := LS.out k
      have es := LE.out k
      have g0 := (P0.out.below hbo).cell0
      have g1 := (P0.out.below hbo).cell1
      obtain ⟨s, hs⟩ : ∃ s, s = leftP l k := ⟨_, rfl⟩
      obtain ⟨s', hs'⟩ : ∃ s, s = leftP l (k + 1) := ⟨_, rfl⟩
      rw [← hs] at hr es ⊢
      rw [← hs'] at es
      have S := Lib.hid hs
      have S' := Lib.hid hs'
      have ES := Lib.hid es
      clear hs hs' es
      by_cases hlt : k < l.1.length
      · have hki : (k : Int) < (l.1.length : Int) := by omega
        have CL := Lib.hid (L4.out _ hbo k hlt)
        obtain ⟨ev, hev⟩ : ∃ ev, ev = evLeft (l.1.getD k nb) (comTo l.2 (2 * (k : Int))) := ⟨_, rfl⟩
        rw [← hev] at CL
        have hvr : 0 ≤ ev ∧ ev ≤ 27 := by
          have h1 := comTo_range l.2 (2 * (k : Int))
          have h2 := evLeft_range (l.1.getD k nb) h1.1
          rw [hev]; omega
        have EX := Lib.hid (show s' = s + ev by rw [ES.out, hev])
        clear hev
        go_wp2_with (go_at_call 73; refine CL.out.mono ?_; rintro e w3 ⟨rfl, b3⟩)
        go_roundw
        case rel => exact ⟨k + 1, by omega, by go_num, by rw [← S'.out, EX.out]; try go_num, hbo.trans (b3.mono hbo.size)⟩
        case measure => simp [intOf]; omega
      · obtain rfl : k = l.1.length := by omega
        have E := Lib.hid (show leftV l = s by rw [EV.out, S.out])
        go_wp2_with fail
        go_ret
        exact ⟨ret_int E.out.symm, Q0.out.trans (hbo.mono Q0.out.size)⟩

end Go.Proofs.Ytoapfcnpmpggcab
