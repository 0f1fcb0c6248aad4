/-
  What the model says of a line: is it done, how many moves are left, how many trains wait at a box, which train is in a section. For at most 1048576 blocks and as many trains.
-/
import Derived.Test.YtoapfcnpmpggcabSpecV
import Derived.Test.YtoapfcnpmpggcabLineI
namespace Go.Proofs.Ytoapfcnpmpggcab
open Go.RowKit Go.Sort

theorem tr_at {w : World} {a : Option Addr} {c : Nat} {ts : List Int} (h : Ints w (.slice a ts.length c) ts) {i : Nat} (hi : i < ts.length) : ∃ b o, a = some ⟨b, o, none⟩ ∧ b < w.heap.size ∧ ∀ i, i < ts.length → w.cell? ⟨b, o + i, none⟩ = some (.int .i64 (ts.getD i 0)) := by
  obtain ⟨a', c', e, _, hc⟩ := h
  simp only [Value.slice.injEq] at e
  obtain ⟨rfl, _, rfl⟩ := e
  rcases hc with rfl | h
  · simp at hi
  · exact h

set_option maxHeartbeats 2000000 in
theorem l4Done {w : World} {v : Value} {l : Ln} (h : LineV w v l) : Calls Try.prog 71 #[v] w fun e w' => e = .returned (.bool (doneB l)) ∧ Below w.heap.size w w' := by
  obtain ⟨u1, u2, rfl, h1, h2⟩ := h
  have k1 : (l.1.length : Int) ≤ 1048576 := by have := Rd.len h1; omega
  have k2 : (l.2.length : Int) ≤ 1048576 := by have := h2.len; omega
  obtain ⟨a1, c1, rfl⟩ := Rd.slice h1
  have hh2 := h2
  obtain ⟨a2, c2, rfl, -, -⟩ := h2
  have q0 := below_alloc w (.cells #[.slice a1 l.1.length c1, .slice a2 l.2.length c2] 30)
  have p0 := Pair.new w (.slice a1 l.1.length c1) (.slice a2 l.2.length c2) 30
  obtain ⟨W, hW⟩ : ∃ X, X = w.alloc (.cells #[.slice a1 l.1.length c1, .slice a2 l.2.length c2] 30) := ⟨_, rfl⟩
  rw [← hW] at q0 p0
  have HW := Lib.hid hW.symm
  have Q0 := Lib.hid q0
  have P0 := Lib.hid p0
  have e0 := p0.cell0
  have e1 := p0.cell1
  have TR := Lib.hid (fun (i : Nat) (hi : i < l.2.length) => tr_at hh2 hi)
  have AT := Lib.hid (fun (i : Nat) (hi : i < l.1.length) => Blks.at h1 hi)
  have LV := Lib.hid (show LineV W (.agg #[.slice a1 l.1.length c1, .slice a2 l.2.length c2]) l from ⟨_, _, rfl, Rd.below h1 q0, hh2.below q0⟩)
  clear hW p0 q0 h1 hh2
  go_enter Try.func71, Try.ntmps71
  go_upto_region 1 with fail
  rw [HW.out]
  go_wp2_with fail
  go_loop [3] (fun i => ∃ k : Nat, k ≤ l.1.length ∧ i = .int .i64 k ∧ Hid (∀ j, j < k → l.1.getD j nb = nb)) (fun i => l.1.length - (intOf i).toNat)
  case atStart => exact ⟨0, by omega, rfl, Lib.hid (fun j hj => by omega)⟩
  case round =>
    obtain ⟨k, hk, rfl, NO⟩ := hrel
    by_cases hlt : k < l.1.length
    · have hki : (k : Int) < (l.1.length : Int) := by omega
      obtain ⟨b, o, rfl, hb, hcell⟩ := AT.out k hlt
      obtain ⟨g0, g1, g2⟩ := hcell k hlt
      have d0 := (Q0.out.cell (p := ⟨b, o + k * 3, none⟩) hb).trans g0
      have d1 : W.cell? ⟨b, o + k * 3 + 1, none⟩ = _ := (Q0.out.cell (p := ⟨b, o + k * 3 + 1, none⟩) hb).trans g1
      have d2 : W.cell? ⟨b, o + k * 3 + 2, none⟩ = _ := (Q0.out.cell (p := ⟨b, o + k * 3 + 2, none⟩) hb).trans g2
      obtain ⟨x, hx⟩ : ∃ x, x = l.1.getD k nb := ⟨_, rfl⟩
      rw [← hx] at d0 d1 d2
      have X := Lib.hid hx
      obtain ⟨p, hp⟩ : ∃ p, p = decide (x = nb) := ⟨_, rfl⟩
      have EQ2 : ∀ w : World, (binOp .neq 69 (.agg #[.int .i64 x.1, .bool x.2.1, .bool x.2.2]) (.agg #[.int .i64 0, .bool false, .bool false])).run Try.prog w = .ok (.bool (!p)) w := fun w => by rw [hp]; exact neqBlk x nb w
      have P := Lib.hid hp
      clear hx hp g0 g1 g2 hcell
      cases p
      · have E := Lib.hid (doneB_no (l := l) fun q => (of_decide_eq_false P.out.symm) (by rw [X.out]; exact q.1 k hlt))
        go_wp2_with fail
        go_ret
        exact ⟨ret_bool E.out.symm, Q0.out⟩
      · have E := Lib.hid (show ∀ j, j < k + 1 → l.1.getD j nb = nb from fun j hj => by
          by_cases q : j = k
          · subst q; rw [← X.out]; exact of_decide_eq_true P.out.symm
          · exact NO.out j (by omega))
        go_wp2_with fail
        go_round
        case rel => exact ⟨k + 1, by omega, by go_num, E⟩
        case measure => simp [intOf]; omega
    · obtain rfl : k = l.1.length := by omega
      clear hlt hk
      go_wp2_with fail
      go_loopw [4] (fun i wr => ∃ k : Nat, k ≤ l.2.length ∧ i = .int .i64 k ∧ Hid (∀ j, j < k → l.2.getD j 0 = 2 * (l.1.length : Int)) ∧ Below W.heap.size W wr) (fun i _ => l.2.length - (intOf i).toNat)
      case atStart => exact ⟨0, by omega, rfl, Lib.hid (fun j hj => by omega), Below.refl _ _⟩
      case round =>
        obtain ⟨k, hk, rfl, HK, hbel⟩ := hrel
        have f0 := (P0.out.below hbel).cell0
        have f1 := (P0.out.below hbel).cell1
        by_cases hlt : k < l.2.length
        · obtain ⟨b, o, rfl, hb, hcell⟩ := TR.out k hlt
          have hbW := Nat.lt_of_lt_of_le hb Q0.out.size
          have d0 := (hbel.cell (p := ⟨b, o + k, none⟩) hbW).trans ((Q0.out.cell (p := ⟨b, o + k, none⟩) hb).trans (hcell k hlt))
          have hki : (k : Int) < (l.2.length : Int) := by omega
          obtain ⟨x, hx⟩ : ∃ x, x = l.2.getD k 0 := ⟨_, rfl⟩
          rw [← hx] at d0
          have X := Lib.hid hx
          have D0 := fun d os => cell_regrown d0 d os
          have F0 := fun d os => cell_regrown f0 d os
          have F1 := fun d os => cell_regrown f1 d os
          have hw2 : IntKind.i64.wrap (2 * (l.1.length : Int)) = 2 * (l.1.length : Int) := IntWalk.i64_in _ (by omega)
          have hsz : W.heap.size ≤ wr.heap.size := hbel.size
          clear hx hcell
          by_cases e : x = 2 * (l.1.length : Int)
          · have E := Lib.hid (show ∀ j, j < k + 1 → l.2.getD j 0 = 2 * (l.1.length : Int) from fun j hj => by
              by_cases q : j = k
              · subst q; rw [← X.out]; exact e
              · exact HK.out j (by omega))
            have e' : (x != 2 * (l.1.length : Int)) = false := by simp [e]
            have e2 := Lib.hid e
            clear e
            go_wp2_with fail
            refine wp_region_quiet_below (by kernel_rfl) (by kernel_rfl) ?_
            repeat (go_big_quiet_step (fail))
            refine wpQuiet_nil ?_
            intro _ hw'
            obtain ⟨⟨dq, osq⟩, hw''⟩ := hw'
            subst hw''
            have BR := (below_regrown wr dq osq).mono hsz
            go_wp2_with fail
            go_roundw
            case rel => exact ⟨k + 1, by omega, by go_num, E, hbel.trans BR⟩
            case measure => simp [intOf]; omega
          · have E := Lib.hid (doneB_no (l := l) fun q => e (by rw [X.out]; exact q.2 k hlt))
            have e' : (x != 2 * (l.1.length : Int)) = true := by simp [e]
            clear e
            go_wp2_with fail
            refine wp_region_quiet_below (by kernel_rfl) (by kernel_rfl) ?_
            repeat (go_big_quiet_step (fail))
            refine wpQuiet_nil ?_
            intro _ hw'
            obtain ⟨⟨dq, osq⟩, hw''⟩ := hw'
            subst hw''
            have BR := (below_regrown wr dq osq).mono hsz
            go_wp2_with fail
            go_ret
            exact ⟨ret_bool E.out.symm, Q0.out.trans ((hbel.trans BR).mono Q0.out.size)⟩
        · obtain rfl : k = l.2.length := by omega
          have E := Lib.hid (doneB_yes (l := l) ⟨NO.out, HK.out⟩)
          go_wp2_with fail
          go_ret
          exact ⟨ret_bool E.out.symm, Q0.out.trans (hbel.mono Q0.out.size)⟩

set_option maxHeartbeats 2000000 in
theorem specLineDone {w : World} {v : Value} {l : Ln} (h : LineV w v l) : Calls Try.prog 37 #[v] w fun e w' => e = .returned (.bool (doneV l)) ∧ Below w.heap.size w w' := by
  obtain ⟨u1, u2, rfl, h1, h2⟩ := h
  have k1 : (l.1.length : Int) ≤ 1048576 := by have := Rd.len h1; omega
  have k2 : (l.2.length : Int) ≤ 1048576 := by have := h2.len; omega
  obtain ⟨a1, c1, rfl⟩ := Rd.slice h1
  have hh2 := h2
  obtain ⟨a2, c2, rfl, -, -⟩ := h2
  have q0 := below_alloc w (.cells #[.slice a1 l.1.length c1, .slice a2 l.2.length c2] 30)
  have p0 := Pair.new w (.slice a1 l.1.length c1) (.slice a2 l.2.length c2) 30
  obtain ⟨W, hW⟩ : ∃ X, X = w.alloc (.cells #[.slice a1 l.1.length c1, .slice a2 l.2.length c2] 30) := ⟨_, rfl⟩
  rw [← hW] at q0 p0
  have HW := Lib.hid hW.symm
  have Q0 := Lib.hid q0
  have P0 := Lib.hid p0
  have e0 := p0.cell0
  have e1 := p0.cell1
  have TR := Lib.hid (fun (i : Nat) (hi : i < l.2.length) => tr_at hh2 hi)
  have AT := Lib.hid (fun (i : Nat) (hi : i < l.1.length) => Blks.at h1 hi)
  have LV := Lib.hid (show LineV W (.agg #[.slice a1 l.1.length c1, .slice a2 l.2.length c2]) l from ⟨_, _, rfl, Rd.below h1 q0, hh2.below q0⟩)
  clear hW p0 q0 h1 hh2
  go_enter Try.func37, Try.ntmps37
  go_upto_region 1 with fail
  rw [HW.out]
  have SV := Lib.hid (specLineValid LV.out)
  have DN := Lib.hid (fun (X : World) (c : Below W.heap.size W X) => l4Done (LV.out.below c))
  have DV := Lib.hid (show doneV l = (lnB l && doneB l) from rfl)
  obtain ⟨t, ht⟩ : ∃ t, t = lnB l := ⟨_, rfl⟩
  rw [← ht] at SV DV
  clear ht
  cases t
  · go_wp2_with (go_at_call 16; refine SV.out.mono ?_; rintro e w1 ⟨rfl, b1⟩)
    go_ret
    exact ⟨ret_bool (by rw [DV.out]; rfl), Q0.out.trans (b1.mono Q0.out.size)⟩
  · go_wp2_with (first
      | (go_at_call 16; refine SV.out.mono ?_; rintro e w1 ⟨rfl, b1⟩; have g0 := (P0.out.below b1).cell0; have g1 := (P0.out.below b1).cell1)
      | (go_at_call 71; refine (DN.out _ b1).mono ?_; rintro e w2 ⟨rfl, b2⟩; have c2 := b1.trans (b2.mono b1.size)))
    go_ret
    exact ⟨ret_bool (by rw [DV.out]; rfl), Q0.out.trans (c2.mono Q0.out.size)⟩

set_option maxHeartbeats 2000000 in
theorem l4At {w : World} {v : Value} {l : Ln} (p : Int) (h : LineV w v l) : Calls Try.prog 80 #[v, .int .i64 p] w fun e w' => e = .returned (.int .i64 (fstI l.2 p)) ∧ Below w.heap.size w w' := by
  obtain ⟨u1, u2, rfl, h1, h2⟩ := h
  have k1 : (l.1.length : Int) ≤ 1048576 := by have := Rd.len h1; omega
  have k2 : (l.2.length : Int) ≤ 1048576 := by have := h2.len; omega
  obtain ⟨a1, c1, rfl⟩ := Rd.slice h1
  have hh2 := h2
  obtain ⟨a2, c2, rfl, -, -⟩ := h2
  have q0 := below_alloc w (.cells #[.slice a1 l.1.length c1, .slice a2 l.2.length c2] 30)
  have p0 := Pair.new w (.slice a1 l.1.length c1) (.slice a2 l.2.length c2) 30
  obtain ⟨W, hW⟩ : ∃ X, X = w.alloc (.cells #[.slice a1 l.1.length c1, .slice a2 l.2.length c2] 30) := ⟨_, rfl⟩
  rw [← hW] at q0 p0
  have HW := Lib.hid hW.symm
  have Q0 := Lib.hid q0
  have P0 := Lib.hid p0
  have e0 := p0.cell0
  have e1 := p0.cell1
  have TR := Lib.hid (fun (i : Nat) (hi : i < l.2.length) => tr_at hh2 hi)
  have AT := Lib.hid (fun (i : Nat) (hi : i < l.1.length) => Blks.at h1 hi)
  have LV := Lib.hid (show LineV W (.agg #[.slice a1 l.1.length c1, .slice a2 l.2.length c2]) l from ⟨_, _, rfl, Rd.below h1 q0, hh2.below q0⟩)
  clear hW p0 q0 h1 hh2
  go_enter Try.func80, Try.ntmps80
  go_upto_region 1 with fail
  rw [HW.out]
  go_wp2_with fail
  go_loop [5] (fun i => ∃ k : Nat, k ≤ l.2.length ∧ i = .int .i64 k ∧ Hid (∀ j, j < k → l.2.getD j 0 ≠ p)) (fun i => l.2.length - (intOf i).toNat)
  case atStart => exact ⟨0, by omega, rfl, Lib.hid (fun j hj => by omega)⟩
  case round =>
    obtain ⟨k, hk, rfl, NO⟩ := hrel
    by_cases hlt : k < l.2.length
    · obtain ⟨b, o, rfl, hb, hcell⟩ := TR.out k hlt
      have d0 := (Q0.out.cell (p := ⟨b, o + k, none⟩) hb).trans (hcell k hlt)
      have hki : (k : Int) < (l.2.length : Int) := by omega
      obtain ⟨x, hx⟩ : ∃ x, x = l.2.getD k 0 := ⟨_, rfl⟩
      rw [← hx] at d0
      have X := Lib.hid hx
      clear hx hcell
      by_cases e : x = p
      · have E := Lib.hid (show fstI l.2 p = k by unfold fstI; rw [fst_some hlt (by rw [← X.out]; exact e) NO.out])
        clear NO
        subst e
        go_wp2_with fail
        go_ret
        exact ⟨ret_int E.out.symm, Q0.out⟩
      · have E := Lib.hid (show ∀ j, j < k + 1 → l.2.getD j 0 ≠ p from fun j hj => by
          by_cases q : j = k
          · subst q; rw [← X.out]; exact e
          · exact NO.out j (by omega))
        go_wp2_with fail
        go_round
        case rel => exact ⟨k + 1, by omega, by go_num, E⟩
        case measure => simp [intOf]; omega
    · obtain rfl : k = l.2.length := by omega
      have E := Lib.hid (show fstI l.2 p = -1 by unfold fstI; rw [fst_none NO.out])
      go_wp2_with fail
      go_ret
      exact ⟨ret_int E.out.symm, Q0.out⟩

set_option maxHeartbeats 2000000 in
theorem specLineIn {w : World} {v : Value} {l : Ln} (k : Int) (h : LineV w v l) : Calls Try.prog 47 #[v, .int .i64 k] w fun e w' => e = .returned (.tuple #[.int .i64 (((inV l k).getD 0 : Nat) : Int), .bool (inV l k).isSome]) ∧ Below w.heap.size w w' := by
  obtain ⟨u1, u2, rfl, h1, h2⟩ := h
  have k1 : (l.1.length : Int) ≤ 1048576 := by have := Rd.len h1; omega
  have k2 : (l.2.length : Int) ≤ 1048576 := by have := h2.len; omega
  obtain ⟨a1, c1, rfl⟩ := Rd.slice h1
  have hh2 := h2
  obtain ⟨a2, c2, rfl, -, -⟩ := h2
  have q0 := below_alloc w (.cells #[.slice a1 l.1.length c1, .slice a2 l.2.length c2] 30)
  have p0 := Pair.new w (.slice a1 l.1.length c1) (.slice a2 l.2.length c2) 30
  obtain ⟨W, hW⟩ : ∃ X, X = w.alloc (.cells #[.slice a1 l.1.length c1, .slice a2 l.2.length c2] 30) := ⟨_, rfl⟩
  rw [← hW] at q0 p0
  have HW := Lib.hid hW.symm
  have Q0 := Lib.hid q0
  have P0 := Lib.hid p0
  have e0 := p0.cell0
  have e1 := p0.cell1
  have TR := Lib.hid (fun (i : Nat) (hi : i < l.2.length) => tr_at hh2 hi)
  have AT := Lib.hid (fun (i : Nat) (hi : i < l.1.length) => Blks.at h1 hi)
  have LV := Lib.hid (show LineV W (.agg #[.slice a1 l.1.length c1, .slice a2 l.2.length c2]) l from ⟨_, _, rfl, Rd.below h1 q0, hh2.below q0⟩)
  clear hW p0 q0 h1 hh2
  go_enter Try.func47, Try.ntmps47
  go_upto_region 1 with fail
  rw [HW.out]
  have SV := Lib.hid (specLineValid LV.out)
  have LA := Lib.hid (fun (X : World) (c : Below W.heap.size W X) => l4At (2 * k + 1) (LV.out.below c))
  cases hb : lnB l
  · have EV := Lib.hid (show inV l k = none by unfold inV; rw [if_neg (fun q => by rw [hb] at q; cases q.1)])
    rw [hb] at SV
    clear hb
    go_wp2_with (go_at_call 16; refine SV.out.mono ?_; rintro e w1 ⟨rfl, b1⟩)
    go_ret2
    exact ⟨by rw [EV.out]; rfl, Q0.out.trans (b1.mono Q0.out.size)⟩
  · have k5 := ln_small hb
    rw [hb] at SV
    by_cases hk : 0 ≤ k ∧ k ≤ (l.1.length : Int) - 1
    · have EV := Lib.hid (show inV l k = fst l.2 (2 * k + 1) by unfold inV; rw [if_pos ⟨hb, hk.1, by omega⟩])
      have IY := Lib.hid (fun w => in_yes k 0 ((l.1.length : Int) - 1) w hk.1 hk.2)
      have hk0 := hk.1
      have hk1 := hk.2
      obtain ⟨j, hj⟩ : ∃ j, j = fst l.2 (2 * k + 1) := ⟨_, rfl⟩
      have EJ := Lib.hid (show fstI l.2 (2 * k + 1) = optI j by rw [fstI_opt, ← hj])
      rw [← hj] at EV
      rw [EJ.out] at LA
      have JL : ∀ i, j = some i → (i : Int) ≤ 5 := fun i e => by have := (fst_is (hj ▸ e)).1; omega
      clear hj hb hk
      cases j with
      | none =>
        simp only [optI] at LA
        clear JL
        go_wp2_with (first
          | (go_at_call 16; refine SV.out.mono ?_; rintro e w1 ⟨rfl, b1⟩; have g0 := (P0.out.below b1).cell0; have g1 := (P0.out.below b1).cell1)
          | (go_at_call 53; refine (IY.out _).mono ?_; rintro e w' ⟨rfl, rfl⟩)
          | (go_at_call 80; refine (LA.out _ b1).mono ?_; rintro e w2 ⟨rfl, b2⟩; have c2 := b1.trans (b2.mono b1.size)))
        go_ret2
        exact ⟨by rw [EV.out]; rfl, Q0.out.trans (c2.mono Q0.out.size)⟩
      | some i =>
        simp only [optI] at LA
        have hi := JL i rfl
        clear JL
        have hd : decide ((i : Int) < 0) = false := decide_eq_false (by omega)
        go_wp2_with (first
          | (go_at_call 16; refine SV.out.mono ?_; rintro e w1 ⟨rfl, b1⟩; have g0 := (P0.out.below b1).cell0; have g1 := (P0.out.below b1).cell1)
          | (go_at_call 53; refine (IY.out _).mono ?_; rintro e w' ⟨rfl, rfl⟩)
          | (go_at_call 80; first
              | (refine (LA.out _ c2).mono ?_; rintro e w3 ⟨rfl, b3⟩; have c3 := c2.trans (b3.mono c2.size))
              | (refine (LA.out _ b1).mono ?_; rintro e w2 ⟨rfl, b2⟩; have c2 := b1.trans (b2.mono b1.size); have g0 := (P0.out.below c2).cell0; have g1 := (P0.out.below c2).cell1)))
        go_ret2
        exact ⟨by rw [EV.out]; simp, Q0.out.trans (c3.mono Q0.out.size)⟩
    · have EV := Lib.hid (show inV l k = none by unfold inV; rw [if_neg (fun q => hk ⟨q.2.1, by omega⟩)])
      have IN := Lib.hid (fun w => in_no k 0 ((l.1.length : Int) - 1) w (by omega))
      clear hk hb
      go_wp2_with (first
        | (go_at_call 16; refine SV.out.mono ?_; rintro e w1 ⟨rfl, b1⟩; have g0 := (P0.out.below b1).cell0; have g1 := (P0.out.below b1).cell1)
        | (go_at_call 53; refine (IN.out _).mono ?_; rintro e w' ⟨rfl, rfl⟩))
      go_ret2
      exact ⟨by rw [EV.out]; rfl, Q0.out.trans (b1.mono Q0.out.size)⟩

set_option maxHeartbeats 2000000 in
theorem specLineWaits {w : World} {v : Value} {l : Ln} (k : Int) (h : LineV w v l) : Calls Try.prog 45 #[v, .int .i64 k] w fun e w' => e = .returned (.int .i64 (waitsV l k)) ∧ Below w.heap.size w w' := by
  obtain ⟨u1, u2, rfl, h1, h2⟩ := h
  have k1 : (l.1.length : Int) ≤ 1048576 := by have := Rd.len h1; omega
  have k2 : (l.2.length : Int) ≤ 1048576 := by have := h2.len; omega
  obtain ⟨a1, c1, rfl⟩ := Rd.slice h1
  have hh2 := h2
  obtain ⟨a2, c2, rfl, -, -⟩ := h2
  have q0 := below_alloc w (.cells #[.slice a1 l.1.length c1, .slice a2 l.2.length c2] 30)
  have p0 := Pair.new w (.slice a1 l.1.length c1) (.slice a2 l.2.length c2) 30
  obtain ⟨W, hW⟩ : ∃ X, X = w.alloc (.cells #[.slice a1 l.1.length c1, .slice a2 l.2.length c2] 30) := ⟨_, rfl⟩
  rw [← hW] at q0 p0
  have HW := Lib.hid hW.symm
  have Q0 := Lib.hid q0
  have P0 := Lib.hid p0
  have e0 := p0.cell0
  have e1 := p0.cell1
  have TR := Lib.hid (fun (i : Nat) (hi : i < l.2.length) => tr_at hh2 hi)
  have AT := Lib.hid (fun (i : Nat) (hi : i < l.1.length) => Blks.at h1 hi)
  have LV := Lib.hid (show LineV W (.agg #[.slice a1 l.1.length c1, .slice a2 l.2.length c2]) l from ⟨_, _, rfl, Rd.below h1 q0, hh2.below q0⟩)
  clear hW p0 q0 h1 hh2
  go_enter Try.func45, Try.ntmps45
  go_upto_region 1 with fail
  rw [HW.out]
  have SV := Lib.hid (specLineValid LV.out)
  cases hb : lnB l
  · have EV := Lib.hid (show waitsV l k = -1 by unfold waitsV; rw [if_neg (fun q => by rw [hb] at q; cases q.1)])
    rw [hb] at SV
    clear hb
    go_wp2_with (go_at_call 16; refine SV.out.mono ?_; rintro e w1 ⟨rfl, b1⟩)
    go_ret
    exact ⟨ret_int EV.out.symm, Q0.out.trans (b1.mono Q0.out.size)⟩
  · have k5 := ln_small hb
    rw [hb] at SV
    by_cases hk : 0 ≤ k ∧ k ≤ (l.1.length : Int)
    · have EV := Lib.hid (show waitsV l k = cntP l.2 (2 * k) l.2.length by unfold waitsV; rw [if_pos ⟨hb, hk.1, hk.2⟩]; rfl)
      have IY := Lib.hid (fun w => in_yes k 0 (l.1.length : Int) w hk.1 hk.2)
      have hk0 := hk.1
      have hk1 := hk.2
      clear hb hk
      go_wp2_with (first
        | (go_at_call 16; refine SV.out.mono ?_; rintro e w1 ⟨rfl, b1⟩; have g0 := (P0.out.below b1).cell0; have g1 := (P0.out.below b1).cell1)
        | (go_at_call 53; refine (IY.out _).mono ?_; rintro e w' ⟨rfl, rfl⟩))
      have B1 := Lib.hid b1
      go_loop [5, 6] (fun m i => ∃ j : Nat, j ≤ l.2.length ∧ i = .int .i64 j ∧ m = .int .i64 (cntP l.2 (2 * k) j)) (fun _ i => l.2.length - (intOf i).toNat)
      case atStart => exact ⟨0, by omega, rfl, rfl⟩
      case round =>
        obtain ⟨j, hj, rfl, rfl⟩ := hrel
        have hr := cntP_range l.2 (2 * k) j
        obtain ⟨m, hm⟩ : ∃ m, m = cntP l.2 (2 * k) j := ⟨_, rfl⟩
        rw [← hm] at hr ⊢
        have M := Lib.hid hm
        clear hm
        by_cases hjl : j < l.2.length
        · obtain ⟨b, o, rfl, hb, hcell⟩ := TR.out j hjl
          have hbW := Nat.lt_of_lt_of_le hb Q0.out.size
          have d0 := (B1.out.cell (p := ⟨b, o + j, none⟩) hbW).trans ((Q0.out.cell (p := ⟨b, o + j, none⟩) hb).trans (hcell j hjl))
          have hji : (j : Int) < (l.2.length : Int) := by omega
          obtain ⟨x, hx⟩ : ∃ x, x = l.2.getD j 0 := ⟨_, rfl⟩
          rw [← hx] at d0
          have X := Lib.hid hx
          clear hx hcell
          by_cases e : x = 2 * k
          · have E := Lib.hid ((cntP_yes (show l.2.getD j 0 = 2 * k by rw [← X.out]; exact e)).trans (by rw [← M.out]))
            go_wp2_with fail
            go_round
            case rel => exact ⟨j + 1, by omega, by go_num, by rw [E.out]; try go_num⟩
            case measure => simp [intOf]; omega
          · have E := Lib.hid ((cntP_no (show ¬ l.2.getD j 0 = 2 * k by rw [← X.out]; exact e)).trans M.out.symm)
            go_wp2_with fail
            go_round
            case rel => exact ⟨j + 1, by omega, by go_num, by rw [E.out]; try go_num⟩
            case measure => simp [intOf]; omega
        · obtain rfl : j = l.2.length := by omega
          go_wp2_with fail
          go_ret
          exact ⟨ret_int (by rw [EV.out, M.out]), Q0.out.trans (B1.out.mono Q0.out.size)⟩
    · have EV := Lib.hid (show waitsV l k = -1 by unfold waitsV; rw [if_neg (fun q => hk ⟨q.2.1, q.2.2⟩)])
      have IN := Lib.hid (fun w => in_no k 0 (l.1.length : Int) w (by omega))
      clear hk hb
      go_wp2_with (first
        | (go_at_call 16; refine SV.out.mono ?_; rintro e w1 ⟨rfl, b1⟩; have g0 := (P0.out.below b1).cell0; have g1 := (P0.out.below b1).cell1)
        | (go_at_call 53; refine (IN.out _).mono ?_; rintro e w' ⟨rfl, rfl⟩))
      go_ret
      exact ⟨ret_int EV.out.symm, Q0.out.trans (b1.mono Q0.out.size)⟩

end Go.Proofs.Ytoapfcnpmpggcab
