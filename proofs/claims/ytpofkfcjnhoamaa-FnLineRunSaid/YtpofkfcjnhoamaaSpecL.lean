/-
  What the model says of a line: is it done, how many moves are left, how many trains wait at a box, which train is in a section. For at most 1048576 blocks and as many trains.
-/
import Derived.Test.YtpofkfcjnhoamaaSpecV
import Derived.Test.YtpofkfcjnhoamaaLineI
namespace Go.Proofs.Ytpofkfcjnhoamaa
open Go.RowKit Go.Sort

theorem tr_at {w : World} {a : Option Addr} {c : Nat} {ts : List Int} (h : Ints w (.slice a ts.length c) ts) {i : Nat} (hi : i < ts.length) : ∃ b o, a = some ⟨b, o, none⟩ ∧ b < w.heap.size ∧ ∀ i, i < ts.length → w.cell? ⟨b, o + i, none⟩ = some (.int .i64 (ts.getD i 0)) := by
  obtain ⟨a', c', e, _, hc⟩ := h
  simp only [Value.slice.injEq] at e
  obtain ⟨rfl, _, rfl⟩ := e
  rcases hc with rfl | h
  · simp at hi
  · exact h

set_option maxHeartbeats 2000000 in
theorem l4At {w : World} {v : Value} {l : Ln} (p : Int) (h : LineV w v l) : Calls Try.prog 79 #[v, .int .i64 p] w fun e w' => e = .returned (.int .i64 (fstI l.2 p)) ∧ Below w.heap.size w w' := by
  obtain ⟨u1, u2, rfl, h1, h2⟩ := h
  have k1 : (l.1.length : Int) ≤ 1048576 := by have := Rd.len h1; omega
  have k2 : (l.2.length : Int) ≤ 1048576 := by have := h2.len; omega
  obtain ⟨a1, c1, rfl⟩ := Rd.slice h1
  have hh2 := h2
  obtain ⟨a2, c2, rfl, -, -⟩ := h2
  have q0 := below_alloc w (.cells #[.slice a1 l.1.length c1, .slice a2 l.2.length c2] 26)
  have p0 := Pair.new w (.slice a1 l.1.length c1) (.slice a2 l.2.length c2) 26
  obtain ⟨W, hW⟩ : ∃ X, X = w.alloc (.cells #[.slice a1 l.1.length c1, .slice a2 l.2.length c2] 26) := ⟨_, rfl⟩
  rw [← hW] at q0 p0
  have HW := Lib.hid hW.symm
  have Q0 := Lib.hid q0
  have P0 := Lib.hid p0
  have e0 := p0.cell0
  have e1 := p0.cell1
  have TR := Lib.hid (fun (i : Nat) (hi : i < l.2.length) => tr_at hh2 hi)
  have AT := Lib.hid (fun (i : Nat) (hi : i < l.1.length) => Blks.at h1 hi)
  have LV := Lib.hid (show LineV W (.agg #[.slice a1 l.1.length c1, .slice a2 l.2.length c2]) l from ⟨_, _, rfl, Rd.below h1 q0, hh2.below q0⟩)
  clear hW p0 q0 h1 hh2
  go_enter Try.func79, Try.ntmps79
  go_upto_region 1 with fail
  rw [HW.out]
  go_wp2_with fail
  go_loop [5] (fun i => ∃ k : Nat, k ≤ l.2.length ∧ i = .int .i64 k ∧ Hid (∀ j, j < k → l.2.getD j 0 ≠ p)) (fun i => l.2.length - (intOf i).toNat)
  case atStart => exact ⟨0, by omega, rfl, Lib.hid (fun j hj => by omega)⟩
  case round =>
    obtain ⟨k, hk, rfl, NO⟩ := hrel
    by_cases hlt : k < l.2.length
    · obtain ⟨b, o, rfl, hb, hcell⟩ := TR.out k hlt
      have d0 := (Q0.out.cell (p := ⟨b, o + k, none⟩) hb).trans (hcell k hlt)
      have hki : (k : Int) < (l.2.length : Int) := by omega
      obtain ⟨x, hx⟩ : ∃ x, x = l.2.getD k 0 := ⟨_, rfl⟩
      rw [← hx] at d0
      have X := Lib.hid hx
      clear hx hcell
      by_cases e : x = p
      · have E := Lib.hid (show fstI l.2 p = k by unfold fstI; rw [fst_some hlt (by rw [← X.out]; exact e) NO.out])
        clear NO
        subst e
        go_wp2_with fail
        go_ret
        exact ⟨ret_int E.out.symm, Q0.out⟩
      · have E := Lib.hid (show ∀ j, j < k + 1 → l.2.getD j 0 ≠ p from fun j hj => by
          by_cases q : j = k
          · subst q; rw [← X.out]; exact e
          · exact NO.out j (by omega))
        go_wp2_with fail
        go_round
        case rel => exact ⟨k + 1, by omega, by go_num, E⟩
        case measure => simp [intOf]; omega
    · obtain rfl : k = l.2.length := by omega
      have E := Lib.hid (show fstI l.2 p = -1 by unfold fstI; rw [fst_none NO.out])
      go_wp2_with fail
      go_ret
      exact ⟨ret_int E.out.symm, Q0.out⟩

set_option maxHeartbeats 2000000 in
theorem specLineWaits {w : World} {v : Value} {l : Ln} (k : Int) (h : LineV w v l) : Calls Try.prog 15 #[v, .int .i64 k] w fun e w' => e = .returned (.int .i64 (waitsV l k)) ∧ Below w.heap.size w w' := by
  obtain ⟨u1, u2, rfl, h1, h2⟩ := h
  have k1 : (l.1.length : Int) ≤ 1048576 := by have := Rd.len h1; omega
  have k2 : (l.2.length : Int) ≤ 1048576 := by have := h2.len; omega
  obtain ⟨a1, c1, rfl⟩ := Rd.slice h1
  have hh2 := h2
  obtain ⟨a2, c2, rfl, -, -⟩ := h2
  have q0 := below_alloc w (.cells #[.slice a1 l.1.length c1, .slice a2 l.2.length c2] 26)
  have p0 := Pair.new w (.slice a1 l.1.length c1) (.slice a2 l.2.length c2) 26
  obtain ⟨W, hW⟩ : ∃ X, X = w.alloc (.cells #[.slice a1 l.1.length c1, .slice a2 l.2.length c2] 26) := ⟨_, rfl⟩
  rw [← hW] at q0 p0
  have HW := Lib.hid hW.symm
  have Q0 := Lib.hid q0
  have P0 := Lib.hid p0
  have e0 := p0.cell0
  have e1 := p0.cell1
  have TR := Lib.hid (fun (i : Nat) (hi : i < l.2.length) => tr_at hh2 hi)
  have AT := Lib.hid (fun (i : Nat) (hi : i < l.1.length) => Blks.at h1 hi)
  have LV := Lib.hid (show LineV W (.agg #[.slice a1 l.1.length c1, .slice a2 l.2.length c2]) l from ⟨_, _, rfl, Rd.below h1 q0, hh2.below q0⟩)
  clear hW p0 q0 h1 hh2
  go_enter Try.func15, Try.ntmps15
  go_upto_region 1 with fail
  rw [HW.out]
  have SV := Lib.hid (specLineValid LV.out)
  cases hb : lnB l
  · have EV := Lib.hid (show waitsV l k = -1 by unfold waitsV; rw [if_neg (fun q => by rw [hb] at q; cases q.1)])
    rw [hb] at SV
    clear hb
    go_wp2_with (go_at_call 11; refine SV.out.mono ?_; rintro e w1 ⟨rfl, b1⟩)
    go_ret
    exact ⟨ret_int EV.out.symm, Q0.out.trans (b1.mono Q0.out.size)⟩
  · have k5 := ln_small hb
    rw [hb] at SV
    by_cases hk : 0 ≤ k ∧ k ≤ (l.1.length : Int)
    · have EV := Lib.hid (show waitsV l k = cntP l.2 (2 * k) l.2.length by unfold waitsV; rw [if_pos ⟨hb, hk.1, hk.2⟩]; rfl)
      have IY := Lib.hid (fun w => in_yes k 0 (l.1.length : Int) w hk.1 hk.2)
      have hk0 := hk.1
      have hk1 := hk.2
      clear hb hk
      go_wp2_with (first
        | (go_at_call 11; refine SV.out.mono ?_; rintro e w1 ⟨rfl, b1⟩; have g0 := (P0.out.below b1).cell0; have g1 := (P0.out.below b1).cell1)
        | (go_at_call 41; refine (IY.out _).mono ?_; rintro e w' ⟨rfl, rfl⟩))
      have B1 := Lib.hid b1
      go_loop [5, 6] (fun m i => ∃ j : Nat, j ≤ l.2.length ∧ i = .int .i64 j ∧ m = .int .i64 (cntP l.2 (2 * k) j)) (fun _ i => l.2.length - (intOf i).toNat)
      case atStart => exact ⟨0, by omega, rfl, rfl⟩
      case round =>
        obtain ⟨j, hj, rfl, rfl⟩ := hrel
        have hr := cntP_range l.2 (2 * k) j
        obtain ⟨m, hm⟩ : ∃ m, m = cntP l.2 (2 * k) j := ⟨_, rfl⟩
        rw [← hm] at hr ⊢
        have M := Lib.hid hm
        clear hm
        by_cases hjl : j < l.2.length
        · obtain ⟨b, o, rfl, hb, hcell⟩ := TR.out j hjl
          have hbW := Nat.lt_of_lt_of_le hb Q0.out.size
          have d0 := (B1.out.cell (p := ⟨b, o + j, none⟩) hbW).trans ((Q0.out.cell (p := ⟨b, o + j, none⟩) hb).trans (hcell j hjl))
          have hji : (j : Int) < (l.2.length : Int) := by omega
          obtain ⟨x, hx⟩ : ∃ x, x = l.2.getD j 0 := ⟨_, rfl⟩
          rw [← hx] at d0
          have X := Lib.hid hx
          clear hx hcell
          by_cases e : x = 2 * k
          · have E := Lib.hid ((cntP_yes (show l.2.getD j 0 = 2 * k by rw [← X.out]; exact e)).trans (by rw [← M.out]))
            go_wp2_with fail
            go_round
            case rel => exact ⟨j + 1, by omega, by go_num, by rw [E.out]; try go_num⟩
            case measure => simp [intOf]; omega
          · have E := Lib.hid ((cntP_no (show ¬ l.2.getD j 0 = 2 * k by rw [← X.out]; exact e)).trans M.out.symm)
            go_wp2_with fail
            go_round
            case rel => exact ⟨j + 1, by omega, by go_num, by rw [E.out]; try go_num⟩
            case measure => simp [intOf]; omega
        · obtain rfl : j = l.2.length := by omega
          go_wp2_with fail
          go_ret
          exact ⟨ret_int (by rw [EV.out, M.out]), Q0.out.trans (B1.out.mono Q0.out.size)⟩
    · have EV := Lib.hid (show waitsV l k = -1 by unfold waitsV; rw [if_neg (fun q => hk ⟨q.2.1, q.2.2⟩)])
      have IN := Lib.hid (fun w => in_no k 0 (l.1.length : Int) w (by omega))
      clear hk hb
      go_wp2_with (first
        | (go_at_call 11; refine SV.out.mono ?_; rintro e w1 ⟨rfl, b1⟩; have g0 := (P0.out.below b1).cell0; have g1 := (P0.out.below b1).cell1)
        | (go_at_call 41; refine (IN.out _).mono ?_; rintro e w' ⟨rfl, rfl⟩))
      go_ret
      exact ⟨ret_int EV.out.symm, Q0.out.trans (b1.mono Q0.out.size)⟩

end Go.Proofs.Ytpofkfcjnhoamaa
