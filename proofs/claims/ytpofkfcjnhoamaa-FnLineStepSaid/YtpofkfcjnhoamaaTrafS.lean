/-
  How many moves are left, by the program and by the model; whether a line is done, by the model; trains at a place, by the model. For lines of at most 5 sections and 5 trains.
-/
import Derived.Test.YtpofkfcjnhoamaaTrafL
namespace Go.Proofs.Ytpofkfcjnhoamaa
open Go.RowKit Go.Sort

theorem leftP_small {l : Ln} (h : l.2.length ≤ 5) (k : Nat) : 0 ≤ leftP l k ∧ leftP l k ≤ 27 * (k : Int) := by
  induction k with
  | zero => simp [leftP]
  | succ k ih =>
    have h1 := comTo_range l.2 (2 * k)
    have h2 := evLeft_range (l.1.getD k nb) h1.1
    simp only [leftP]
    omega
theorem leftP_succ (l : Ln) (k : Nat) : leftP l (k + 1) = leftP l k + evLeft (l.1.getD k nb) (comTo l.2 (2 * k)) := rfl

set_option maxHeartbeats 2000000 in
theorem implLeft {w : World} {v : Value} {l : Ln} (h : LineV w v l) (hn : l.1.length ≤ 5) (ht : l.2.length ≤ 5) : Calls Try.prog 52 #[v] w fun e w' => e = .returned (.int .i64 (lnLeft l)) ∧ Below w.heap.size w w' := by
  obtain ⟨u1, u2, rfl, h1, h2⟩ := h
  obtain ⟨a1, c1, rfl⟩ := Rd.slice h1
  obtain ⟨a2, c2, rfl, -, hc2⟩ := h2
  have q0 := below_alloc w (.cells #[.slice a1 l.1.length c1, .slice a2 l.2.length c2] 67)
  have p0 := Pair.new w (.slice a1 l.1.length c1) (.slice a2 l.2.length c2) 67
  obtain ⟨W, hW⟩ : ∃ X, X = w.alloc (.cells #[.slice a1 l.1.length c1, .slice a2 l.2.length c2] 67) := ⟨_, rfl⟩
  rw [← hW] at q0 p0
  have HW := Lib.hid hW.symm
  have Q0 := Lib.hid q0
  have P0 := Lib.hid p0
  have e0 := p0.cell0
  have HC2 := Lib.hid hc2
  have AT := Lib.hid (fun (i : Nat) (hi : i < l.1.length) => Blks.at h1 hi)
  have LS := Lib.hid (leftP_small ht)
  have LE := Lib.hid (leftP_succ l)
  have LL := Lib.hid (show lnLeft l = leftP l l.1.length from rfl)
  have k1 : (l.1.length : Int) ≤ 5 := by omega
  have k2 : (l.2.length : Int) ≤ 5 := by omega
  clear hW p0 q0 hc2 h1
  go_enter Try.func52, Try.ntmps52
  go_wp2_with fail
  rw [HW.out]
  go_wp2_with fail
  go_loopw [3, 12] (fun m i wo => ∃ k : Nat, k ≤ l.1.length ∧ i = .int .i64 k ∧ m = .int .i64 (leftP l k) ∧ Below W.heap.size W wo) (fun _ i _ => l.1.length - (intOf i).toNat)
  case atStart => exact ⟨0, by omega, rfl, rfl, Below.refl _ _⟩
  case round =>
    obtain ⟨k, hk, rfl, rfl, hbo⟩ := hrel
    obtain ⟨wp, hwp⟩ : ∃ X, X = wr := ⟨_, rfl⟩
    rw [← hwp] at hbo ⊢
    clear hwp
    have hr := LS.out k
    have hrs := LS.out (k + 1)
    have es := LE.out k
    obtain ⟨s, hs⟩ : ∃ s, s = leftP l k := ⟨_, rfl⟩
    obtain ⟨s', hs'⟩ : ∃ s, s = leftP l (k + 1) := ⟨_, rfl⟩
    rw [← hs] at hr es ⊢
    rw [← hs'] at hrs es
    have S := Lib.hid hs
    have S' := Lib.hid hs'
    have ES := Lib.hid es
    clear hs hs' es
    by_cases hlt : k < l.1.length
    · have hki : (k : Int) < (l.1.length : Int) := by omega
      obtain ⟨b, o, rfl, hb, hcell⟩ := AT.out k hlt
      obtain ⟨g0, g1, g2⟩ := hcell k hlt
      have hbW := Nat.lt_of_lt_of_le hb Q0.out.size
      have d0 := (hbo.cell (p := ⟨b, o + k * 3, none⟩) hbW).trans ((Q0.out.cell (p := ⟨b, o + k * 3, none⟩) hb).trans g0)
      have d1 : wp.cell? ⟨b, o + k * 3 + 1, none⟩ = _ := (hbo.cell (p := ⟨b, o + k * 3 + 1, none⟩) hbW).trans ((Q0.out.cell (p := ⟨b, o + k * 3 + 1, none⟩) hb).trans g1)
      have d2 : wp.cell? ⟨b, o + k * 3 + 2, none⟩ = _ := (hbo.cell (p := ⟨b, o + k * 3 + 2, none⟩) hbW).trans ((Q0.out.cell (p := ⟨b, o + k * 3 + 2, none⟩) hb).trans g2)
      obtain ⟨x, hx⟩ : ∃ x, x = l.1.getD k nb := ⟨_, rfl⟩
      rw [← hx] at d0 d1 d2
      have X := Lib.hid hx
      have t2 := Tri3.new wp (.int .i64 x.1) (.bool x.2.1) (.bool x.2.2) 33
      have b2 := below_alloc wp (.cells #[.int .i64 x.1, .bool x.2.1, .bool x.2.2] 33)
      obtain ⟨V, hV⟩ : ∃ V, V = wp.alloc (.cells #[.int .i64 x.1, .bool x.2.1, .bool x.2.2] 33) := ⟨_, rfl⟩
      rw [← hV] at t2 b2
      have HV := Lib.hid hV.symm
      have cV := hbo.trans (b2.mono hbo.size)
      have v1 := (P0.out.below cV).cell1
      have V0 := t2.cell0
      have V1 := t2.cell1
      have V2 := t2.cell2
      have CV := Lib.hid cV
      have BP := Lib.hid (boxPlace (k : Int) (by omega))
      clear hx hV g0 g1 g2 hcell t2 b2 cV hbo
      go_upto_region 6 with fail
      rw [HV.out]
      go_wp2_with fail
      go_loop [6, 20] (fun m i => ∃ j : Nat, j ≤ l.2.length ∧ i = .int .i64 j ∧ m = .int .i64 (comP l.2 (2 * (k : Int)) j)) (fun _ i => l.2.length - (intOf i).toNat)
      case atStart => exact ⟨0, by omega, rfl, rfl⟩
      case round =>
        obtain ⟨j, hj, rfl, rfl⟩ := hrel
        have hrm := comP_range l.2 (2 * (k : Int)) j
        obtain ⟨m, hm⟩ : ∃ m, m = comP l.2 (2 * (k : Int)) j := ⟨_, rfl⟩
        rw [← hm] at hrm ⊢
        have M := Lib.hid hm
        by_cases hjl : j < l.2.length
        · obtain ⟨b', o', rfl, hb', hcell⟩ : ∃ b o, a2 = some ⟨b, o, none⟩ ∧ b < w.heap.size ∧ ∀ i, i < l.2.length → w.cell? ⟨b, o + i, none⟩ = some (.int .i64 (l.2.getD i 0)) := by
            rcases HC2.out with h | h
            · rw [h] at hjl; simp at hjl
            · exact h
          have hbW' := Nat.lt_of_lt_of_le hb' Q0.out.size
          have z0 := (CV.out.cell (p := ⟨b', o' + j, none⟩) hbW').trans ((Q0.out.cell (p := ⟨b', o' + j, none⟩) hb').trans (hcell j hjl))
          have hji : (j : Int) < (l.2.length : Int) := by omega
          obtain ⟨y, hy⟩ : ∃ y, y = l.2.getD j 0 := ⟨_, rfl⟩
          rw [← hy] at z0
          have Y := Lib.hid hy
          clear hy hcell hm
          by_cases e : y ≤ 2 * (k : Int)
          · have E := Lib.hid ((comP_yes (show l.2.getD j 0 ≤ 2 * (k : Int) by rw [← Y.out]; exact e)).trans (by rw [← M.out]))
            go_wp2_with (go_at_call 44; refine (BP.out _).mono ?_; rintro e w2 ⟨rfl, rfl⟩)
            go_round
            case rel => exact ⟨j + 1, by omega, by go_num, by rw [E.out]; try go_num⟩
            case measure => simp [intOf]; omega
          · have E := Lib.hid ((comP_no (show ¬ l.2.getD j 0 ≤ 2 * (k : Int) by rw [← Y.out]; exact e)).trans M.out.symm)
            go_wp2_with (go_at_call 44; refine (BP.out _).mono ?_; rintro e w2 ⟨rfl, rfl⟩)
            go_round
            case rel => exact ⟨j + 1, by omega, by go_num, by rw [E.out]; try go_num⟩
            case measure => simp [intOf]; omega
        · obtain rfl : j = l.2.length := by omega
          have EV := Lib.hid (eventsLeft x m hrm.1 (by omega))
          have EX := Lib.hid (show s' = s + evLeft x m by rw [ES.out, X.out, hm]; rfl)
          clear hjl hj hm M
          obtain ⟨ev, hev⟩ : ∃ ev, ev = evLeft x m := ⟨_, rfl⟩
          rw [← hev] at EV EX
          have hvr : 0 ≤ ev ∧ ev ≤ 27 := by rw [hev]; have := evLeft_range x hrm.1; omega
          clear hev
          go_wp2_with (go_at_call 80; refine (EV.out _).mono ?_; rintro e w3 ⟨rfl, b3⟩)
          go_roundw
          case rel => exact ⟨k + 1, by omega, by go_num, by rw [← S'.out, EX.out]; try go_num, CV.out.trans (b3.mono CV.out.size)⟩
          case measure => simp [intOf]; omega
    · obtain rfl : k = l.1.length := by omega
      have E := Lib.hid (show lnLeft l = s by rw [LL.out, S.out])
      go_wp2_with fail
      go_ret
      exact ⟨ret_int E.out.symm, Q0.out.trans (hbo.mono Q0.out.size)⟩

end Go.Proofs.Ytpofkfcjnhoamaa
