/-
  The program's lines: are all trains in their places, a copy, and the line that is made of one that came in. For at most 1048576 blocks and as many trains.
-/
import Derived.Test.YtpofkfcjnhoamaaTraf
import Derived.Deep.DeepCutAuto
import Derived.Deep.RegionWith
namespace Go.Proofs.Ytpofkfcjnhoamaa
open Go.RowKit Go.Sort

set_option maxHeartbeats 400000 in
theorem boxPlace (k : Int) (h : -4611686018427387904 ≤ k ∧ k ≤ 4611686018427387903) (w : World) : Calls Try.prog 44 #[.int .i64 k] w fun e w' => e = .returned (.int .i64 (2 * k)) ∧ w = w' := by
  go_enter Try.func44, Try.ntmps44
  go_wp2_with fail
  go_ret
  exact ⟨by go_num, rfl⟩

set_option maxHeartbeats 400000 in
theorem sectionPlace (k : Int) (h : -4611686018427387904 ≤ k ∧ k ≤ 4611686018427387903) (w : World) : Calls Try.prog 47 #[.int .i64 k] w fun e w' => e = .returned (.int .i64 (2 * k + 1)) ∧ w = w' := by
  go_enter Try.func47, Try.ntmps47
  go_wp2_with fail
  go_ret
  exact ⟨by go_num, rfl⟩

set_option maxHeartbeats 400000 in
theorem endPlace {a : Option Addr} {n c : Nat} (h : n ≤ 1048576) (w : World) : Calls Try.prog 90 #[.slice a n c] w fun e w' => e = .returned (.int .i64 (2 * (n : Int))) ∧ w = w' := by
  have B := Lib.hid (boxPlace (n : Int) (by omega))
  go_enter Try.func90, Try.ntmps90
  go_wp2_with (go_at_call 44; refine (B.out _).mono ?_; rintro e w1 ⟨rfl, rfl⟩)
  go_ret
  exact ⟨rfl, rfl⟩

set_option maxHeartbeats 400000 in
theorem sectionsValidL (n : Int) (w : World) : Calls Try.prog 73 #[.int .i64 n] w fun e w' => e = .returned (.bool (decide (1 ≤ n ∧ n ≤ 5))) ∧ w = w' := by
  by_cases h1 : 1 ≤ n
  · by_cases h2 : n ≤ 5
    · rw [decide_eq_true (And.intro h1 h2)]
      go_enter Try.func73, Try.ntmps73
      go_wp2_with fail
      go_ret
      exact ⟨rfl, rfl⟩
    · rw [decide_eq_false (show ¬ (1 ≤ n ∧ n ≤ 5) by omega)]
      have h3 : decide (n ≤ 5) = false := by simpa using h2
      clear h2
      go_enter Try.func73, Try.ntmps73
      go_wp2_with fail
      go_ret
      exact ⟨rfl, rfl⟩
  · rw [decide_eq_false (show ¬ (1 ≤ n ∧ n ≤ 5) by omega)]
    have h3 : decide (1 ≤ n) = false := by simpa using h1
    clear h1
    go_enter Try.func73, Try.ntmps73
    go_wp2_with fail
    go_ret
    exact ⟨rfl, rfl⟩

def limOf (n : Nat) (ts : List Int) (k : Nat) : Int := if k = 0 then 2 * (n : Int) else ts.getD (k - 1) 0
theorem limOf_succ (n : Nat) (ts : List Int) (k : Nat) : limOf n ts (k + 1) = ts.getD k 0 := by
  unfold limOf; rw [if_neg (by omega), Nat.add_sub_cancel]
theorem limOf_le {n : Nat} {ts : List Int} {k : Nat} (h : PlTo n ts k) : limOf n ts k ≤ 2 * (n : Int) := by
  unfold limOf
  split
  · exact Int.le_refl _
  · exact (h (k - 1) (by omega)).2.1
theorem PlTo.next {n : Nat} {ts : List Int} {k : Nat} (h : PlTo n ts k) (h0 : 0 ≤ ts.getD k 0) (h1 : ts.getD k 0 ≤ limOf n ts k) : PlTo n ts (k + 1) :=
  h.succ ⟨h0, Int.le_trans h1 (limOf_le h), fun hk => by unfold limOf at h1; rw [if_neg (by omega)] at h1; exact h1⟩
theorem PlTo.limit {n : Nat} {ts : List Int} {m k : Nat} (h : PlTo n ts m) (hk : k < m) : 0 ≤ ts.getD k 0 ∧ ts.getD k 0 ≤ limOf n ts k := by
  have q := h k hk
  refine ⟨q.1, ?_⟩
  unfold limOf
  split
  · exact q.2.1
  · exact q.2.2 (by omega)
/-- Are the trains in their places? -/
def Placed (bs : List Blk) (ts : List Int) : Prop := PlTo bs.length ts ts.length ∧ ∀ k, k < bs.length → cntAt ts (2 * k + 1) = insN (bs.getD k nb)
noncomputable def placedB (bs : List Blk) (ts : List Int) : Bool := @decide (Placed bs ts) (Classical.propDecidable _)
theorem placedB_yes {bs : List Blk} {ts : List Int} (h : Placed bs ts) : placedB bs ts = true := @decide_eq_true _ (Classical.propDecidable _) h
theorem placedB_no {bs : List Blk} {ts : List Int} (h : ¬ Placed bs ts) : placedB bs ts = false := @decide_eq_false _ (Classical.propDecidable _) h
theorem placedB_is {bs : List Blk} {ts : List Int} (h : placedB bs ts = true) : Placed bs ts := @of_decide_eq_true _ (Classical.propDecidable _) h
theorem lnB_eq (l : Ln) : lnB l = (decide (1 ≤ (l.1.length : Int) ∧ (l.1.length : Int) ≤ 5) && decide ((l.2.length : Int) ≤ 5) && decide (∀ k, k < l.1.length → bkPos (l.1.getD k nb) = true) && placedB l.1 l.2) := by
  cases e : lnB l
  · have h := lnB_not e
    symm
    rw [Bool.eq_false_iff]
    intro q
    simp only [Bool.and_eq_true, decide_eq_true_eq] at q
    obtain ⟨⟨⟨q1, q2⟩, q3⟩, q4⟩ := q
    have q4 := placedB_is q4
    exact h ⟨⟨by omega, by omega⟩, by omega, q4.1, fun k hk => ⟨q3 k hk, q4.2 k hk⟩⟩
  · have h := lnB_is e
    symm
    simp only [Bool.and_eq_true, decide_eq_true_eq]
    exact ⟨⟨⟨⟨by have := h.1; omega, by have := h.1; omega⟩, by have := h.2.1; omega⟩, fun k hk => (h.2.2.2 k hk).1⟩, placedB_yes ⟨h.2.2.1, fun k hk => (h.2.2.2 k hk).2⟩⟩

set_option maxHeartbeats 2000000 in
theorem arePlaced {w : World} {u1 u2 : Value} {bs : List Blk} {ts : List Int} (h1 : Blks w u1 bs) (h2 : Ints w u2 ts) :
    Calls Try.prog 75 #[.agg #[u1, u2]] w fun e w' => e = .returned (.bool (placedB bs ts)) ∧ Below w.heap.size w w' := by
  have k1 := Rd.len h1
  have k2 := h2.len
  obtain ⟨a1, c1, rfl⟩ := Rd.slice h1
  have hh2 := h2
  obtain ⟨a2, c2, rfl, -, hc2⟩ := h2
  have q0 := below_alloc w (.cells #[.slice a1 bs.length c1, .slice a2 ts.length c2] 67)
  have p0 := Pair.new w (.slice a1 bs.length c1) (.slice a2 ts.length c2) 67
  obtain ⟨W, hW⟩ : ∃ X, X = w.alloc (.cells #[.slice a1 bs.length c1, .slice a2 ts.length c2] 67) := ⟨_, rfl⟩
  rw [← hW] at q0 p0
  have HW := Lib.hid hW.symm
  have Q0 := Lib.hid q0
  have P0 := Lib.hid p0
  have e0 := p0.cell0
  have e1 := p0.cell1
  have HC2 := Lib.hid hc2
  have AT := Lib.hid (fun (i : Nat) (hi : i < bs.length) => Blks.at h1 hi)
  have CN := Lib.hid (fun (p : Int) (X : World) (b : Below w.heap.size w X) => countAt (w := X) (u1 := .slice a1 bs.length c1) p (hh2.below b))
  have EN := Lib.hid (endPlace (a := a1) (c := c1) k1)
  have k1' : (bs.length : Int) ≤ 1048576 := by omega
  have k2' : (ts.length : Int) ≤ 1048576 := by omega
  clear hW p0 q0 hc2 hh2 h1
  go_enter Try.func75, Try.ntmps75
  go_wp2_with fail
  rw [HW.out]
  go_wp2_with (go_at_call 90; refine (EN.out _).mono ?_; rintro e w1 ⟨rfl, rfl⟩)
  go_loop [3, 15] (fun m i => ∃ k : Nat, k ≤ ts.length ∧ i = .int .i64 k ∧ m = .int .i64 (limOf bs.length ts k) ∧ Hid (PlTo bs.length ts k)) (fun _ i => ts.length - (intOf i).toNat)
  case atStart => exact ⟨0, by omega, rfl, rfl, Lib.hid (PlTo.zero _ _)⟩
  case round =>
    obtain ⟨k, hk, rfl, rfl, HP⟩ := hrel
    obtain ⟨m, hm⟩ : ∃ m, m = limOf bs.length ts k := ⟨_, rfl⟩
    rw [← hm]
    have M := Lib.hid hm
    clear hm
    by_cases hlt : k < ts.length
    · obtain ⟨b, o, rfl, hb, hcell⟩ : ∃ b o, a2 = some ⟨b, o, none⟩ ∧ b < w.heap.size ∧ ∀ i, i < ts.length → w.cell? ⟨b, o + i, none⟩ = some (.int .i64 (ts.getD i 0)) := by
        rcases HC2.out with rfl | h
        · simp at hlt
        · exact h
      have c0 := (Q0.out.cell (p := ⟨b, o + k, none⟩) hb).trans (hcell k hlt)
      have hki : (k : Int) < (ts.length : Int) := by omega
      obtain ⟨x, hx⟩ : ∃ x, x = ts.getD k 0 := ⟨_, rfl⟩
      rw [← hx] at c0
      have X := Lib.hid hx
      clear hx hcell
      by_cases g0 : 0 ≤ x
      · by_cases g1 : x ≤ m
        · have HP2 := Lib.hid (HP.out.next (by rw [← X.out]; exact g0) (by rw [← X.out, ← M.out]; exact g1))
          have HM := Lib.hid ((limOf_succ bs.length ts k).trans X.out.symm)
          go_wp2_with fail
          go_round
          case rel => exact ⟨k + 1, by omega, by go_num, by rw [HM.out], HP2⟩
          case measure => simp [intOf]; omega
        · have HN := Lib.hid (placedB_no (bs := bs) (ts := ts) fun q => g1 (by have := (q.1.limit hlt).2; rw [X.out, M.out]; exact this))
          go_wp2_with fail
          go_ret
          exact ⟨ret_bool HN.out.symm, Q0.out⟩
      · have HN := Lib.hid (placedB_no (bs := bs) (ts := ts) fun q => g0 (by have := (q.1.limit hlt).1; rw [X.out]; exact this))
        go_wp2_with fail
        go_ret
        exact ⟨ret_bool HN.out.symm, Q0.out⟩
    · obtain rfl : k = ts.length := by omega
      clear hlt hk
      go_wp2_with fail
      go_loopw [31] (fun i wr => ∃ k : Nat, k ≤ bs.length ∧ i = .int .i64 k ∧ Hid (∀ j, j < k → cntAt ts (2 * j + 1) = insN (bs.getD j nb)) ∧ Below W.heap.size W wr) (fun i _ => bs.length - (intOf i).toNat)
      case atStart => exact ⟨0, by omega, rfl, Lib.hid (fun j hj => by omega), Below.refl _ _⟩
      case round =>
        obtain ⟨k, hk, rfl, HK, hbel⟩ := hrel
        by_cases hlt : k < bs.length
        · obtain ⟨b, o, rfl, hb, hcell⟩ := AT.out k hlt
          obtain ⟨e0', e1', e2'⟩ := hcell k hlt
          have hbW : b < W.heap.size := Nat.lt_of_lt_of_le hb Q0.out.size
          have d0 := (hbel.cell (p := ⟨b, o + k * 3, none⟩) hbW).trans ((Q0.out.cell (p := ⟨b, o + k * 3, none⟩) hb).trans e0')
          have d1 : wr.cell? ⟨b, o + k * 3 + 1, none⟩ = _ := (hbel.cell (p := ⟨b, o + k * 3 + 1, none⟩) hbW).trans ((Q0.out.cell (p := ⟨b, o + k * 3 + 1, none⟩) hb).trans e1')
          have d2 : wr.cell? ⟨b, o + k * 3 + 2, none⟩ = _ := (hbel.cell (p := ⟨b, o + k * 3 + 2, none⟩) hbW).trans ((Q0.out.cell (p := ⟨b, o + k * 3 + 2, none⟩) hb).trans e2')
          have hki : (k : Int) < (bs.length : Int) := by omega
          obtain ⟨x, hx⟩ : ∃ x, x = bs.getD k nb := ⟨_, rfl⟩
          rw [← hx] at d0 d1 d2
          have t2 := Tri3.new wr (.int .i64 x.1) (.bool x.2.1) (.bool x.2.2) 33
          have b2 := below_alloc wr (.cells #[.int .i64 x.1, .bool x.2.1, .bool x.2.2] 33)
          obtain ⟨V, hV⟩ : ∃ V, V = wr.alloc (.cells #[.int .i64 x.1, .bool x.2.1, .bool x.2.2] 33) := ⟨_, rfl⟩
          rw [← hV] at t2 b2
          have HV := Lib.hid hV.symm
          have V1 := t2.cell1
          have X := Lib.hid hx
          have cV := hbel.trans (b2.mono hbel.size)
          have pV := P0.out.below cV
          have v0 := pV.cell0
          have v1 := pV.cell1
          have E0 := fun d os => cell_regrown v0 d os
          have E1 := fun d os => cell_regrown v1 d os
          have bV := Q0.out.trans (cV.mono Q0.out.size)
          have CC := Lib.hid (fun d os => Calls.regrown_of (d := d) (os := os) (CN.out (2 * (k : Int) + 1) (grow (redrawn V d) os) (bV.trans ((below_regrown V d os).mono bV.size))))
          have SP := Lib.hid (fun d os => Calls.regrown_of (d := d) (os := os) ((sectionPlace (k : Int) (by omega) (grow (redrawn V d) os)).mono fun _ _ ⟨he, hw⟩ => ⟨he, hw ▸ Below.refl _ _⟩))
          obtain ⟨m, hm⟩ : ∃ m, m = cntAt ts (2 * (k : Int) + 1) := ⟨_, rfl⟩
          rw [← hm] at CC
          have M := Lib.hid hm
          have BV := Lib.hid bV
          have CV := Lib.hid cV
          clear hx hm hV e0' e1' e2' hcell t2 b2 pV cV bV hbel
          obtain ⟨x0, x1, x2⟩ := x
          simp only at d0 d1 d2 HV V1 X
          cases x1
          · by_cases g : m = 0
            · subst g
              have HK2 := Lib.hid (show ∀ j, j < k + 1 → cntAt ts (2 * j + 1) = insN (bs.getD j nb) from fun j hj => by
                by_cases e : j = k
                · subst e; rw [← M.out, ← X.out]; rfl
                · exact HK.out j (by omega))
              go_upto_region 13 with fail
              rw [HV.out]
              go_wp2_with fail
              refine wp_region_quiet_below (by kernel_rfl) (by kernel_rfl) ?_
              repeat (go_big_quiet_step (first | exact SP.out _ _ | exact CC.out _ _))
              refine wpQuiet_nil ?_
              intro _ hw'
              obtain ⟨⟨dq, osq⟩, hw''⟩ := hw'
              subst hw''
              go_wp2_with fail
              go_roundw
              case rel => exact ⟨k + 1, by omega, by go_num, HK2, CV.out.trans ((below_regrown V dq osq).mono CV.out.size)⟩
              case measure => simp [intOf]; omega
            · have g' : decide (m = 0) = false := decide_eq_false g
              have HN := Lib.hid (placedB_no (bs := bs) (ts := ts) fun q => g (by have := q.2 k hlt; rw [← M.out, ← X.out] at this; exact this))
              go_upto_region 13 with fail
              rw [HV.out]
              go_wp2_with fail
              refine wp_region_quiet_below (by kernel_rfl) (by kernel_rfl) ?_
              repeat (go_big_quiet_step (first | exact SP.out _ _ | exact CC.out _ _))
              refine wpQuiet_nil ?_
              intro _ hw'
              obtain ⟨⟨dq, osq⟩, hw''⟩ := hw'
              subst hw''
              go_wp2_with fail
              go_ret
              exact ⟨ret_bool HN.out.symm, BV.out.trans ((below_regrown V dq osq).mono BV.out.size)⟩
          · by_cases g : m = 1
            · subst g
              have HK2 := Lib.hid (show ∀ j, j < k + 1 → cntAt ts (2 * j + 1) = insN (bs.getD j nb) from fun j hj => by
                by_cases e : j = k
                · subst e; rw [← M.out, ← X.out]; rfl
                · exact HK.out j (by omega))
              go_upto_region 13 with fail
              rw [HV.out]
              go_wp2_with fail
              refine wp_region_quiet_below (by kernel_rfl) (by kernel_rfl) ?_
              repeat (go_big_quiet_step (first | exact SP.out _ _ | exact CC.out _ _))
              refine wpQuiet_nil ?_
              intro _ hw'
              obtain ⟨⟨dq, osq⟩, hw''⟩ := hw'
              subst hw''
              go_wp2_with fail
              go_roundw
              case rel => exact ⟨k + 1, by omega, by go_num, HK2, CV.out.trans ((below_regrown V dq osq).mono CV.out.size)⟩
              case measure => simp [intOf]; omega
            · have g' : decide (m = 1) = false := decide_eq_false g
              have HN := Lib.hid (placedB_no (bs := bs) (ts := ts) fun q => g (by have := q.2 k hlt; rw [← M.out, ← X.out] at this; exact this))
              go_upto_region 13 with fail
              rw [HV.out]
              go_wp2_with fail
              refine wp_region_quiet_below (by kernel_rfl) (by kernel_rfl) ?_
              repeat (go_big_quiet_step (first | exact SP.out _ _ | exact CC.out _ _))
              refine wpQuiet_nil ?_
              intro _ hw'
              obtain ⟨⟨dq, osq⟩, hw''⟩ := hw'
              subst hw''
              go_wp2_with fail
              go_ret
              exact ⟨ret_bool HN.out.symm, BV.out.trans ((below_regrown V dq osq).mono BV.out.size)⟩
        · obtain rfl : k = bs.length := by omega
          have HY := Lib.hid (show PlTo bs.length ts ts.length → placedB bs ts = true from fun h => placedB_yes ⟨h, HK.out⟩)
          have HQ := Lib.hid (HY.out HP.out)
          go_wp2_with fail
          go_ret
          exact ⟨ret_bool HQ.out.symm, Q0.out.trans (hbel.mono Q0.out.size)⟩

end Go.Proofs.Ytpofkfcjnhoamaa
