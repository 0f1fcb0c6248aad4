/-
  Is a single line valid: the model's and the program's. For lists of at most 1048576 integers.
-/
import Derived.Test.YtlcmkocbpnekhaaGreatDoorSgL
import Derived.IntWalk
import Derived.Deep.DeepCutAuto
import Derived.Deep.RegionWith
namespace Go.Proofs.YtlcmkocbpnekhaaGreatDoor
open Go.RowKit Go.Sort

theorem isNaN_no (n : Int) (w : World) : Calls Tryz.prog 65 #[.int .i64 n] w fun e w' => e = .returned (.bool false) ∧ w = w' := by
  have t : (n != n) = false := by simp
  go_enter Tryz.func65, Tryz.ntmps65
  go_wp2_with fail
  go_ret
  exact ⟨rfl, rfl⟩

set_option maxHeartbeats 800000 in
theorem cmpLess (a b : Int) (w : World) : Calls Tryz.prog 50 #[.int .i64 a, .int .i64 b] w fun e w' => e = .returned (.bool (decide (a < b))) ∧ w = w' := by
  have NA := Lib.hid (isNaN_no a)
  obtain ⟨t, ht⟩ : ∃ t, t = decide (a < b) := ⟨_, rfl⟩
  cases t
  · have h := of_decide_eq_false ht.symm
    clear ht
    have h2 : decide (a < b) = false := by simpa using h
    clear h
    rw [h2]
    go_enter Tryz.func50, Tryz.ntmps50
    go_wp2_with (go_at_call 65; refine (NA.out _).mono ?_; rintro e w1 ⟨rfl, rfl⟩)
    go_ret
    exact ⟨rfl, rfl⟩
  · have h := of_decide_eq_true ht.symm
    clear ht
    rw [decide_eq_true h]
    go_enter Tryz.func50, Tryz.ntmps50
    go_wp2_with (go_at_call 65; refine (NA.out _).mono ?_; rintro e w1 ⟨rfl, rfl⟩)
    go_ret
    exact ⟨rfl, rfl⟩

/-- As a quiet region asks it. -/
theorem less_quiet (a b : Int) (t : Bool) (h : decide (a < b) = t) (w : World) (d : Nat) (os : Array Obj) :
    Calls Tryz.prog 50 #[.int .i64 a, .int .i64 b] (grow (redrawn w d) os) fun e w'' => e = .returned (.bool t) ∧ ∃ p : Regrown, w'' = grow (redrawn w p.d) p.os :=
  Calls.regrown_of ((cmpLess a b _).mono fun _ _ ⟨he, hw⟩ => ⟨by rw [he, h], hw ▸ Below.refl _ _⟩)

/-- Does no number of a list fall below the one ahead? -/
def srtB (xs : List Int) : Bool := decide (∀ i, i < xs.length - 1 → xs.getD i 0 ≤ xs.getD (i + 1) 0)
theorem srtB_no {xs : List Int} {i : Nat} (hi : i + 1 < xs.length) (h : xs.getD (i + 1) 0 < xs.getD i 0) : srtB xs = false := by
  have nd : ¬ ∀ i, i < xs.length - 1 → xs.getD i 0 ≤ xs.getD (i + 1) 0 := fun q => by have := q i (by omega); omega
  unfold srtB
  exact decide_eq_false nd
theorem srtB_yes {xs : List Int} (h : ∀ i, i + 1 < xs.length → xs.getD i 0 ≤ xs.getD (i + 1) 0) : srtB xs = true := by
  have q : ∀ i, i < xs.length - 1 → xs.getD i 0 ≤ xs.getD (i + 1) 0 := fun i hi => h i (by omega)
  unfold srtB
  exact decide_eq_true q
theorem srtB_of {xs : List Int} (h : srtB xs = true) : ∀ i, i + 1 < xs.length → xs.getD i 0 ≤ xs.getD (i + 1) 0 := by
  have q : ∀ i, i < xs.length - 1 → xs.getD i 0 ≤ xs.getD (i + 1) 0 := of_decide_eq_true h
  exact fun i hi => q i (by omega)

set_option maxHeartbeats 2000000 in
theorem isSorted {w : World} {v : Value} {xs : List Int} (h : Ints w v xs) :
    Calls Tryz.prog 42 #[v] w fun e w' => e = .returned (.bool (srtB xs)) ∧ Below w.heap.size w w' := by
  obtain ⟨a, cap, rfl, hl, hc⟩ := h
  have hl' : (xs.length : Int) ≤ 1048576 := by omega
  rcases Nat.lt_or_ge 1 xs.length with h1 | h1
  · rcases hc with rfl | ⟨b, o, rfl, hb, hcell⟩
    · simp at h1
    have HC := Lib.hid hcell
    have NO := Lib.hid (fun (i : Nat) (hi : i + 1 < xs.length) => srtB_no (xs := xs) hi)
    have YES := Lib.hid (srtB_yes (xs := xs))
    obtain ⟨n, hn⟩ : ∃ n, n = xs.length := ⟨_, rfl⟩
    rw [← hn] at hl' h1 NO YES HC
    rw [← hn]
    have hw0 : IntKind.i64.wrap ((n : Int) - 1) = ((n - 1 : Nat) : Int) := by rw [show ((n : Int)) - 1 = ((n - 1 : Nat) : Int) by omega]; exact IntWalk.i64_in _ (by omega)
    clear hcell hn
    go_enter Tryz.func42, Tryz.ntmps42
    go_wp2_with fail
    go_loopw [3] (fun i wr => ∃ k : Nat, k + 1 ≤ n ∧ i = .int .i64 (k : Int) ∧ Hid (∀ j, k ≤ j → j + 1 < n → xs.getD j 0 ≤ xs.getD (j + 1) 0) ∧ Below w.heap.size w wr) (fun i _ => (intOf i).toNat)
    case atStart => exact ⟨n - 1, by omega, by go_num, Lib.hid (fun j h1 h2 => by omega), Below.refl _ _⟩
    case round =>
      obtain ⟨k, hk, rfl, HS, hbel⟩ := hrel
      cases k with
      | zero =>
        have E := Lib.hid (YES.out (fun j hj => HS.out j (by omega) hj))
        go_wp2_with fail
        go_ret
        exact ⟨ret_bool E.out.symm, hbel⟩
      | succ k =>
        have e1 := (hbel.cell (p := ⟨b, o + (k + 1), none⟩) hb).trans (HC.out (k + 1) (by omega))
        have e2 := (hbel.cell (p := ⟨b, o + k, none⟩) hb).trans (HC.out k (by omega))
        obtain ⟨x, hx⟩ : ∃ x, x = xs.getD (k + 1) 0 := ⟨_, rfl⟩
        obtain ⟨y, hy⟩ : ∃ y, y = xs.getD k 0 := ⟨_, rfl⟩
        rw [← hx] at e1
        rw [← hy] at e2
        have X := Lib.hid hx
        have Y := Lib.hid hy
        obtain ⟨kk, hkk⟩ : ∃ kk : Nat, kk = k + 1 := ⟨_, rfl⟩
        have hw1 : IntKind.i64.wrap ((kk : Int) - 1) = (k : Int) := by rw [hkk, show (((k + 1 : Nat) : Int)) - 1 = (k : Int) by omega]; exact IntWalk.i64_in _ (by omega)
        have hpos : (0 : Int) < (kk : Int) := by omega
        rw [← hkk] at e1 hk HS ⊢
        have HK := Lib.hid hkk
        have hkn : (kk : Int) < (n : Int) := by omega
        have hkn' : (k : Int) < (n : Int) := by omega
        have E1 := fun d os => cell_regrown e1 d os
        have E2 := fun d os => cell_regrown e2 d os
        have hsz : w.heap.size ≤ wr.heap.size := hbel.size
        clear hx hy hkk
        rcases Int.lt_or_le x y with hxy | hxy
        · have LQ := Lib.hid (less_quiet x y true (decide_eq_true hxy) wr)
          have E := Lib.hid (NO.out k (by have := HK.out; omega) (by rw [← X.out, ← Y.out]; exact hxy))
          clear hxy
          go_wp2_with fail
          refine wp_region_quiet_below (by kernel_rfl) (by kernel_rfl) ?_
          repeat (go_big_quiet_step (with_reducible exact LQ.out _ _))
          refine wpQuiet_nil ?_
          intro _ hw'
          obtain ⟨⟨dq, osq⟩, hw''⟩ := hw'
          subst hw''
          have BR := (below_regrown wr dq osq).mono hsz
          go_wp2_with fail
          go_ret
          exact ⟨ret_bool E.out.symm, hbel.trans BR⟩
        · have LQ := Lib.hid (less_quiet x y false (by simpa using hxy) wr)
          have HS2 : ∀ j, k ≤ j → j + 1 < n → xs.getD j 0 ≤ xs.getD (j + 1) 0 := fun j hj hn => by
            by_cases e : j = k
            · subst e; rw [← X.out, ← Y.out]; exact hxy
            · exact HS.out j (by have := HK.out; omega) hn
          have HS2 := Lib.hid HS2
          clear hxy
          go_wp2_with fail
          refine wp_region_quiet_below (by kernel_rfl) (by kernel_rfl) ?_
          repeat (go_big_quiet_step (with_reducible exact LQ.out _ _))
          refine wpQuiet_nil ?_
          intro _ hw'
          obtain ⟨⟨dq, osq⟩, hw''⟩ := hw'
          subst hw''
          have BR := (below_regrown wr dq osq).mono hsz
          go_wp2_with fail
          go_roundw
          case rel => exact ⟨k, by have := HK.out; omega, by go_num, HS2, hbel.trans BR⟩
          case measure => have := HK.out; simp [intOf]; omega
  · have E := Lib.hid (srtB_yes (xs := xs) (fun i hi => by omega))
    have hw0 : ∀ (n : Nat), n ≤ 1 → ¬ ((0 : Int) < IntKind.i64.wrap ((n : Int) - 1)) := fun n hn => by
      rw [IntWalk.i64_in _ (by omega)]; omega
    have hw1 := hw0 xs.length h1
    clear hc hl hw0
    go_enter Tryz.func42, Tryz.ntmps42
    go_wp2_with fail
    refine wp_loop_rounds 1 ?_
    rw [rounds_succ]
    go_wp2_with fail
    go_ret
    exact ⟨ret_bool E.out.symm, Below.refl _ _⟩

/-- A sorted list from 0 to 2000 of at most 6. -/
theorem qB_sorted {xs : List Int} (h6 : xs.length ≤ 6) (hs : srtB xs = true) (h0 : 0 < xs.length) : qB xs = decide (0 ≤ xs.getD 0 0 ∧ xs.getD (xs.length - 1) 0 ≤ 2000) := by
  by_cases h : 0 ≤ xs.getD 0 0 ∧ xs.getD (xs.length - 1) 0 ≤ 2000
  · rw [decide_eq_true h]
    have mono : ∀ (d i : Nat), i + d < xs.length → xs.getD i 0 ≤ xs.getD (i + d) 0 := by
      intro d
      induction d with
      | zero => intro i _; exact Int.le_refl _
      | succ d ih => intro i hi; have h1 := ih i (by omega); have h2 := srtB_of hs (i + d) (by omega); have : i + d + 1 = i + (d + 1) := by omega
                     rw [this] at h2; omega
    refine qB_yes h6 fun i hi => ⟨?_, ?_⟩
    · cases i with
      | zero => rw [prevT_zero]; exact h.1
      | succ i => rw [prevT_succ]; exact srtB_of hs i hi
    · have := mono (xs.length - 1 - i) i (by omega)
      rw [show i + (xs.length - 1 - i) = xs.length - 1 by omega] at this
      have := h.2
      omega
  · rw [decide_eq_false h]
    by_cases h1 : 0 ≤ xs.getD 0 0
    · exact qB_no (i := xs.length - 1) (by omega) (fun q => h ⟨h1, q.2⟩)
    · exact qB_no (i := 0) h0 (fun q => h1 (by have := q.1; rw [prevT_zero] at this; exact this))
theorem qB_unsorted {xs : List Int} (hs : srtB xs = false) : qB xs = false := by
  by_cases h : qB xs = true
  · have := (qB_of h).2
    have : srtB xs = true := srtB_yes fun i hi => by have := (this (i + 1) hi).1; rw [prevT_succ] at this; exact this
    rw [this] at hs; cases hs
  · simpa using h

set_option maxHeartbeats 2000000 in
theorem isQueue {w : World} {v : Value} {xs : List Int} (h : Ints w v xs) :
    Calls Tryz.prog 31 #[v] w fun e w' => e = .returned (.bool (qB xs)) ∧ Below w.heap.size w w' := by
  have SR := Lib.hid (isSorted h)
  obtain ⟨a, cap, rfl, hl, hc⟩ := h
  have hl' : (xs.length : Int) ≤ 1048576 := by omega
  rcases Nat.lt_or_ge 6 xs.length with h6 | h6
  · have t6 : decide ((6 : Int) < (xs.length : Int)) = true := decide_eq_true (by omega)
    have E := Lib.hid (qB_long (xs := xs) (by omega))
    clear h6 hc
    go_enter Tryz.func31, Tryz.ntmps31
    go_wp2_with fail
    go_ret
    exact ⟨ret_bool E.out.symm, Below.refl _ _⟩
  have t6 : decide ((6 : Int) < (xs.length : Int)) = false := decide_eq_false (by omega)
  obtain ⟨t, ht⟩ : ∃ t, t = srtB xs := ⟨_, rfl⟩
  rw [← ht] at SR
  cases t
  · have E := Lib.hid (qB_unsorted ht.symm)
    clear h6 hc ht
    go_enter Tryz.func31, Tryz.ntmps31
    go_wp2_with (go_at_call 42; refine SR.out.mono ?_; rintro e w1 ⟨rfl, b1⟩)
    go_ret
    exact ⟨ret_bool E.out.symm, b1⟩
  rcases Nat.eq_zero_or_pos xs.length with h0 | h0
  · have E := Lib.hid (show qB xs = true from qB_yes h6 (fun i hi => by omega))
    have t0 : ((xs.length : Int) == 0) = true := by simp; exact List.eq_nil_of_length_eq_zero h0
    clear h6 hc ht h0
    go_enter Tryz.func31, Tryz.ntmps31
    go_wp2_with (go_at_call 42; refine SR.out.mono ?_; rintro e w1 ⟨rfl, b1⟩)
    go_ret
    exact ⟨ret_bool E.out.symm, b1⟩
  rcases hc with rfl | ⟨b, o, rfl, hb, hcell⟩
  · simp at h0
  have EQ := qB_sorted h6 ht.symm h0
  have c0 := hcell 0 h0
  have c1 := hcell (xs.length - 1) (by omega)
  obtain ⟨x, hx⟩ : ∃ x, x = xs.getD 0 0 := ⟨_, rfl⟩
  obtain ⟨y, hy⟩ : ∃ y, y = xs.getD (xs.length - 1) 0 := ⟨_, rfl⟩
  rw [← hx] at c0 EQ
  rw [← hy] at c1 EQ
  have t0 : ((xs.length : Int) == 0) = false := by simp; intro q; rw [q] at h0; simp at h0
  obtain ⟨n, hn⟩ : ∃ n, n = xs.length - 1 := ⟨_, rfl⟩
  rw [← hn] at c1
  have hw1 : IntKind.i64.wrap ((xs.length : Int) - 1) = (n : Int) := by rw [show ((xs.length : Int)) - 1 = (n : Int) by omega]; exact IntWalk.i64_in _ (by omega)
  have hw2 : wrap64 ((xs.length : Int) - 1) = (n : Int) := by rw [show ((xs.length : Int)) - 1 = (n : Int) by omega]; exact IntWalk.wrap64_in _ (by omega)
  have i0 : (0 : Int) < (xs.length : Int) := by omega
  have i1 : (n : Int) < (xs.length : Int) := by omega
  have C0 := Lib.hid (fun (w1 : World) (b1 : Below w.heap.size w w1) => show w1.cell? ⟨b, o, none⟩ = some (.int .i64 x) from (b1.cell (p := ⟨b, o + 0, none⟩) hb).trans c0)
  have C1 := Lib.hid (fun (w1 : World) (b1 : Below w.heap.size w w1) => (b1.cell (p := ⟨b, o + n, none⟩) hb).trans c1)
  obtain ⟨r, hr⟩ : ∃ r, r = qB xs := ⟨_, rfl⟩
  rw [← hr] at EQ
  rw [← hr]
  clear hcell c0 c1 hx hy h6 ht h0 hn hr
  go_enter Tryz.func31, Tryz.ntmps31
  rcases Int.lt_or_le x 0 with hx0 | hx0
  · have E := Lib.hid (show r = false by rw [EQ]; exact decide_eq_false (by omega))
    have tx : decide (0 ≤ x) = false := decide_eq_false (by omega)
    clear hx0 EQ
    go_wp2_with (go_at_call 42; refine SR.out.mono ?_; rintro e w1 ⟨rfl, b1⟩; have d0 := C0.out _ b1; have d1 := C1.out _ b1)
    go_ret
    exact ⟨ret_bool E.out.symm, b1⟩
  · have tx : decide (0 ≤ x) = true := decide_eq_true hx0
    have E := Lib.hid (show decide (y ≤ 2000) = r by rw [EQ]; exact decide_eq_decide.2 ⟨fun q => ⟨hx0, q⟩, fun q => q.2⟩)
    clear EQ
    go_wp2_with (go_at_call 42; refine SR.out.mono ?_; rintro e w1 ⟨rfl, b1⟩; have d0 := C0.out _ b1; have d1 := C1.out _ b1)
    go_ret
    exact ⟨ret_bool E.out, b1⟩

theorem runValid_is (n : Int) (w : World) : Calls Tryz.prog 32 #[.int .i64 n] w fun e w' => e = .returned (.bool (decide (1 ≤ n ∧ n ≤ 100))) ∧ w = w' := by
  by_cases h1 : 1 ≤ n
  · by_cases h2 : n ≤ 100
    · rw [decide_eq_true ⟨h1, h2⟩]
      go_enter Tryz.func32, Tryz.ntmps32
      go_wp2_with fail
      go_ret
      exact ⟨rfl, rfl⟩
    · rw [decide_eq_false (fun q => h2 q.2)]
      have t2 : decide (n ≤ 100) = false := by simpa using h2
      clear h2
      go_enter Tryz.func32, Tryz.ntmps32
      go_wp2_with fail
      go_ret
      exact ⟨rfl, rfl⟩
  · rw [decide_eq_false (fun q => h1 q.1)]
    have t2 : decide (1 ≤ n) = false := by simpa using h1
    clear h1
    go_enter Tryz.func32, Tryz.ntmps32
    go_wp2_with fail
    go_ret
    exact ⟨rfl, rfl⟩

theorem sgB_four (s : Sg) : sgB s = (qB s.A && (qB s.B && (decide (1 ≤ s.run ∧ s.run ≤ 100) && (decide (1 ≤ s.head) && decide (s.head ≤ s.run))))) := by
  unfold sgB
  simp only [Bool.decide_and, Bool.and_assoc]

set_option maxHeartbeats 4000000 in
theorem implSingle {w : World} {v : Value} {s : Sg} (h : SgV w v s) :
    Calls Tryz.prog 13 #[v] w fun e w' => e = .returned (.bool (sgB s)) ∧ Below w.heap.size w w' := by
  have FO := sgB_four s
  obtain ⟨a, n, c, a', n', c', rfl, i1, i2⟩ := h.form
  obtain ⟨xs, ys, r, hd⟩ := s
  simp only at i1 i2 FO ⊢
  have ea := below_alloc w (.cells #[.slice a n c, .slice a' n' c', .int .i64 r, .int .i64 hd] 25)
  have pa := Quad.new w (.slice a n c) (.slice a' n' c') (.int .i64 r) (.int .i64 hd) 25
  obtain ⟨W, hW⟩ : ∃ W, W = w.alloc (.cells #[.slice a n c, .slice a' n' c', .int .i64 r, .int .i64 hd] 25) := ⟨_, rfl⟩
  rw [← hW] at ea pa
  have Q1 := Lib.hid (fun (w1 : World) (b1 : Below W.heap.size W w1) => isQueue ((i1.below ea).below b1))
  have Q2 := Lib.hid (fun (w1 : World) (b1 : Below W.heap.size W w1) => isQueue ((i2.below ea).below b1))
  have RV := Lib.hid (runValid_is r)
  have CE := Lib.hid (fun (w1 : World) (b1 : Below W.heap.size W w1) => (pa.below b1))
  have HW := Lib.hid hW.symm
  have EA := Lib.hid ea
  obtain ⟨res, hres⟩ : ∃ res, res = sgB ⟨xs, ys, r, hd⟩ := ⟨_, rfl⟩
  rw [← hres] at FO
  rw [← hres]
  obtain ⟨t1, ht1⟩ : ∃ t, t = qB xs := ⟨_, rfl⟩
  obtain ⟨t2, ht2⟩ : ∃ t, t = qB ys := ⟨_, rfl⟩
  obtain ⟨t3, ht3⟩ : ∃ t, t = decide (1 ≤ r ∧ r ≤ 100) := ⟨_, rfl⟩
  obtain ⟨t4, ht4⟩ : ∃ t, t = decide (1 ≤ hd) := ⟨_, rfl⟩
  obtain ⟨t5, ht5⟩ : ∃ t, t = decide (hd ≤ r) := ⟨_, rfl⟩
  rw [← ht1, ← ht2, ← ht3, ← ht4, ← ht5] at FO
  rw [← ht1] at Q1
  rw [← ht2] at Q2
  rw [← ht3] at RV
  have T4 := ht4.symm
  have T5 := ht5.symm
  have FO := Lib.hid FO
  have p0 := pa.cell0
  clear ht1 ht2 ht3 ht4 ht5 hres i1 i2 ea pa h hW
  go_enter Tryz.func13, Tryz.ntmps13
  go_upto_region 1 with fail
  rw [HW.out]
  cases t1
  · have E := Lib.hid (show res = false by rw [FO.out]; simp)
    go_wp2_with (go_at_call_of 31 (Value.slice a n c); refine (Q1.out _ (Below.refl _ _)).mono ?_; rintro e w1 ⟨rfl, b1⟩)
    go_ret
    exact ⟨ret_bool E.out.symm, EA.out.trans (b1.mono EA.out.size)⟩
  cases t2
  · have E := Lib.hid (show res = false by rw [FO.out]; simp)
    go_wp2_with (first
      | (go_at_call_of 31 (Value.slice a n c); refine (Q1.out _ (Below.refl _ _)).mono ?_; rintro e w1 ⟨rfl, b1⟩; have c1 := (CE.out _ b1).cell1)
      | (go_at_call_of 31 (Value.slice a' n' c'); refine (Q2.out _ b1).mono ?_; rintro e w2 ⟨rfl, b2⟩; have B2 := b1.trans (b2.mono b1.size)))
    go_ret
    exact ⟨ret_bool E.out.symm, EA.out.trans (B2.mono EA.out.size)⟩
  cases t3
  · have E := Lib.hid (show res = false by rw [FO.out]; simp)
    go_wp2_with (first
      | (go_at_call_of 31 (Value.slice a n c); refine (Q1.out _ (Below.refl _ _)).mono ?_; rintro e w1 ⟨rfl, b1⟩; have c1 := (CE.out _ b1).cell1)
      | (go_at_call_of 31 (Value.slice a' n' c'); refine (Q2.out _ b1).mono ?_; rintro e w2 ⟨rfl, b2⟩; have B2 := b1.trans (b2.mono b1.size); have c2 := (CE.out _ B2).cell2; have c3 := (CE.out _ B2).cell3)
      | (go_at_call 32; refine (RV.out _).mono ?_; rintro e w3 ⟨rfl, rfl⟩))
    go_ret
    exact ⟨ret_bool E.out.symm, EA.out.trans (B2.mono EA.out.size)⟩
  have E := Lib.hid (show (t4 && t5) = res by rw [FO.out]; simp)
  cases t4
  · go_wp2_with (first
      | (go_at_call_of 31 (Value.slice a n c); refine (Q1.out _ (Below.refl _ _)).mono ?_; rintro e w1 ⟨rfl, b1⟩; have c1 := (CE.out _ b1).cell1)
      | (go_at_call_of 31 (Value.slice a' n' c'); refine (Q2.out _ b1).mono ?_; rintro e w2 ⟨rfl, b2⟩; have B2 := b1.trans (b2.mono b1.size); have c2 := (CE.out _ B2).cell2; have c3 := (CE.out _ B2).cell3)
      | (go_at_call 32; refine (RV.out _).mono ?_; rintro e w3 ⟨rfl, rfl⟩))
    go_ret
    exact ⟨ret_bool E.out, EA.out.trans (B2.mono EA.out.size)⟩
  · go_wp2_with (first
      | (go_at_call_of 31 (Value.slice a n c); refine (Q1.out _ (Below.refl _ _)).mono ?_; rintro e w1 ⟨rfl, b1⟩; have c1 := (CE.out _ b1).cell1)
      | (go_at_call_of 31 (Value.slice a' n' c'); refine (Q2.out _ b1).mono ?_; rintro e w2 ⟨rfl, b2⟩; have B2 := b1.trans (b2.mono b1.size); have c2 := (CE.out _ B2).cell2; have c3 := (CE.out _ B2).cell3)
      | (go_at_call 32; refine (RV.out _).mono ?_; rintro e w3 ⟨rfl, rfl⟩))
    go_ret
    exact ⟨ret_bool E.out, EA.out.trans (B2.mono EA.out.size)⟩

set_option maxHeartbeats 2000000 in
theorem specReady {w : World} {v : Value} {xs : List Int} (h : Ints w v xs) :
    Calls Tryz.prog 35 #[v] w fun e w' => e = .returned (.bool (qB xs)) ∧ Below w.heap.size w w' := by
  obtain ⟨a, cap, rfl, hl, hc⟩ := h
  have hl' : (xs.length : Int) ≤ 1048576 := by omega
  have LEN := Lib.hid (show ∀ (h : RiseT xs xs.length), decide ((xs.length : Int) ≤ 6) = qB xs from fun h => by
    rcases Nat.lt_or_ge 6 xs.length with q | q
    · rw [qB_long (by omega)]; exact decide_eq_false (by omega)
    · rw [qB_yes q h]; exact decide_eq_true (by omega))
  have NO := Lib.hid (fun (i : Nat) (hi : i < xs.length) => qB_no (xs := xs) hi)
  rcases hc with rfl | ⟨b, o, rfl, hb, hcell⟩
  · have E := Lib.hid (show qB ([] : List Int) = true by decide)
    clear LEN NO
    go_enter Tryz.func35, Tryz.ntmps35
    go_wp2_with fail
    refine wp_loop_rounds 1 ?_
    rw [rounds_succ]
    go_wp2_with fail
    go_ret
    exact ⟨ret_bool E.out.symm, Below.refl _ _⟩
  have HC := Lib.hid hcell
  clear hcell hl
  go_enter Tryz.func35, Tryz.ntmps35
  go_wp2_with fail
  go_loopw [3, 4] (fun l i wr => ∃ k : Nat, k ≤ xs.length ∧ i = .int .i64 (k : Int) ∧ l = .int .i64 (prevT xs k) ∧ Hid (RiseT xs k) ∧ Below w.heap.size w wr) (fun _ i _ => xs.length - (intOf i).toNat)
  case atStart => exact ⟨0, by omega, rfl, rfl, Lib.hid (fun j h1 => by omega), Below.refl _ _⟩
  case round =>
    obtain ⟨k, hk, rfl, rfl, HS, hbel⟩ := hrel
    by_cases hlt : k < xs.length
    · have e1 := (hbel.cell (p := ⟨b, o + k, none⟩) hb).trans (HC.out k hlt)
      have NK := NO.out k hlt
      have PS := prevT_succ xs k
      obtain ⟨x, hx⟩ : ∃ x, x = xs.getD k 0 := ⟨_, rfl⟩
      obtain ⟨y, hy⟩ : ∃ y, y = prevT xs k := ⟨_, rfl⟩
      rw [← hx] at e1 PS
      rw [← hx, ← hy] at NK
      rw [← hy]
      have X := Lib.hid hx
      have Y := Lib.hid hy
      have hkx : (k : Int) < (xs.length : Int) := by omega
      have PS := Lib.hid PS
      clear hx hy
      by_cases hq : y ≤ x ∧ x ≤ 2000
      · have IL := Lib.hid (show Calls Tryz.prog 36 #[.int .i64 x, .int .i64 y, .int .i64 2000] wr fun e w' => e = .returned (.bool true) ∧ wr = w' from by
          have q := in_is x y 2000 wr
          rw [decide_eq_true hq] at q
          exact q)
        have HS2 := Lib.hid (HS.out.succ (by rw [← X.out, ← Y.out]; exact hq))
        clear NK hq
        go_wp2_with (go_at_call 36; refine IL.out.mono ?_; rintro e w1 ⟨rfl, rfl⟩)
        go_roundw
        case rel => exact ⟨k + 1, by omega, by go_num, by rw [PS.out], HS2, hbel⟩
        case measure => simp [intOf]; omega
      · have IL := Lib.hid (show Calls Tryz.prog 36 #[.int .i64 x, .int .i64 y, .int .i64 2000] wr fun e w' => e = .returned (.bool false) ∧ wr = w' from by
          have q := in_is x y 2000 wr
          rw [decide_eq_false hq] at q
          exact q)
        have E := Lib.hid (NK hq)
        clear NK hq
        go_wp2_with (go_at_call 36; refine IL.out.mono ?_; rintro e w1 ⟨rfl, rfl⟩)
        go_ret
        exact ⟨ret_bool E.out.symm, hbel⟩
    · obtain rfl : k = xs.length := by omega
      have E := Lib.hid (LEN.out HS.out)
      go_wp2_with fail
      go_ret
      exact ⟨ret_bool E.out, hbel⟩

theorem sgB_three (s : Sg) : sgB s = (qB s.A && (qB s.B && (decide (1 ≤ s.run ∧ s.run ≤ 100) && decide (1 ≤ s.head ∧ s.head ≤ s.run)))) := by
  unfold sgB
  simp only [Bool.and_assoc]

set_option maxHeartbeats 4000000 in
theorem specSingle {w : World} {v : Value} {s : Sg} (h : SgV w v s) :
    Calls Tryz.prog 17 #[v] w fun e w' => e = .returned (.bool (sgB s)) ∧ Below w.heap.size w w' := by
  have FO := sgB_three s
  obtain ⟨a, n, c, a', n', c', rfl, i1, i2⟩ := h.form
  obtain ⟨xs, ys, r, hd⟩ := s
  simp only at i1 i2 FO ⊢
  have ea := below_alloc w (.cells #[.slice a n c, .slice a' n' c', .int .i64 r, .int .i64 hd] 25)
  have pa := Quad.new w (.slice a n c) (.slice a' n' c') (.int .i64 r) (.int .i64 hd) 25
  obtain ⟨W, hW⟩ : ∃ W, W = w.alloc (.cells #[.slice a n c, .slice a' n' c', .int .i64 r, .int .i64 hd] 25) := ⟨_, rfl⟩
  rw [← hW] at ea pa
  have Q1 := Lib.hid (fun (w1 : World) (b1 : Below W.heap.size W w1) => specReady ((i1.below ea).below b1))
  have Q2 := Lib.hid (fun (w1 : World) (b1 : Below W.heap.size W w1) => specReady ((i2.below ea).below b1))
  have RV := Lib.hid (in_is r 1 100)
  have RH := Lib.hid (in_is hd 1 r)
  have CE := Lib.hid (fun (w1 : World) (b1 : Below W.heap.size W w1) => (pa.below b1))
  have HW := Lib.hid hW.symm
  have EA := Lib.hid ea
  obtain ⟨res, hres⟩ : ∃ res, res = sgB ⟨xs, ys, r, hd⟩ := ⟨_, rfl⟩
  rw [← hres] at FO
  rw [← hres]
  obtain ⟨t1, ht1⟩ : ∃ t, t = qB xs := ⟨_, rfl⟩
  obtain ⟨t2, ht2⟩ : ∃ t, t = qB ys := ⟨_, rfl⟩
  obtain ⟨t3, ht3⟩ : ∃ t, t = decide (1 ≤ r ∧ r ≤ 100) := ⟨_, rfl⟩
  obtain ⟨t4, ht4⟩ : ∃ t, t = decide (1 ≤ hd ∧ hd ≤ r) := ⟨_, rfl⟩
  rw [← ht1, ← ht2, ← ht3, ← ht4] at FO
  rw [← ht1] at Q1
  rw [← ht2] at Q2
  rw [← ht3] at RV
  rw [← ht4] at RH
  have FO := Lib.hid FO
  have p0 := pa.cell0
  clear ht1 ht2 ht3 ht4 hres i1 i2 ea pa h hW
  go_enter Tryz.func17, Tryz.ntmps17
  go_upto_region 1 with fail
  rw [HW.out]
  cases t1
  · have E := Lib.hid (show res = false by rw [FO.out]; simp)
    go_wp2_with (go_at_call_of 35 (Value.slice a n c); refine (Q1.out _ (Below.refl _ _)).mono ?_; rintro e w1 ⟨rfl, b1⟩)
    go_ret
    exact ⟨ret_bool E.out.symm, EA.out.trans (b1.mono EA.out.size)⟩
  cases t2
  · have E := Lib.hid (show res = false by rw [FO.out]; simp)
    go_wp2_with (first
      | (go_at_call_of 35 (Value.slice a n c); refine (Q1.out _ (Below.refl _ _)).mono ?_; rintro e w1 ⟨rfl, b1⟩; have c1 := (CE.out _ b1).cell1)
      | (go_at_call_of 35 (Value.slice a' n' c'); refine (Q2.out _ b1).mono ?_; rintro e w2 ⟨rfl, b2⟩; have B2 := b1.trans (b2.mono b1.size)))
    go_ret
    exact ⟨ret_bool E.out.symm, EA.out.trans (B2.mono EA.out.size)⟩
  have E := Lib.hid (show (t3 && t4) = res by rw [FO.out]; simp)
  cases t3
  all_goals
    go_wp2_with (first
      | (go_at_call_of 35 (Value.slice a n c); refine (Q1.out _ (Below.refl _ _)).mono ?_; rintro e w1 ⟨rfl, b1⟩; have c1 := (CE.out _ b1).cell1)
      | (go_at_call_of 35 (Value.slice a' n' c'); refine (Q2.out _ b1).mono ?_; rintro e w2 ⟨rfl, b2⟩; have B2 := b1.trans (b2.mono b1.size); have c2 := (CE.out _ B2).cell2; have c3 := (CE.out _ B2).cell3)
      | (go_at_call_of 36 (Value.int .i64 hd); refine (RH.out _).mono ?_; rintro e w3 ⟨rfl, rfl⟩)
      | (go_at_call_of 36 (Value.int .i64 r); refine (RV.out _).mono ?_; rintro e w3 ⟨rfl, rfl⟩))
    go_ret
    exact ⟨ret_bool E.out, EA.out.trans (B2.mono EA.out.size)⟩

end Go.Proofs.YtlcmkocbpnekhaaGreatDoor
