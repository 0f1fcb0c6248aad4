/-
  How many tokens must be carried: the model's and the program's TokenCarry. For texts of at most 9223372036854775806 bytes, states whose numbers fit.
-/
import Derived.Test.YthjodagbgmpbhaaGreatDoorDirB
import Derived.Test.YthjodagbgmpbhaaGreatDoorTokA
namespace Go.Proofs.YthjodagbgmpbhaaGreatDoor
open Go.RowKit Go.Sort

/-- What TokenCarry hands back. -/
def crOk (t : Tk) (S : ByteArray) : Bool := tkOk t && decide (t.2.2 = 0) && dirB S && decide (ndA S + ndB S ≤ t.1 + t.2.1)
def crV (t : Tk) (S : ByteArray) : Int := if crOk t S then (if t.1 < ndA S then ndA S - t.1 else if t.2.1 < ndB S then t.2.1 - ndB S else 0) else 0
theorem cr_no {t : Tk} {S : ByteArray} (h : crOk t S = false) : crV t S = 0 := by unfold crV; rw [h]; rfl
theorem cr_yes {t : Tk} {S : ByteArray} (h : crOk t S = true) : crV t S = if t.1 < ndA S then ndA S - t.1 else if t.2.1 < ndB S then t.2.1 - ndB S else 0 := by unfold crV; rw [h]; rfl
theorem nd_dir {S : ByteArray} (h : dirB S = true) : ndA S = needA S S.size ∧ ndB S = needB S S.size := by unfold ndA ndB; rw [h]; exact ⟨rfl, rfl⟩
theorem nd_range (S : ByteArray) : (0 ≤ ndA S ∧ ndA S ≤ 30) ∧ (0 ≤ ndB S ∧ ndB S ≤ 30) := by
  cases h : dirB S
  · unfold ndA ndB; rw [h]; simp
  · have h1 := needA_range S S.size
    have h2 := needB_range S S.size
    have h3 := dir_size h
    rw [(nd_dir h).1, (nd_dir h).2]
    omega

set_option maxHeartbeats 2000000 in
theorem specCarry (t : Tk) (S : ByteArray) (hS : S.size ≤ 9223372036854775806) (w : World) :
    Calls Tryz.prog 19 #[tkV t, .string S] w fun e w' => e = .returned (.tuple #[.int .i64 (crV t S), .bool (crOk t S)]) ∧ Below w.heap.size w w' := by
  obtain ⟨a, b, o⟩ := t
  have SP := Lib.hid (specTokenValid (a, b, o))
  have VD := Lib.hid (specDirections S hS)
  unfold tkV at SP ⊢
  have q := below_alloc w (.cells #[.int .i64 a, .int .i64 b, .int .i64 o] 29)
  have t0 := Tri3.new w (.int .i64 a) (.int .i64 b) (.int .i64 o) 29
  obtain ⟨W, hW⟩ : ∃ W, W = w.alloc (.cells #[.int .i64 a, .int .i64 b, .int .i64 o] 29) := ⟨_, rfl⟩
  simp only
  rw [← hW] at q t0
  have HW := Lib.hid hW
  have T0 := Lib.hid t0
  have c0 := t0.cell0
  have c1 := t0.cell1
  have c2 := t0.cell2
  clear hW t0
  obtain ⟨v, hv⟩ : ∃ v, v = tkOk (a, b, o) := ⟨_, rfl⟩
  obtain ⟨d, hd⟩ : ∃ d, d = dirB S := ⟨_, rfl⟩
  rw [← hv] at SP
  rw [← hd] at VD
  by_cases hno : v = false ∨ o ≠ 0 ∨ d = false
  · have N : crOk (a, b, o) S = false := by
      unfold crOk
      rw [← hv, ← hd]
      rcases hno with h | h | h
      · rw [h]; rfl
      · have e : decide ((a, b, o).2.2 = 0) = false := decide_eq_false h
        rw [e, Bool.and_false]; rfl
      · rw [h, Bool.and_false]; rfl
    have E := Lib.hid (And.intro (cr_no N) N)
    clear N hv hd
    cases v
    · clear hno
      go_enter Tryz.func19, Tryz.ntmps19
      go_wp2_with (rw [← HW.out]; go_at_call 37; refine (SP.out _).mono ?_; rintro e w1 ⟨rfl, b1⟩)
      go_ret2
      exact ⟨by rw [E.out.1, E.out.2]; rfl, chain q b1⟩
    · by_cases ho : o = 0
      · subst ho
        have hd0 : d = false := by
          rcases hno with h | h | h
          · cases h
          · exact absurd rfl h
          · exact h
        subst hd0
        clear hno
        go_enter Tryz.func19, Tryz.ntmps19
        go_wp2_with (first
          | (go_at_call 37; rw [← HW.out]; refine (SP.out _).mono ?_; rintro e w1 ⟨rfl, b1⟩; have z2 := (T0.out.below b1).cell2)
          | (go_at_call 31; refine (VD.out _).mono ?_; rintro e w2 ⟨rfl, b2⟩))
        go_ret2
        exact ⟨by rw [E.out.1, E.out.2]; rfl, chain q (chain b1 b2)⟩
      · have ho' : (o != 0) = true := by simp [ho]
        clear hno
        go_enter Tryz.func19, Tryz.ntmps19
        go_wp2_with (go_at_call 37; rw [← HW.out]; refine (SP.out _).mono ?_; rintro e w1 ⟨rfl, b1⟩; have z2 := (T0.out.below b1).cell2)
        go_ret2
        exact ⟨by rw [E.out.1, E.out.2]; rfl, chain q b1⟩
  · have hv1 : v = true := by
      cases v
      · exact absurd (.inl rfl) hno
      · rfl
    have ho1 : o = 0 := Decidable.byContradiction fun h => hno (.inr (.inl h))
    have hd1 : d = true := by
      cases d
      · exact absurd (.inr (.inr rfl)) hno
      · rfl
    subst hv1
    subst hd1
    subst ho1
    clear hno
    have hk := tkOk_of hv.symm
    simp only at hk
    obtain ⟨⟨a0, a12⟩, ⟨b0, b12⟩, -, -⟩ := hk
    have NI := Lib.hid (specNeedsIn S (dir_size hd.symm))
    have nr := nd_range S
    have nd := nd_dir hd.symm
    rw [← nd.1, ← nd.2] at NI
    have CO : crOk (a, b, 0) S = decide (ndA S + ndB S ≤ a + b) := by unfold crOk; rw [← hv, ← hd]; rfl
    have CY := @cr_yes (a, b, 0) S
    have CN := @cr_no (a, b, 0) S
    clear hv hd nd
    obtain ⟨x, hx⟩ : ∃ x, x = ndA S := ⟨_, rfl⟩
    obtain ⟨y, hy⟩ : ∃ y, y = ndB S := ⟨_, rfl⟩
    rw [← hx, ← hy] at NI nr CO CY
    clear hx hy
    simp only at CY
    obtain ⟨⟨x0, x30⟩, y0, y30⟩ := nr
    by_cases h1 : a + b < x + y
    · have e : crOk (a, b, 0) S = false := by rw [CO]; exact decide_eq_false (by omega)
      have E := Lib.hid (And.intro (CN e) e)
      clear CO CY CN e
      go_enter Tryz.func19, Tryz.ntmps19
      go_wp2_with (first
        | (go_at_call 37; rw [← HW.out]; refine (SP.out _).mono ?_; rintro e w1 ⟨rfl, b1⟩; have z2 := (T0.out.below b1).cell2)
        | (go_at_call 31; refine (VD.out _).mono ?_; rintro e w2 ⟨rfl, b2⟩)
        | (go_at_call 34; refine (NI.out _).mono ?_; rintro e w3 ⟨rfl, b3⟩; have u0 := (T0.out.below (chain (chain b1 b2) b3)).cell0; have u1 := (T0.out.below (chain (chain b1 b2) b3)).cell1))
      go_ret2
      exact ⟨by rw [E.out.1, E.out.2]; rfl, chain q (chain (chain b1 b2) b3)⟩
    · have e : crOk (a, b, 0) S = true := by rw [CO]; exact decide_eq_true (by omega)
      have EV := CY e
      have EE := Lib.hid e
      clear CO CY CN e
      by_cases h2 : a < x
      · rw [if_pos h2] at EV
        have E := Lib.hid EV
        clear EV
        go_enter Tryz.func19, Tryz.ntmps19
        go_wp2_with (first
          | (go_at_call 37; rw [← HW.out]; refine (SP.out _).mono ?_; rintro e w1 ⟨rfl, b1⟩; have z2 := (T0.out.below b1).cell2)
          | (go_at_call 31; refine (VD.out _).mono ?_; rintro e w2 ⟨rfl, b2⟩)
          | (go_at_call 34; refine (NI.out _).mono ?_; rintro e w3 ⟨rfl, b3⟩; have u0 := (T0.out.below (chain (chain b1 b2) b3)).cell0; have u1 := (T0.out.below (chain (chain b1 b2) b3)).cell1))
        go_ret2
        exact ⟨by rw [E.out, EE.out]; rfl, chain q (chain (chain b1 b2) b3)⟩
      · rw [if_neg h2] at EV
        by_cases h3 : b < y
        · rw [if_pos h3] at EV
          have E := Lib.hid EV
          clear EV
          go_enter Tryz.func19, Tryz.ntmps19
          go_wp2_with (first
            | (go_at_call 37; rw [← HW.out]; refine (SP.out _).mono ?_; rintro e w1 ⟨rfl, b1⟩; have z2 := (T0.out.below b1).cell2)
            | (go_at_call 31; refine (VD.out _).mono ?_; rintro e w2 ⟨rfl, b2⟩)
            | (go_at_call 34; refine (NI.out _).mono ?_; rintro e w3 ⟨rfl, b3⟩; have u0 := (T0.out.below (chain (chain b1 b2) b3)).cell0; have u1 := (T0.out.below (chain (chain b1 b2) b3)).cell1))
          go_ret2
          exact ⟨by rw [E.out, EE.out]; rfl, chain q (chain (chain b1 b2) b3)⟩
        · rw [if_neg h3] at EV
          have E := Lib.hid EV
          clear EV
          go_enter Tryz.func19, Tryz.ntmps19
          go_wp2_with (first
            | (go_at_call 37; rw [← HW.out]; refine (SP.out _).mono ?_; rintro e w1 ⟨rfl, b1⟩; have z2 := (T0.out.below b1).cell2)
            | (go_at_call 31; refine (VD.out _).mono ?_; rintro e w2 ⟨rfl, b2⟩)
            | (go_at_call 34; refine (NI.out _).mono ?_; rintro e w3 ⟨rfl, b3⟩; have u0 := (T0.out.below (chain (chain b1 b2) b3)).cell0; have u1 := (T0.out.below (chain (chain b1 b2) b3)).cell1))
          go_ret2
          exact ⟨by rw [E.out, EE.out]; rfl, chain q (chain (chain b1 b2) b3)⟩

set_option maxHeartbeats 2000000 in
theorem implCarry (t : Tk) (S : ByteArray) (hF : tkFits t) (hS : S.size ≤ 9223372036854775806) (w : World) :
    Calls Tryz.prog 18 #[tkV t, .string S] w fun e w' => e = .returned (.tuple #[.int .i64 (crV t S), .bool (crOk t S)]) ∧ Below w.heap.size w w' := by
  obtain ⟨a, b, o⟩ := t
  have SP := Lib.hid (implTokenValid (a, b, o) hF)
  have NI := Lib.hid (implNeeds S hS)
  unfold tkV at SP ⊢
  have q := below_alloc w (.cells #[.int .i64 a, .int .i64 b, .int .i64 o] 29)
  have t0 := Tri3.new w (.int .i64 a) (.int .i64 b) (.int .i64 o) 29
  obtain ⟨W, hW⟩ : ∃ W, W = w.alloc (.cells #[.int .i64 a, .int .i64 b, .int .i64 o] 29) := ⟨_, rfl⟩
  simp only
  rw [← hW] at q t0
  have HW := Lib.hid hW
  have T0 := Lib.hid t0
  have c0 := t0.cell0
  have c1 := t0.cell1
  have c2 := t0.cell2
  clear hW t0
  obtain ⟨v, hv⟩ : ∃ v, v = tkOk (a, b, o) := ⟨_, rfl⟩
  obtain ⟨d, hd⟩ : ∃ d, d = dirB S := ⟨_, rfl⟩
  rw [← hv] at SP
  rw [← hd] at NI
  have hxy := nd_range S
  obtain ⟨x, hx⟩ : ∃ x, x = ndA S := ⟨_, rfl⟩
  obtain ⟨y, hy⟩ : ∃ y, y = ndB S := ⟨_, rfl⟩
  rw [← hx, ← hy] at NI hxy
  obtain ⟨⟨x0, x30⟩, y0, y30⟩ := hxy
  cases d
  · have N : crOk (a, b, o) S = false := by unfold crOk; rw [← hd, Bool.and_false]; rfl
    have E := Lib.hid (And.intro (cr_no N) N)
    clear N hv hd hx hy
    go_enter Tryz.func18, Tryz.ntmps18
    go_wp2_with (first | (go_at_call 11; rw [← HW.out]; refine (NI.out _).mono ?_; rintro e w1 ⟨rfl, b1⟩; have u0 := (T0.out.below b1).cell0; have u1 := (T0.out.below b1).cell1; have u2 := (T0.out.below b1).cell2))
    go_ret2
    exact ⟨by rw [E.out.1, E.out.2]; rfl, chain q b1⟩
  cases v
  · have N : crOk (a, b, o) S = false := by unfold crOk; rw [← hv]; rfl
    have E := Lib.hid (And.intro (cr_no N) N)
    clear N hv hd hx hy
    go_enter Tryz.func18, Tryz.ntmps18
    go_wp2_with (first | (go_at_call 11; rw [← HW.out]; refine (NI.out _).mono ?_; rintro e w1 ⟨rfl, b1⟩; have u0 := (T0.out.below b1).cell0; have u1 := (T0.out.below b1).cell1; have u2 := (T0.out.below b1).cell2) | (go_at_call 32; refine (SP.out _).mono ?_; rintro e w2 ⟨rfl, b2⟩; have z0 := (T0.out.below (chain b1 b2)).cell0; have z1 := (T0.out.below (chain b1 b2)).cell1; have z2 := (T0.out.below (chain b1 b2)).cell2))
    go_ret2
    exact ⟨by rw [E.out.1, E.out.2]; rfl, chain q (chain b1 b2)⟩
  by_cases ho : o = 0
  · subst ho
    have hk := tkOk_of hv.symm
    simp only at hk
    obtain ⟨⟨a0, a12⟩, ⟨b0, b12⟩, -, -⟩ := hk
    have CO : crOk (a, b, 0) S = decide (x + y ≤ a + b) := by unfold crOk; rw [← hv, ← hd, hx, hy]; rfl
    have CY := @cr_yes (a, b, 0) S
    have CN := @cr_no (a, b, 0) S
    rw [← hx, ← hy] at CY
    simp only at CY
    clear hv hd hx hy hF
    by_cases h1 : a + b < x + y
    · have e : crOk (a, b, 0) S = false := by rw [CO]; exact decide_eq_false (by omega)
      have E := Lib.hid (And.intro (CN e) e)
      clear CO CY CN e
      go_enter Tryz.func18, Tryz.ntmps18
      go_wp2_with (first | (go_at_call 11; rw [← HW.out]; refine (NI.out _).mono ?_; rintro e w1 ⟨rfl, b1⟩; have u0 := (T0.out.below b1).cell0; have u1 := (T0.out.below b1).cell1; have u2 := (T0.out.below b1).cell2) | (go_at_call 32; refine (SP.out _).mono ?_; rintro e w2 ⟨rfl, b2⟩; have z0 := (T0.out.below (chain b1 b2)).cell0; have z1 := (T0.out.below (chain b1 b2)).cell1; have z2 := (T0.out.below (chain b1 b2)).cell2))
      go_ret2
      exact ⟨by rw [E.out.1, E.out.2]; rfl, chain q (chain b1 b2)⟩
    · have e : crOk (a, b, 0) S = true := by rw [CO]; exact decide_eq_true (by omega)
      have EV := CY e
      have EE := Lib.hid e
      clear CO CY CN e
      by_cases h2 : a < x
      · rw [if_pos h2] at EV
        have E := Lib.hid EV
        clear EV
        go_enter Tryz.func18, Tryz.ntmps18
        go_wp2_with (first | (go_at_call 11; rw [← HW.out]; refine (NI.out _).mono ?_; rintro e w1 ⟨rfl, b1⟩; have u0 := (T0.out.below b1).cell0; have u1 := (T0.out.below b1).cell1; have u2 := (T0.out.below b1).cell2) | (go_at_call 32; refine (SP.out _).mono ?_; rintro e w2 ⟨rfl, b2⟩; have z0 := (T0.out.below (chain b1 b2)).cell0; have z1 := (T0.out.below (chain b1 b2)).cell1; have z2 := (T0.out.below (chain b1 b2)).cell2))
        go_ret2
        exact ⟨by rw [E.out, EE.out]; rfl, chain q (chain b1 b2)⟩
      · rw [if_neg h2] at EV
        have E := Lib.hid (show crV (a, b, 0) S = min 0 (b - y) by rw [EV]; split <;> omega)
        clear EV
        go_enter Tryz.func18, Tryz.ntmps18
        go_wp2_with (first | (go_at_call 11; rw [← HW.out]; refine (NI.out _).mono ?_; rintro e w1 ⟨rfl, b1⟩; have u0 := (T0.out.below b1).cell0; have u1 := (T0.out.below b1).cell1; have u2 := (T0.out.below b1).cell2) | (go_at_call 32; refine (SP.out _).mono ?_; rintro e w2 ⟨rfl, b2⟩; have z0 := (T0.out.below (chain b1 b2)).cell0; have z1 := (T0.out.below (chain b1 b2)).cell1; have z2 := (T0.out.below (chain b1 b2)).cell2))
        go_ret2
        exact ⟨by rw [E.out, EE.out]; rfl, chain q (chain b1 b2)⟩
  · have ho' : (o != 0) = true := by simp [ho]
    have N : crOk (a, b, o) S = false := by
      unfold crOk
      have e : decide ((a, b, o).2.2 = 0) = false := decide_eq_false ho
      rw [e, Bool.and_false]; rfl
    have E := Lib.hid (And.intro (cr_no N) N)
    clear N hv hd hx hy
    go_enter Tryz.func18, Tryz.ntmps18
    go_wp2_with (first | (go_at_call 11; rw [← HW.out]; refine (NI.out _).mono ?_; rintro e w1 ⟨rfl, b1⟩; have u0 := (T0.out.below b1).cell0; have u1 := (T0.out.below b1).cell1; have u2 := (T0.out.below b1).cell2) | (go_at_call 32; refine (SP.out _).mono ?_; rintro e w2 ⟨rfl, b2⟩; have z0 := (T0.out.below (chain b1 b2)).cell0; have z1 := (T0.out.below (chain b1 b2)).cell1; have z2 := (T0.out.below (chain b1 b2)).cell2))
    go_ret2
    exact ⟨by rw [E.out.1, E.out.2]; rfl, chain q (chain b1 b2)⟩

end Go.Proofs.YthjodagbgmpbhaaGreatDoor
