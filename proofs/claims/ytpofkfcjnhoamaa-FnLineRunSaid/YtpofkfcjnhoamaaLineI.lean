/-
  What the program says of a line: is it valid, is it done, how many moves are left, how many trains wait at a box, which train is in a section. For at most 1048576 blocks and as many trains.
-/
import Derived.Test.YtpofkfcjnhoamaaTrafO
namespace Go.Proofs.Ytpofkfcjnhoamaa
open Go.RowKit Go.Sort

theorem ln_small {l : Ln} (h : lnB l = true) : l.1.length ≤ 5 ∧ l.2.length ≤ 5 := ⟨(lnB_is h).1.2, (lnB_is h).2.1⟩
/-- The number of a train, -1 for none. -/
def optI (j : Option Nat) : Int := match j with | some i => i | none => -1
theorem fstI_opt (ts : List Int) (p : Int) : fstI ts p = optI (fst ts p) := by unfold fstI optI; cases fst ts p <;> rfl
/-- What the functions on lines hand back. -/
noncomputable def doneV (l : Ln) : Bool := lnB l && doneB l
noncomputable def leftV (l : Ln) : Int := if lnB l then lnLeft l else -1
noncomputable def waitsV (l : Ln) (k : Int) : Int := if lnB l = true ∧ 0 ≤ k ∧ k ≤ l.1.length then cntAt l.2 (2 * k) else -1
noncomputable def inV (l : Ln) (k : Int) : Option Nat := if lnB l = true ∧ 0 ≤ k ∧ k < l.1.length then fst l.2 (2 * k + 1) else none

set_option maxHeartbeats 2000000 in
theorem implLineValid {w : World} {v : Value} {l : Ln} (h : LineV w v l) : Calls Try.prog 10 #[v] w fun e w' => e = .returned (.bool (lnB l)) ∧ Below w.heap.size w w' := by
  obtain ⟨u1, u2, rfl, h1, h2⟩ := h
  have k1 : (l.1.length : Int) ≤ 1048576 := by have := Rd.len h1; omega
  obtain ⟨a1, c1, rfl⟩ := Rd.slice h1
  have q0 := below_alloc w (.cells #[.slice a1 l.1.length c1, u2] 26)
  have p0 := Pair.new w (.slice a1 l.1.length c1) u2 26
  obtain ⟨W, hW⟩ : ∃ X, X = w.alloc (.cells #[.slice a1 l.1.length c1, u2] 26) := ⟨_, rfl⟩
  rw [← hW] at q0 p0
  have HW := Lib.hid hW.symm
  have Q0 := Lib.hid q0
  have P0 := Lib.hid p0
  have e0 := p0.cell0
  have e1 := p0.cell1
  have TO := Lib.hid (trafficOf (w := W) (v := .agg #[.slice a1 l.1.length c1, u2]) (l := l) ⟨_, _, rfl, Rd.below h1 q0, h2.below q0⟩)
  clear hW p0 q0 h1 h2
  cases hb : lnB l
  · have HB := Lib.hid hb
    rw [hb] at TO
    simp only [Bool.false_eq_true, ↓reduceIte] at TO
    clear hb
    go_enter Try.func10, Try.ntmps10
    go_upto_region 1 with fail
    rw [HW.out]
    go_wp2_with (go_at_call 40; refine TO.out.mono ?_)
    rintro e w1 ⟨v1, rfl, o1, b1⟩
    obtain ⟨x1, x2, rfl, oB, oI, ap⟩ := o1
    obtain ⟨ya, yc, rfl⟩ := Ow.slice oB
    obtain ⟨za, zn, zc, rfl⟩ := own_is_slice oI
    have n0 : noLn.1.length = 0 := rfl
    rw [n0]
    have p1 := Pair.new w1 (.slice ya 0 yc) (.slice za zn zc) 67
    have q1 := chain b1 (below_alloc w1 (.cells #[.slice ya 0 yc, .slice za zn zc] 67))
    obtain ⟨V, hV⟩ : ∃ X, X = w1.alloc (.cells #[.slice ya 0 yc, .slice za zn zc] 67) := ⟨_, rfl⟩
    rw [← hV] at p1 q1
    have HV := Lib.hid hV.symm
    have QV := Lib.hid (Q0.out.trans (q1.mono Q0.out.size))
    have PV := Lib.hid p1
    have g0 := p1.cell0
    have g1 := p1.cell1
    have e0 := (P0.out.below q1).cell0
    clear hV p1 q1 oB oI ap b1 n0
    go_upto_region 2 with fail
    rw [HV.out]
    go_wp2_with fail
    go_ret
    exact ⟨rfl, QV.out⟩

  · have HB := Lib.hid hb
    rw [hb] at TO
    simp only [↓reduceIte] at TO
    have k5 := ln_small hb
    clear hb
    go_enter Try.func10, Try.ntmps10
    go_upto_region 1 with fail
    rw [HW.out]
    go_wp2_with (go_at_call 40; refine TO.out.mono ?_)
    rintro e w1 ⟨v1, rfl, o1, b1⟩
    obtain ⟨x1, x2, rfl, oB, oI, ap⟩ := o1
    obtain ⟨ya, yc, rfl⟩ := Ow.slice oB
    obtain ⟨za, zn, zc, rfl⟩ := own_is_slice oI
    have p1 := Pair.new w1 (.slice ya l.1.length yc) (.slice za zn zc) 67
    have q1' := below_alloc w1 (.cells #[.slice ya l.1.length yc, .slice za zn zc] 67)
    have q1 := chain b1 q1'
    have LV : LineV w1 (.agg #[.slice ya l.1.length yc, .slice za zn zc]) l := ⟨_, _, rfl, Ow.rd oB (by omega), oI.ints (by omega)⟩
    have LV2 := LV.below q1'
    obtain ⟨V, hV⟩ : ∃ X, X = w1.alloc (.cells #[.slice ya l.1.length yc, .slice za zn zc] 67) := ⟨_, rfl⟩
    rw [← hV] at p1 q1 LV2
    have HV := Lib.hid hV.symm
    have QV := Lib.hid (Q0.out.trans (q1.mono Q0.out.size))
    have PV := Lib.hid p1
    have LL := Lib.hid LV2
    have g0 := p1.cell0
    have g1 := p1.cell1
    have e0 := (P0.out.below q1).cell0
    clear hV p1 q1 oB oI ap b1 LV LV2 q1'
    go_upto_region 2 with fail
    rw [HV.out]
    go_wp2_with fail
    go_ret
    exact ⟨rfl, QV.out⟩

set_option maxHeartbeats 2000000 in
theorem implLineLeft {w : World} {v : Value} {l : Ln} (h : LineV w v l) : Calls Try.prog 21 #[v] w fun e w' => e = .returned (.int .i64 (leftV l)) ∧ Below w.heap.size w w' := by
  obtain ⟨u1, u2, rfl, h1, h2⟩ := h
  have k1 : (l.1.length : Int) ≤ 1048576 := by have := Rd.len h1; omega
  obtain ⟨a1, c1, rfl⟩ := Rd.slice h1
  have q0 := below_alloc w (.cells #[.slice a1 l.1.length c1, u2] 26)
  have p0 := Pair.new w (.slice a1 l.1.length c1) u2 26
  obtain ⟨W, hW⟩ : ∃ X, X = w.alloc (.cells #[.slice a1 l.1.length c1, u2] 26) := ⟨_, rfl⟩
  rw [← hW] at q0 p0
  have HW := Lib.hid hW.symm
  have Q0 := Lib.hid q0
  have P0 := Lib.hid p0
  have e0 := p0.cell0
  have e1 := p0.cell1
  have TO := Lib.hid (trafficOf (w := W) (v := .agg #[.slice a1 l.1.length c1, u2]) (l := l) ⟨_, _, rfl, Rd.below h1 q0, h2.below q0⟩)
  clear hW p0 q0 h1 h2
  cases hb : lnB l
  · have HB := Lib.hid hb
    rw [hb] at TO
    simp only [Bool.false_eq_true, ↓reduceIte] at TO
    clear hb
    go_enter Try.func21, Try.ntmps21
    go_upto_region 1 with fail
    rw [HW.out]
    go_wp2_with (go_at_call 40; refine TO.out.mono ?_)
    rintro e w1 ⟨v1, rfl, o1, b1⟩
    obtain ⟨x1, x2, rfl, oB, oI, ap⟩ := o1
    obtain ⟨ya, yc, rfl⟩ := Ow.slice oB
    obtain ⟨za, zn, zc, rfl⟩ := own_is_slice oI
    have n0 : noLn.1.length = 0 := rfl
    rw [n0]
    have p1 := Pair.new w1 (.slice ya 0 yc) (.slice za zn zc) 67
    have q1 := chain b1 (below_alloc w1 (.cells #[.slice ya 0 yc, .slice za zn zc] 67))
    obtain ⟨V, hV⟩ : ∃ X, X = w1.alloc (.cells #[.slice ya 0 yc, .slice za zn zc] 67) := ⟨_, rfl⟩
    rw [← hV] at p1 q1
    have HV := Lib.hid hV.symm
    have QV := Lib.hid (Q0.out.trans (q1.mono Q0.out.size))
    have PV := Lib.hid p1
    have g0 := p1.cell0
    have g1 := p1.cell1
    have e0 := (P0.out.below q1).cell0
    clear hV p1 q1 oB oI ap b1 n0
    go_upto_region 2 with fail
    rw [HV.out]
    go_wp2_with fail
    go_ret
    exact ⟨ret_int (by unfold leftV; rw [HB.out]; rfl), QV.out⟩

  · have HB := Lib.hid hb
    rw [hb] at TO
    simp only [↓reduceIte] at TO
    have k5 := ln_small hb
    clear hb
    go_enter Try.func21, Try.ntmps21
    go_upto_region 1 with fail
    rw [HW.out]
    go_wp2_with (go_at_call 40; refine TO.out.mono ?_)
    rintro e w1 ⟨v1, rfl, o1, b1⟩
    obtain ⟨x1, x2, rfl, oB, oI, ap⟩ := o1
    obtain ⟨ya, yc, rfl⟩ := Ow.slice oB
    obtain ⟨za, zn, zc, rfl⟩ := own_is_slice oI
    have p1 := Pair.new w1 (.slice ya l.1.length yc) (.slice za zn zc) 67
    have q1' := below_alloc w1 (.cells #[.slice ya l.1.length yc, .slice za zn zc] 67)
    have q1 := chain b1 q1'
    have LV : LineV w1 (.agg #[.slice ya l.1.length yc, .slice za zn zc]) l := ⟨_, _, rfl, Ow.rd oB (by omega), oI.ints (by omega)⟩
    have LV2 := LV.below q1'
    obtain ⟨V, hV⟩ : ∃ X, X = w1.alloc (.cells #[.slice ya l.1.length yc, .slice za zn zc] 67) := ⟨_, rfl⟩
    rw [← hV] at p1 q1 LV2
    have HV := Lib.hid hV.symm
    have QV := Lib.hid (Q0.out.trans (q1.mono Q0.out.size))
    have PV := Lib.hid p1
    have LL := Lib.hid LV2
    have g0 := p1.cell0
    have g1 := p1.cell1
    have e0 := (P0.out.below q1).cell0
    clear hV p1 q1 oB oI ap b1 LV LV2 q1'
    go_upto_region 2 with fail
    rw [HV.out]
    have CC := Lib.hid (implLeft LL.out k5.1 k5.2)
    go_wp2_with (go_at_call 52; refine CC.out.mono ?_)
    rintro e w3 ⟨rfl, b3⟩
    have B3 := Lib.hid (QV.out.trans (b3.mono QV.out.size))
    clear b3
    go_wp2_with fail
    go_ret
    exact ⟨ret_int (by unfold leftV; rw [HB.out]; rfl), B3.out⟩

set_option maxHeartbeats 2000000 in
theorem implLineWaits {w : World} {v : Value} {l : Ln} (k : Int) (h : LineV w v l) : Calls Try.prog 12 #[v, .int .i64 k] w fun e w' => e = .returned (.int .i64 (waitsV l k)) ∧ Below w.heap.size w w' := by
  obtain ⟨u1, u2, rfl, h1, h2⟩ := h
  have k1 : (l.1.length : Int) ≤ 1048576 := by have := Rd.len h1; omega
  obtain ⟨a1, c1, rfl⟩ := Rd.slice h1
  have q0 := below_alloc w (.cells #[.slice a1 l.1.length c1, u2] 26)
  have p0 := Pair.new w (.slice a1 l.1.length c1) u2 26
  obtain ⟨W, hW⟩ : ∃ X, X = w.alloc (.cells #[.slice a1 l.1.length c1, u2] 26) := ⟨_, rfl⟩
  rw [← hW] at q0 p0
  have HW := Lib.hid hW.symm
  have Q0 := Lib.hid q0
  have P0 := Lib.hid p0
  have e0 := p0.cell0
  have e1 := p0.cell1
  have TO := Lib.hid (trafficOf (w := W) (v := .agg #[.slice a1 l.1.length c1, u2]) (l := l) ⟨_, _, rfl, Rd.below h1 q0, h2.below q0⟩)
  clear hW p0 q0 h1 h2
  cases hb : lnB l
  · have HB := Lib.hid hb
    rw [hb] at TO
    simp only [Bool.false_eq_true, ↓reduceIte] at TO
    clear hb
    go_enter Try.func12, Try.ntmps12
    go_upto_region 1 with fail
    rw [HW.out]
    go_wp2_with (go_at_call 40; refine TO.out.mono ?_)
    rintro e w1 ⟨v1, rfl, o1, b1⟩
    obtain ⟨x1, x2, rfl, oB, oI, ap⟩ := o1
    obtain ⟨ya, yc, rfl⟩ := Ow.slice oB
    obtain ⟨za, zn, zc, rfl⟩ := own_is_slice oI
    have n0 : noLn.1.length = 0 := rfl
    rw [n0]
    have p1 := Pair.new w1 (.slice ya 0 yc) (.slice za zn zc) 67
    have q1 := chain b1 (below_alloc w1 (.cells #[.slice ya 0 yc, .slice za zn zc] 67))
    obtain ⟨V, hV⟩ : ∃ X, X = w1.alloc (.cells #[.slice ya 0 yc, .slice za zn zc] 67) := ⟨_, rfl⟩
    rw [← hV] at p1 q1
    have HV := Lib.hid hV.symm
    have QV := Lib.hid (Q0.out.trans (q1.mono Q0.out.size))
    have PV := Lib.hid p1
    have g0 := p1.cell0
    have g1 := p1.cell1
    have e0 := (P0.out.below q1).cell0
    clear hV p1 q1 oB oI ap b1 n0
    go_upto_region 2 with fail
    rw [HV.out]
    go_wp2_with fail
    go_ret
    exact ⟨ret_int (by unfold waitsV; rw [if_neg (fun q => by rw [HB.out] at q; cases q.1)]), QV.out⟩

  · have HB := Lib.hid hb
    rw [hb] at TO
    simp only [↓reduceIte] at TO
    have k5 := ln_small hb
    clear hb
    go_enter Try.func12, Try.ntmps12
    go_upto_region 1 with fail
    rw [HW.out]
    go_wp2_with (go_at_call 40; refine TO.out.mono ?_)
    rintro e w1 ⟨v1, rfl, o1, b1⟩
    obtain ⟨x1, x2, rfl, oB, oI, ap⟩ := o1
    obtain ⟨ya, yc, rfl⟩ := Ow.slice oB
    obtain ⟨za, zn, zc, rfl⟩ := own_is_slice oI
    have p1 := Pair.new w1 (.slice ya l.1.length yc) (.slice za zn zc) 67
    have q1' := below_alloc w1 (.cells #[.slice ya l.1.length yc, .slice za zn zc] 67)
    have q1 := chain b1 q1'
    have LV : LineV w1 (.agg #[.slice ya l.1.length yc, .slice za zn zc]) l := ⟨_, _, rfl, Ow.rd oB (by omega), oI.ints (by omega)⟩
    have LV2 := LV.below q1'
    obtain ⟨V, hV⟩ : ∃ X, X = w1.alloc (.cells #[.slice ya l.1.length yc, .slice za zn zc] 67) := ⟨_, rfl⟩
    rw [← hV] at p1 q1 LV2
    have HV := Lib.hid hV.symm
    have QV := Lib.hid (Q0.out.trans (q1.mono Q0.out.size))
    have PV := Lib.hid p1
    have LL := Lib.hid LV2
    have g0 := p1.cell0
    have g1 := p1.cell1
    have e0 := (P0.out.below q1).cell0
    clear hV p1 q1 oB oI ap b1 LV LV2 q1'
    obtain ⟨i1, i2⟩ : Blks V (.slice ya l.1.length yc) l.1 ∧ Ints V (.slice za zn zc) l.2 := by
      obtain ⟨_, _, e, i1, i2⟩ := LL.out
      simp only [Value.agg.injEq, Array.mk.injEq, List.cons.injEq, and_true] at e
      obtain ⟨rfl, rfl⟩ := e
      exact ⟨i1, i2⟩
    have I2 := Lib.hid i2
    clear i1 i2
    by_cases hk0 : 0 ≤ k
    · by_cases hk1 : k ≤ (l.1.length : Int)
      · have EV := Lib.hid (show waitsV l k = cntAt l.2 (2 * k) by unfold waitsV; rw [if_pos ⟨HB.out, hk0, hk1⟩])
        have CN := Lib.hid (fun d os => Calls.regrown_of (d := d) (os := os) (countAt (w := grow (redrawn V d) os) (u1 := .slice ya l.1.length yc) (2 * k) (I2.out.below (below_regrown V d os))))
        have BP := Lib.hid (fun d os => Calls.regrown_of (d := d) (os := os) ((boxPlace k (by omega) (grow (redrawn V d) os)).mono fun _ _ ⟨he, hw⟩ => ⟨he, hw ▸ Below.refl _ _⟩))
        have G0 := fun d os => cell_regrown g0 d os
        have G1 := fun d os => cell_regrown g1 d os
        obtain ⟨m, hm⟩ : ∃ m, m = cntAt l.2 (2 * k) := ⟨_, rfl⟩
        rw [← hm] at CN EV
        clear hm
        go_upto_region 2 with fail
        rw [HV.out]
        go_wp2_with fail
        refine wp_region_quiet_below (by kernel_rfl) (by kernel_rfl) ?_
        repeat (go_big_quiet_step (first | exact CN.out _ _ | exact BP.out _ _))
        refine wpQuiet_nil ?_
        intro _ hw'
        obtain ⟨⟨dq, osq⟩, hw''⟩ := hw'
        subst hw''
        go_wp2_with fail
        go_ret
        exact ⟨ret_int EV.out.symm, QV.out.trans ((below_regrown V dq osq).mono QV.out.size)⟩
      · have EV := Lib.hid (show waitsV l k = -1 by unfold waitsV; rw [if_neg (fun q => hk1 q.2.2)])
        have hk2 : decide ((l.1.length : Int) < k) = true := decide_eq_true (by omega)
        go_upto_region 2 with fail
        rw [HV.out]
        go_wp2_with fail
        go_ret
        exact ⟨ret_int EV.out.symm, QV.out⟩
    · have EV := Lib.hid (show waitsV l k = -1 by unfold waitsV; rw [if_neg (fun q => hk0 q.2.1)])
      have hk2 : decide (k < 0) = true := decide_eq_true (by omega)
      go_upto_region 2 with fail
      rw [HV.out]
      go_wp2_with fail
      go_ret
      exact ⟨ret_int EV.out.symm, QV.out⟩

set_option maxHeartbeats 2000000 in
theorem implLineIn {w : World} {v : Value} {l : Ln} (k : Int) (h : LineV w v l) : Calls Try.prog 13 #[v, .int .i64 k] w fun e w' => e = .returned (.tuple #[.int .i64 (((inV l k).getD 0 : Nat) : Int), .bool (inV l k).isSome]) ∧ Below w.heap.size w w' := by
  obtain ⟨u1, u2, rfl, h1, h2⟩ := h
  have k1 : (l.1.length : Int) ≤ 1048576 := by have := Rd.len h1; omega
  obtain ⟨a1, c1, rfl⟩ := Rd.slice h1
  have q0 := below_alloc w (.cells #[.slice a1 l.1.length c1, u2] 26)
  have p0 := Pair.new w (.slice a1 l.1.length c1) u2 26
  obtain ⟨W, hW⟩ : ∃ X, X = w.alloc (.cells #[.slice a1 l.1.length c1, u2] 26) := ⟨_, rfl⟩
  rw [← hW] at q0 p0
  have HW := Lib.hid hW.symm
  have Q0 := Lib.hid q0
  have P0 := Lib.hid p0
  have e0 := p0.cell0
  have e1 := p0.cell1
  have TO := Lib.hid (trafficOf (w := W) (v := .agg #[.slice a1 l.1.length c1, u2]) (l := l) ⟨_, _, rfl, Rd.below h1 q0, h2.below q0⟩)
  clear hW p0 q0 h1 h2
  cases hb : lnB l
  · have HB := Lib.hid hb
    rw [hb] at TO
    simp only [Bool.false_eq_true, ↓reduceIte] at TO
    clear hb
    go_enter Try.func13, Try.ntmps13
    go_upto_region 1 with fail
    rw [HW.out]
    go_wp2_with (go_at_call 40; refine TO.out.mono ?_)
    rintro e w1 ⟨v1, rfl, o1, b1⟩
    obtain ⟨x1, x2, rfl, oB, oI, ap⟩ := o1
    obtain ⟨ya, yc, rfl⟩ := Ow.slice oB
    obtain ⟨za, zn, zc, rfl⟩ := own_is_slice oI
    have n0 : noLn.1.length = 0 := rfl
    rw [n0]
    have p1 := Pair.new w1 (.slice ya 0 yc) (.slice za zn zc) 67
    have q1 := chain b1 (below_alloc w1 (.cells #[.slice ya 0 yc, .slice za zn zc] 67))
    obtain ⟨V, hV⟩ : ∃ X, X = w1.alloc (.cells #[.slice ya 0 yc, .slice za zn zc] 67) := ⟨_, rfl⟩
    rw [← hV] at p1 q1
    have HV := Lib.hid hV.symm
    have QV := Lib.hid (Q0.out.trans (q1.mono Q0.out.size))
    have PV := Lib.hid p1
    have g0 := p1.cell0
    have g1 := p1.cell1
    have e0 := (P0.out.below q1).cell0
    clear hV p1 q1 oB oI ap b1 n0
    go_upto_region 2 with fail
    rw [HV.out]
    go_wp2_with fail
    go_ret2
    exact ⟨by rw [show inV l k = none by unfold inV; rw [if_neg (fun q => by rw [HB.out] at q; cases q.1)]]; rfl, QV.out⟩

  · have HB := Lib.hid hb
    rw [hb] at TO
    simp only [↓reduceIte] at TO
    have k5 := ln_small hb
    clear hb
    go_enter Try.func13, Try.ntmps13
    go_upto_region 1 with fail
    rw [HW.out]
    go_wp2_with (go_at_call 40; refine TO.out.mono ?_)
    rintro e w1 ⟨v1, rfl, o1, b1⟩
    obtain ⟨x1, x2, rfl, oB, oI, ap⟩ := o1
    obtain ⟨ya, yc, rfl⟩ := Ow.slice oB
    obtain ⟨za, zn, zc, rfl⟩ := own_is_slice oI
    have p1 := Pair.new w1 (.slice ya l.1.length yc) (.slice za zn zc) 67
    have q1' := below_alloc w1 (.cells #[.slice ya l.1.length yc, .slice za zn zc] 67)
    have q1 := chain b1 q1'
    have LV : LineV w1 (.agg #[.slice ya l.1.length yc, .slice za zn zc]) l := ⟨_, _, rfl, Ow.rd oB (by omega), oI.ints (by omega)⟩
    have LV2 := LV.below q1'
    obtain ⟨V, hV⟩ : ∃ X, X = w1.alloc (.cells #[.slice ya l.1.length yc, .slice za zn zc] 67) := ⟨_, rfl⟩
    rw [← hV] at p1 q1 LV2
    have HV := Lib.hid hV.symm
    have QV := Lib.hid (Q0.out.trans (q1.mono Q0.out.size))
    have PV := Lib.hid p1
    have LL := Lib.hid LV2
    have g0 := p1.cell0
    have g1 := p1.cell1
    have e0 := (P0.out.below q1).cell0
    clear hV p1 q1 oB oI ap b1 LV LV2 q1'
    obtain ⟨i1, i2⟩ : Blks V (.slice ya l.1.length yc) l.1 ∧ Ints V (.slice za zn zc) l.2 := by
      obtain ⟨_, _, e, i1, i2⟩ := LL.out
      simp only [Value.agg.injEq, Array.mk.injEq, List.cons.injEq, and_true] at e
      obtain ⟨rfl, rfl⟩ := e
      exact ⟨i1, i2⟩
    have I2 := Lib.hid i2
    clear i1 i2
    have HA := Lib.hid (hasL (a := ya) (n := l.1.length) (c := yc) k)
    by_cases hk : 0 ≤ k ∧ k < (l.1.length : Int)
    · rw [decide_eq_true hk] at HA
      have EV := Lib.hid (show inV l k = fst l.2 (2 * k + 1) by unfold inV; rw [if_pos ⟨HB.out, hk.1, hk.2⟩])
      have hk0 := hk.1
      have hk1 := hk.2
      clear hk
      have IX := Lib.hid (fun d os => Calls.regrown_of (d := d) (os := os) ((indexI (w := grow (redrawn V d) os) (2 * k + 1) (I2.out.below (below_regrown V d os))).mono fun _ _ ⟨he, hw⟩ => ⟨he, hw ▸ Below.refl _ _⟩))
      have SP := Lib.hid (fun d os => Calls.regrown_of (d := d) (os := os) ((sectionPlace k (by omega) (grow (redrawn V d) os)).mono fun _ _ ⟨he, hw⟩ => ⟨he, hw ▸ Below.refl _ _⟩))
      have G1 := fun d os => cell_regrown g1 d os
      obtain ⟨j, hj⟩ : ∃ j, j = fst l.2 (2 * k + 1) := ⟨_, rfl⟩
      have EJ := Lib.hid (show fstI l.2 (2 * k + 1) = optI j by rw [fstI_opt, ← hj])
      rw [← hj] at EV
      rw [EJ.out] at IX
      have JL : ∀ i, j = some i → (i : Int) ≤ 5 := fun i e => by have := (fst_is (hj ▸ e)).1; omega
      clear hj
      cases j with
      | none =>
        simp only [optI] at IX
        clear JL
        go_upto_region 2 with fail
        rw [HV.out]
        go_wp2_with (go_at_call 45; refine (HA.out _).mono ?_; rintro e w3 ⟨rfl, rfl⟩)
        refine wp_region_quiet_below (by kernel_rfl) (by kernel_rfl) ?_
        repeat (go_big_quiet_step (first | exact IX.out _ _ | exact SP.out _ _))
        refine wpQuiet_nil ?_
        intro _ hw'
        obtain ⟨⟨dq, osq⟩, hw''⟩ := hw'
        subst hw''
        go_wp2_with fail
        go_ret2
        exact ⟨by rw [EV.out]; rfl, QV.out.trans ((below_regrown V dq osq).mono QV.out.size)⟩
      | some i =>
        simp only [optI] at IX
        have hi := JL i rfl
        clear JL
        have hd : decide ((0 : Int) ≤ (i : Int)) = true := decide_eq_true (by omega)
        have hmx : max (i : Int) 0 = i := by omega
        go_upto_region 2 with fail
        rw [HV.out]
        go_wp2_with (go_at_call 45; refine (HA.out _).mono ?_; rintro e w3 ⟨rfl, rfl⟩)
        refine wp_region_quiet_below (by kernel_rfl) (by kernel_rfl) ?_
        repeat (go_big_quiet_step (first | exact IX.out _ _ | exact SP.out _ _))
        refine wpQuiet_nil ?_
        intro _ hw'
        obtain ⟨⟨dq, osq⟩, hw''⟩ := hw'
        subst hw''
        go_wp2_with fail
        go_ret2
        exact ⟨by rw [EV.out]; simp, QV.out.trans ((below_regrown V dq osq).mono QV.out.size)⟩
    · rw [decide_eq_false hk] at HA
      have EV := Lib.hid (show inV l k = none by unfold inV; rw [if_neg (fun q => hk q.2)])
      clear hk
      go_upto_region 2 with fail
      rw [HV.out]
      go_wp2_with (go_at_call 45; refine (HA.out _).mono ?_; rintro e w3 ⟨rfl, rfl⟩)
      go_ret2
      exact ⟨by rw [EV.out]; rfl, QV.out⟩

end Go.Proofs.Ytpofkfcjnhoamaa
