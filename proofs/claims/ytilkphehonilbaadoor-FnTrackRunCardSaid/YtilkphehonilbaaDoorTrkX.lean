/-
  The program's isStep: math/bits.TrailingZeros for the table as its initialiser lays it (block 1 in this numbering: 'g' of by-name.py), and the step from track to track.
-/
import Derived.Test.YtilkphehonilbaaDoorTrkF
import Derived.Shelf.Spec.TrailingZeros
import Derived.Deep.DeepCutAuto
namespace Go.Proofs.YtilkphehonilbaaDoor
open Go.RowKit Go.Sort

/-- The table stands in its variable. -/
abbrev TabW (w : World) : Prop := TabAt 1 Lib.deBruijn64tab w
theorem TabW.below {w w' : World} (h : TabW w) (hs : 1 < w.heap.size) (b : Below w.heap.size w w') : TabW w' := fun j hj => (b.cell (p := ⟨1, j, none⟩) hs).trans (h j hj)
theorem TabW.lt {w : World} (h : TabW w) : 1 < w.heap.size := by
  have := h 0 (by decide)
  unfold World.cell? at this
  rcases Nat.lt_or_ge 1 w.heap.size with q | q
  · exact q
  · rw [Array.getElem?_eq_none q] at this
    cases this

set_option maxHeartbeats 1000000 in
theorem tz64_at (x k idx : Nat) (w : World) (hx0 : ((x : Int) == 0) = false)
    (key : IntKind.u64.wrap (bits BinOp.and IntKind.u64 (x : Int) (IntKind.u64.wrap (-(x : Int))) * 285870213051353865) / 288230376151711744 = (idx : Int))
    (hi : idx < 64) (hcell : w.cell? ⟨1, idx, none⟩ = some (.int .u8 k)) (hk : k < 64) :
    Calls Tryd.prog 65 #[.int .u64 x] w fun e w' => e = .returned (.int .i64 k) ∧ w' = w := by
  have hii : (idx : Int) < 64 := by omega
  have hki : (k : Int) < 64 := by omega
  go_enter Tryd.func65, Tryd.ntmps65
  go_wp2_with (simp only [key])
  go_ret
  exact ⟨rfl, rfl⟩
theorem tz64 (x : Nat) (hx : x < 18446744073709551616) (hx0 : x ≠ 0) (w : World) (hT : TabW w) :
    Calls Tryd.prog 65 #[.int .u64 x] w fun e w' => e = .returned (.int .i64 (Lib.ctz 64 x)) ∧ w' = w := by
  obtain ⟨hlow, hk⟩ := Lib.lowest_bit 64 x hx0 hx
  obtain ⟨hi, htab⟩ := Lib.deBruijn64_at _ hk
  have hcell := hT _ hi
  rw [htab] at hcell
  exact tz64_at x _ _ w (by simp; omega) (tz64_key x _ hx hx0 hlow) hi hcell hk

set_option maxHeartbeats 1000000 in
theorem tz (x : Nat) (hx : x < 18446744073709551616) (hx0 : x ≠ 0) (w : World) (hT : TabW w) :
    Calls Tryd.prog 57 #[.int .u64 x] w fun e w' => e = .returned (.int .i64 (Lib.ctz 64 x)) ∧ w' = w := by
  have O := Lib.hid (tz64 x hx hx0 w hT)
  clear hx hx0 hT
  go_enter Tryd.func57, Tryd.ntmps57
  go_wp2_with (go_at_call 65; refine O.out.mono ?_; rintro e w1 ⟨rfl, rfl⟩)
  go_ret
  exact ⟨rfl, rfl⟩

/-! ### A step -/
theorem one_all : ∀ x : Fin 256, pop x.val ≠ 1 ∨ (x.val ≠ 0 ∧ Lib.ctz 64 x.val < 8 ∧ x.val = 2 ^ Lib.ctz 64 x.val) := by decide +kernel
theorem pow_all : ∀ i : Fin 8, pop (2 ^ i.val) = 1 := by decide +kernel
theorem one_bit {x : Nat} (hx : x < 256) (h : pop x = 1) : x ≠ 0 ∧ Lib.ctz 64 x < 8 ∧ x = 2 ^ Lib.ctz 64 x := by
  rcases one_all ⟨x, hx⟩ with q | q
  · exact absurd h q
  · exact q
/-- What the program asks of two tracks of n circuits. -/
theorem step_is {n o p : Nat} (hn : n ≤ 8) (ho : o < 2 ^ n) (hp : p < 2 ^ n) : isSt n o p = (decide (pop (o ^^^ p) = 1) && can n o (Lib.ctz 64 (o ^^^ p))) ∧ (pop (o ^^^ p) = 1 → Lib.ctz 64 (o ^^^ p) < n) := by
  have hx : o ^^^ p < 2 ^ n := Nat.xor_lt_two_pow ho hp
  have hx2 : o ^^^ p < 256 := Nat.lt_of_lt_of_le hx (show 2 ^ n ≤ 2 ^ 8 from Nat.pow_le_pow_right (by omega) hn)
  have hlt : pop (o ^^^ p) = 1 → Lib.ctz 64 (o ^^^ p) < n := by
    intro h
    obtain ⟨_, _, q⟩ := one_bit hx2 h
    rcases Nat.lt_or_ge (Lib.ctz 64 (o ^^^ p)) n with r | r
    · exact r
    · have : 2 ^ n ≤ 2 ^ Lib.ctz 64 (o ^^^ p) := Nat.pow_le_pow_right (by omega) r
      omega
  refine ⟨?_, hlt⟩
  by_cases h : pop (o ^^^ p) = 1
  · rw [decide_eq_true h, Bool.true_and]
    obtain ⟨_, _, q⟩ := one_bit hx2 h
    have e : fl o (Lib.ctz 64 (o ^^^ p)) = p := by
      unfold fl
      rw [← q, ← Nat.xor_assoc, Nat.xor_self, Nat.zero_xor]
    cases hc : can n o (Lib.ctz 64 (o ^^^ p)) with
    | true => exact isSt_of (hlt h) hc e
    | false =>
      cases hs : isSt n o p with
      | false => rfl
      | true =>
        obtain ⟨i, hi, hci, hfi⟩ := isSt_is hs
        have ex : o ^^^ p = 2 ^ i := by
          rw [← hfi]
          unfold fl
          rw [← Nat.xor_assoc, Nat.xor_self, Nat.zero_xor]
        have ei : Lib.ctz 64 (o ^^^ p) = i := by
          have q2 := q.symm.trans ex
          exact (Nat.pow_right_inj (by omega)).1 q2
        rw [ei, hci] at hc
        cases hc
  · rw [decide_eq_false h, Bool.false_and]
    cases hs : isSt n o p with
    | false => rfl
    | true =>
      obtain ⟨i, hi, hci, hfi⟩ := isSt_is hs
      have ex : o ^^^ p = 2 ^ i := by
        rw [← hfi]
        unfold fl
        rw [← Nat.xor_assoc, Nat.xor_self, Nat.zero_xor]
      exact absurd (by rw [ex]; exact pow_all ⟨i, by omega⟩) h

theorem TabW.regrown {w : World} (h : TabW w) (d : Nat) (os : Array Obj) : TabW (grow (redrawn w d) os) := fun j hj => cell_regrown (h j hj) d os
theorem exact_regrown {P : Program} {f : FuncId} {args : Array Value} {w : World} {d : Nat} {os : Array Obj} {v : Value} (h : Calls P f args (grow (redrawn w d) os) fun e w' => e = .returned v ∧ w' = grow (redrawn w d) os) :
    Calls P f args (grow (redrawn w d) os) fun e w'' => e = .returned v ∧ ∃ p : Regrown, w'' = grow (redrawn w p.d) p.os :=
  Calls.regrown_of (h.mono fun _ _ ⟨he, hw⟩ => ⟨he, by rw [hw]; exact Below.refl _ _⟩)

set_option maxHeartbeats 4000000 in
theorem isStep_is (n o m p : Nat) (hn : 1 ≤ n ∧ n ≤ 8) (ho : o < 2 ^ n) (hm : 1 ≤ m ∧ m ≤ 8) (hp : p < 2 ^ m) (w : World) (hT : TabW w) :
    Calls Tryd.prog 50 #[tkc n o, tkc m p] w fun e w' => e = .returned (.bool (decide (n = m) && isSt n o p)) ∧ Below w.heap.size w w' := by
  have ho2 : o < 256 := Nat.lt_of_lt_of_le ho (show 2 ^ n ≤ 2 ^ 8 from Nat.pow_le_pow_right (by omega) hn.2)
  have hp2 : p < 256 := Nat.lt_of_lt_of_le hp (show 2 ^ m ≤ 2 ^ 8 from Nat.pow_le_pow_right (by omega) hm.2)
  have hx2 : o ^^^ p < 256 := Nat.xor_lt_two_pow (n := 8) ho2 hp2
  have hxor := bits_xor_u64_nat o p (by omega) (by omega)
  obtain ⟨W, hW⟩ : ∃ W, W = (w.alloc (.cells #[.int .u64 o, .int .i64 n] 54)).alloc (.cells #[.int .u64 p, .int .i64 m] 54) := ⟨_, rfl⟩
  obtain ⟨p1, p2, q, hs⟩ := two_pair w _ _ _ _ _ _ W hW
  have hTW : TabW W := hT.below hT.lt q
  have HW := Lib.hid hW
  have Q := Lib.hid q
  have k0 := p1.cell0
  have k1 := p1.cell1
  have k2 := p2.cell0
  have k3 := p2.cell1
  have z0 := fun d os => cell_regrown k0 d os
  have z1 := fun d os => cell_regrown k1 d os
  have z3 := fun d os => cell_regrown k3 d os
  have ST := Lib.hid (fun (e : n = m) => step_is (n := n) (o := o) (p := p) hn.2 ho (by rw [e]; exact hp))
  have OB := Lib.hid (fun (h : pop (o ^^^ p) = 1) => one_bit hx2 h)
  have CI := Lib.hid (fun (i : Nat) (hi : i < n) (w : World) => can_is n o i hn ho2 hi w)
  obtain ⟨x, hx⟩ : ∃ x, x = o ^^^ p := ⟨_, rfl⟩
  rw [← hx] at hx2 hxor ST OB
  have o1 := ones x hx2
  have o2 := fun (h : x ≠ 0) (w : World) (hT : TabW w) => tz x (by omega) h w hT
  obtain ⟨c, hc⟩ : ∃ c, c = pop x := ⟨_, rfl⟩
  obtain ⟨i, hi⟩ : ∃ i, i = Lib.ctz 64 x := ⟨_, rfl⟩
  simp only [← hc] at o1 ST OB
  simp only [← hi] at o2 ST OB
  have G1 := Lib.hid (fun (d : Nat) (os : Array Obj) => exact_regrown ((o1 (grow (redrawn W d) os)).mono fun _ _ ⟨a, b⟩ => ⟨a, b.symm⟩))
  have G2 := Lib.hid (fun (h : x ≠ 0) (d : Nat) (os : Array Obj) => exact_regrown (o2 h (grow (redrawn W d) os) (hTW.regrown d os)))
  clear o1 o2 hc hi
  clear hW p1 p2 q hs hx ho2 hp2 ho hp hT hTW
  unfold tkc at *
  go_enter Tryd.func50, Tryd.ntmps50
  go_upto_region 1 with fail
  rw [← HW.out]
  go_upto_region 2 with fail
  by_cases e : n = m
  · have tn : ((n : Int) == (m : Int)) = true := by rw [beq_iff_eq]; omega
    obtain ⟨S1, S2⟩ := ST.out e
    by_cases h : c = 1
    · obtain ⟨x0, x8, -⟩ := OB.out h
      have hin := S2 h
      have E := Lib.hid (show (decide (n = m) && isSt n o p) = can n o i by rw [decide_eq_true e, Bool.true_and, S1, decide_eq_true h, Bool.true_and])
      have G2x := G2.out x0
      have CX := CI.out i hin
      have tp : ((c : Int) == 1) = true := by rw [h]; rfl
      obtain ⟨t, ht⟩ : ∃ t, t = can n o i := ⟨_, rfl⟩
      rw [← ht] at CX E
      have G2x := Lib.hid G2x
      have G3 := Lib.hid (fun (d : Nat) (os : Array Obj) => Calls.regrown_of (CX (grow (redrawn W d) os)))
      clear S1 S2 h x0 x8 hin CX ht OB ST CI G2 e hx2
      refine wp_region_quiet_below (by kernel_rfl) (by kernel_rfl) ?_
      repeat (go_big_quiet_step (first | with_reducible exact G1.out _ _ | with_reducible exact G2x.out _ _ | with_reducible exact G3.out _ _))
      refine wpQuiet_nil ?_
      intro _ hw'
      obtain ⟨⟨dq, osq⟩, hw''⟩ := hw'
      subst hw''
      have B6 := Lib.hid (Q.out.trans ((below_regrown W dq osq).mono Q.out.size))
      clear z0 z1 z3 k0 k1 k2 k3
      go_wp2_with fail
      go_ret
      exact ⟨by rw [E.out]; rfl, B6.out⟩
    · have E := Lib.hid (show (decide (n = m) && isSt n o p) = false by rw [S1, decide_eq_false h, Bool.false_and, Bool.and_false])
      have tp : ((c : Int) == 1) = false := by rw [beq_eq_false_iff_ne]; omega
      clear S1 S2 h OB ST CI G2 e hx2
      refine wp_region_quiet_below (by kernel_rfl) (by kernel_rfl) ?_
      repeat (go_big_quiet_step (with_reducible exact G1.out _ _))
      refine wpQuiet_nil ?_
      intro _ hw'
      obtain ⟨⟨dq, osq⟩, hw''⟩ := hw'
      subst hw''
      have B6 := Lib.hid (Q.out.trans ((below_regrown W dq osq).mono Q.out.size))
      clear z0 z1 z3 k0 k1 k2 k3
      go_wp2_with fail
      go_ret
      exact ⟨by rw [E.out]; rfl, B6.out⟩
  · have tn : ((n : Int) == (m : Int)) = false := by rw [beq_eq_false_iff_ne]; omega
    have E := Lib.hid (show (decide (n = m) && isSt n o p) = false by rw [decide_eq_false e, Bool.false_and])
    clear OB ST CI G2 e G1
    refine wp_region_quiet_below (by kernel_rfl) (by kernel_rfl) ?_
    repeat (go_big_quiet_step (fail))
    refine wpQuiet_nil ?_
    intro _ hw'
    obtain ⟨⟨dq, osq⟩, hw''⟩ := hw'
    subst hw''
    have B6 := Lib.hid (Q.out.trans ((below_regrown W dq osq).mono Q.out.size))
    clear z0 z1 z3 k0 k1 k2 k3
    go_wp2_with fail
    go_ret
    exact ⟨by rw [E.out]; rfl, B6.out⟩

end Go.Proofs.YtilkphehonilbaaDoor
