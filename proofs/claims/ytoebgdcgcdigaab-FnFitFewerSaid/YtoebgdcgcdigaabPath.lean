/-
  A path in memory; what the model's and the program's PathValid return. No condition but lengths of at most 1048576.
-/
import Derived.Test.YtoebgdcgcdigaabPathP
import Derived.Test.YtoebgdcgcdigaabIn
namespace Go.Proofs.Ytoebgdcgcdigaab
open Go.RowKit Go.Sort

theorem ret_val {k : IntKind} {a b : Int} (h : a = b) : Value.int k a = .int k b := by rw [h]

/-- The value v can be read in w as the path p. -/
def PathV (w : World) (v : Value) (p : List Int × List Int) : Prop := ∃ u1 u2, v = .agg #[u1, u2] ∧ Ints w u1 p.1 ∧ Ints w u2 p.2
theorem PathV.below {w w' : World} {v : Value} {p : List Int × List Int} (h : PathV w v p) (hb : Below w.heap.size w w') : PathV w' v p := by
  obtain ⟨u1, u2, rfl, h1, h2⟩ := h
  exact ⟨u1, u2, rfl, h1.below hb, h2.below hb⟩
/-- At the cells o and o + 1 of the block b lies the path p. -/
def PathAt (w : World) (b o : Nat) (p : List Int × List Int) : Prop :=
  ∃ u1 u2, w.cell? ⟨b, o, none⟩ = some u1 ∧ w.cell? ⟨b, o + 1, none⟩ = some u2 ∧ b < w.heap.size ∧ Ints w u1 p.1 ∧ Ints w u2 p.2
theorem PathAt.below {w w' : World} {b o : Nat} {p : List Int × List Int} (h : PathAt w b o p) (hb : Below w.heap.size w w') : PathAt w' b o p := by
  obtain ⟨u1, u2, h1, h2, hlt, i1, i2⟩ := h
  exact ⟨u1, u2, (hb.cell (p := ⟨b, o, none⟩) hlt).trans h1, (hb.cell (p := ⟨b, o + 1, none⟩) hlt).trans h2, Nat.lt_of_lt_of_le hlt hb.size, i1.below hb, i2.below hb⟩
/-- A path handed over lies in a block of its own. -/
theorem PathV.boxed {w : World} {u1 u2 : Value} {p : List Int × List Int} (h1 : Ints w u1 p.1) (h2 : Ints w u2 p.2) (t : TypeId) : PathAt (w.alloc (.cells #[u1, u2] t)) w.heap.size 0 p := by
  have hb : Below w.heap.size w (w.alloc (.cells #[u1, u2] t)) := (Below.refl _ _).alloc (Nat.le_refl _) _
  have hn : (w.alloc (.cells #[u1, u2] t)).heap[w.heap.size]? = some (.cells #[u1, u2] t (0, 0)) := Go.Deep.blk_alloc_new _ _
  refine ⟨u1, u2, by simp only [World.cell?, hn]; rfl, by simp only [World.cell?, hn]; rfl, ?_, h1.below hb, h2.below hb⟩
  exact (Array.getElem?_eq_some_iff.1 hn).1

set_option maxHeartbeats 400000 in
theorem sections_yes {n : Int} (w : World) (h1 : 1 ≤ n) (h5 : n ≤ 5) : Calls Try.prog 44 #[.int .i64 n] w fun e w' => e = .returned (.bool true) ∧ w = w' := by
  go_enter Try.func44, Try.ntmps44
  go_wp2_with fail
  go_ret
  exact ⟨rfl, rfl⟩

set_option maxHeartbeats 400000 in
theorem sections_no {n : Int} (w : World) (h : n < 1 ∨ 5 < n) : Calls Try.prog 44 #[.int .i64 n] w fun e w' => e = .returned (.bool false) ∧ w = w' := by
  by_cases h1 : 1 ≤ n
  · have h2 : decide (n ≤ 5) = false := by simp; omega
    clear h
    go_enter Try.func44, Try.ntmps44
    go_wp2_with fail
    go_ret
    exact ⟨rfl, rfl⟩
  · have h2 : decide (1 ≤ n) = false := by simpa using h1
    clear h h1
    go_enter Try.func44, Try.ntmps44
    go_wp2_with fail
    go_ret
    exact ⟨rfl, rfl⟩

theorem sections (n : Int) (w : World) : Calls Try.prog 44 #[.int .i64 n] w fun e w' => e = .returned (.bool (decide (1 ≤ n ∧ n ≤ 5))) ∧ w = w' := by
  by_cases h : 1 ≤ n ∧ n ≤ 5
  · rw [decide_eq_true h]; exact sections_yes w h.1 h.2
  · rw [decide_eq_false h]; exact sections_no w (by omega)

set_option maxHeartbeats 1000000 in
theorem isOver {w : World} {b o : Nat} {n : Int} {p : List Int × List Int} (h : PathAt w b o p) :
    Calls Try.prog 47 #[.pointer (some ⟨b, o, none⟩), .int .i64 n] w fun e w' => e = .returned (.bool (pathB n p)) ∧ w = w' := by
  obtain ⟨xs, ys⟩ := p
  obtain ⟨u1, u2, c1, c2, hb, i1, i2⟩ := h
  obtain ⟨a1, k1, rfl, l1, i1⟩ := i1
  obtain ⟨a2, k2, rfl, l2, i2⟩ := i2
  simp only at l1 l2 i1 i2 c1 c2 ⊢
  by_cases hn : 1 ≤ n ∧ n ≤ 5
  · obtain ⟨hn1, hn5⟩ := hn
    by_cases hx : (xs.length : Int) = n
    · by_cases hy : (ys.length : Int) = n
      · have hlen : xs.length = ys.length := by omega
        rcases i1 with e | ⟨b1, o1, rfl, hb1, d1⟩
        · rw [e] at hx; simp at hx; omega
        rcases i2 with e | ⟨b2, o2, rfl, hb2, d2⟩
        · rw [e] at hy; simp at hy; omega
        have D1 := Lib.hid d1
        have D2 := Lib.hid d2
        have HX := Lib.hid hx
        have HY := Lib.hid hy
        have HL := Lib.hid hlen
        have t1 : ((xs.length : Int) != n) = false := by simpa using hx
        have t2 : ((ys.length : Int) != n) = false := by simpa using hy
        clear d1 d2 hx hy hlen
        go_enter Try.func47, Try.ntmps47
        go_wp2_with (go_at_call 44; refine (sections_yes _ hn1 hn5).mono ?_; rintro e w' ⟨rfl, rfl⟩)
        go_loop [5, 34] (fun r i => ∃ k : Nat, k ≤ xs.length ∧ i = .int .i64 k ∧ r = .int .i64 (readyAt ys k) ∧ Hid (RiseTo xs ys k)) (fun _ i => xs.length - (intOf i).toNat)
        case atStart => exact ⟨0, by omega, rfl, rfl, Lib.hid (RiseTo.zero _ _)⟩
        case round =>
          obtain ⟨k, hk, rfl, rfl, HR⟩ := hrel
          obtain ⟨r, hr⟩ : ∃ r, r = readyAt ys k := ⟨_, rfl⟩
          rw [← hr]
          have R := Lib.hid hr
          clear hr
          by_cases hlt : k < xs.length
          · have hlt' : k < ys.length := by have := HL.out; omega
            obtain ⟨x, hx⟩ : ∃ x, x = xs.getD k 0 := ⟨_, rfl⟩
            obtain ⟨y, hy⟩ : ∃ y, y = ys.getD k 0 := ⟨_, rfl⟩
            have e1 := D1.out k hlt
            have e2 := D2.out k hlt'
            rw [← hx] at e1
            rw [← hy] at e2
            have X := Lib.hid hx
            have Y := Lib.hid hy
            clear hx hy
            by_cases h1 : x < r
            · have HN := Lib.hid (pathB_sec (n := n) (p := (xs, ys)) hlt (not_rise (fun q => by have := q.1; rw [← R.out, ← X.out] at this; omega)))
              go_wp2_with fail
              go_ret
              exact ⟨ret_bool HN.out.symm, rfl⟩
            · have h1' : decide (x < r) = false := by simpa using h1
              by_cases h2 : y ≤ x
              · have HN := Lib.hid (pathB_sec (n := n) (p := (xs, ys)) hlt (not_rise (fun q => by have := q.2; rw [← X.out, ← Y.out] at this; omega)))
                clear h1
                go_wp2_with fail
                go_ret
                exact ⟨ret_bool HN.out.symm, rfl⟩
              · have h2' : decide (y ≤ x) = false := by simpa using h2
                have HS := Lib.hid (HR.out.succ (e := ⟨by rw [← R.out, ← X.out]; omega, by rw [← X.out, ← Y.out]; omega⟩))
                have HQ := Lib.hid ((readyAt_succ ys k).trans Y.out.symm)
                clear h1 h2
                go_wp2_with fail
                go_round
                case rel => exact ⟨k + 1, by omega, by go_num, ret_val HQ.out.symm, HS⟩
                case measure => simp [intOf]; omega
          · obtain rfl : k = xs.length := by omega
            clear hlt hk
            by_cases h3 : r ≤ 2000
            · have HN := Lib.hid (pathB_yes (p := (xs, ys)) hn1 hn5 HX.out HY.out (HR.out.secs (by rw [← R.out]; exact h3)))
              go_wp2_with fail
              go_ret
              exact ⟨ret_bool HN.out.symm, rfl⟩
            · have HN := Lib.hid (pathB_late (n := n) (p := (xs, ys)) (by rw [← R.out]; omega))
              have h3' : decide (r ≤ 2000) = false := by simpa using h3
              clear h3
              go_wp2_with fail
              go_ret
              exact ⟨ret_bool HN.out.symm, rfl⟩
      · have HN := Lib.hid (pathB_out (p := (xs, ys)) hy)
        have t1 : ((xs.length : Int) != n) = false := by simpa using hx
        have t2 : ((ys.length : Int) != n) = true := by simpa using hy
        clear hx hy i1 i2
        go_enter Try.func47, Try.ntmps47
        go_wp2_with (go_at_call 44; refine (sections_yes _ hn1 hn5).mono ?_; rintro e w' ⟨rfl, rfl⟩)
        go_ret
        exact ⟨ret_bool HN.out.symm, rfl⟩
    · have HN := Lib.hid (pathB_in (p := (xs, ys)) hx)
      have t1 : ((xs.length : Int) != n) = true := by simpa using hx
      clear hx i1 i2
      go_enter Try.func47, Try.ntmps47
      go_wp2_with (go_at_call 44; refine (sections_yes _ hn1 hn5).mono ?_; rintro e w' ⟨rfl, rfl⟩)
      go_ret
      exact ⟨ret_bool HN.out.symm, rfl⟩
  · have hn' : n < 1 ∨ 5 < n := by omega
    have HN := Lib.hid (pathB_n (p := (xs, ys)) hn')
    have H := Lib.hid hn'
    clear hn hn' i1 i2
    go_enter Try.func47, Try.ntmps47
    go_wp2_with (go_at_call 44; refine (sections_no _ H.out).mono ?_; rintro e w' ⟨rfl, rfl⟩)
    go_ret
    exact ⟨ret_bool HN.out.symm, rfl⟩

end Go.Proofs.Ytoebgdcgcdigaab
