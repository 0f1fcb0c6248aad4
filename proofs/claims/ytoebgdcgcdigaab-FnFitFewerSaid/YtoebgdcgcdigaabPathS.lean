/-
  What the model's and the program's PathValid return. No condition but lengths of at most 1048576.
-/
import Derived.Test.YtoebgdcgcdigaabPath
import Derived.BigQuiet
import Derived.IntWalk
namespace Go.Proofs.Ytoebgdcgcdigaab
open Go.RowKit Go.Sort

theorem box_cells (w : World) (u1 u2 : Value) (t : TypeId) : (w.alloc (.cells #[u1, u2] t)).cell? ⟨w.heap.size, 0, none⟩ = some u1 ∧ (w.alloc (.cells #[u1, u2] t)).cell? ⟨w.heap.size, 1, none⟩ = some u2 ∧ w.heap.size < (w.alloc (.cells #[u1, u2] t)).heap.size := by
  have hn : (w.alloc (.cells #[u1, u2] t)).heap[w.heap.size]? = some (.cells #[u1, u2] t (0, 0)) := Go.Deep.blk_alloc_new _ _
  exact ⟨by simp only [World.cell?, hn]; rfl, by simp only [World.cell?, hn]; rfl, (Array.getElem?_eq_some_iff.1 hn).1⟩
/-! ### A block of two cells -/

def Pair (w : World) (b : Nat) (x y : Value) (t : TypeId) : Prop := w.heap[b]? = some (.cells #[x, y] t (0, 0))
theorem Pair.lt {w : World} {b : Nat} {x y : Value} {t : TypeId} (h : Pair w b x y t) : b < w.heap.size := (Array.getElem?_eq_some_iff.1 h).1
theorem Pair.cell0 {w : World} {b : Nat} {x y : Value} {t : TypeId} (h : Pair w b x y t) : w.cell? ⟨b, 0, none⟩ = some x := by unfold Pair at h; simp only [World.cell?, h]; rfl
theorem Pair.cell1 {w : World} {b : Nat} {x y : Value} {t : TypeId} (h : Pair w b x y t) : w.cell? ⟨b, 1, none⟩ = some y := by unfold Pair at h; simp only [World.cell?, h]; rfl
theorem Pair.frozen {w : World} {b : Nat} {x y : Value} {t : TypeId} (h : Pair w b x y t) (i : Nat) : w.frozen? ⟨b, i, none⟩ = false := by unfold Pair at h; simp [World.frozen?, h]
theorem Pair.new (w : World) (x y : Value) (t : TypeId) : Pair (w.alloc (.cells #[x, y] t)) w.heap.size x y t := Go.Deep.blk_alloc_new _ _
theorem Pair.of {w w' : World} {b : Nat} {x y : Value} {t : TypeId} (h : Pair w b x y t) (e : w'.heap[b]? = w.heap[b]?) : Pair w' b x y t := e.trans h
theorem Pair.below {w w' : World} {b : Nat} {x y : Value} {t : TypeId} (h : Pair w b x y t) (hb : Below w.heap.size w w') : Pair w' b x y t := h.of (hb.block _ h.lt)
theorem Pair.alloc {w : World} {b : Nat} {x y : Value} {t : TypeId} (h : Pair w b x y t) (o : Obj) : Pair (w.alloc o) b x y t := h.of (Go.Deep.blk_alloc_lt _ _ _ h.lt)
theorem Pair.other {w : World} {b : Nat} {x y : Value} {t : TypeId} (h : Pair w b x y t) {a : Addr} (ha : b ≠ a.block) (v : Value) : Pair (w.setCell a v) b x y t := h.of (Go.Deep.blk_setCell_other _ _ _ _ ha)
theorem Pair.set0 {w : World} {b : Nat} {x y : Value} {t : TypeId} (h : Pair w b x y t) (v : Value) : Pair (w.setCell ⟨b, 0, none⟩ v) b v y t := by unfold Pair at h ⊢; simp [World.setCell, Array.getElem?_modify, h]
theorem Pair.set1 {w : World} {b : Nat} {x y : Value} {t : TypeId} (h : Pair w b x y t) (v : Value) : Pair (w.setCell ⟨b, 1, none⟩ v) b x v t := by unfold Pair at h ⊢; simp [World.setCell, Array.getElem?_modify, h]

theorem below_alloc (w : World) (o : Obj) : Below w.heap.size w (w.alloc o) := (Below.refl _ _).alloc (Nat.le_refl _) _

set_option maxHeartbeats 1000000 in
theorem specValid {w : World} {v : Value} {n : Int} {p : List Int × List Int} (h : PathV w v p) :
    Calls Try.prog 51 #[.int .i64 n, v] w fun e w' => e = .returned (.bool (pathB n p)) ∧ Below w.heap.size w w' := by
  obtain ⟨xs, ys⟩ := p
  obtain ⟨u1, u2, rfl, i1, i2⟩ := h
  obtain ⟨a1, k1, rfl, l1, i1⟩ := i1
  obtain ⟨a2, k2, rfl, l2, i2⟩ := i2
  simp only at l1 l2 i1 i2 ⊢
  by_cases hn : 1 ≤ n ∧ n ≤ 5
  · obtain ⟨hn1, hn5⟩ := hn
    by_cases hx : (xs.length : Int) = n
    · by_cases hy : (ys.length : Int) = n
      · have hlen : xs.length = ys.length := by omega
        rcases i1 with e | ⟨b1, o1, rfl, hb1, d1⟩
        · rw [e] at hx; simp at hx; omega
        rcases i2 with e | ⟨b2, o2, rfl, hb2, d2⟩
        · rw [e] at hy; simp at hy; omega
        obtain ⟨W, hW⟩ : ∃ W, W = w.alloc (.cells #[.slice (some ⟨b1, o1, none⟩) xs.length k1, .slice (some ⟨b2, o2, none⟩) ys.length k2] 32) := ⟨_, rfl⟩
        obtain ⟨q1, q2, q3⟩ := box_cells w (.slice (some ⟨b1, o1, none⟩) xs.length k1) (.slice (some ⟨b2, o2, none⟩) ys.length k2) 32
        have q4 := below_alloc w (.cells #[.slice (some ⟨b1, o1, none⟩) xs.length k1, .slice (some ⟨b2, o2, none⟩) ys.length k2] 32)
        rw [← hW] at q1 q2 q3 q4
        have hb1' : b1 < W.heap.size := Nat.lt_of_lt_of_le hb1 q4.size
        have hb2' : b2 < W.heap.size := Nat.lt_of_lt_of_le hb2 q4.size
        have D1 := Lib.hid (fun i hi => (q4.cell (p := ⟨b1, o1 + i, none⟩) hb1).trans (d1 i hi))
        have D2 := Lib.hid (fun i hi => (q4.cell (p := ⟨b2, o2 + i, none⟩) hb2).trans (d2 i hi))
        have HX := Lib.hid hx
        have HY := Lib.hid hy
        have HL := Lib.hid hlen
        have Q1 := Lib.hid q1
        have Q2 := Lib.hid q2
        have t1 : ((xs.length : Int) != n) = false := by simpa using hx
        have t2 : ((ys.length : Int) != n) = false := by simpa using hy
        have HWW := Lib.hid hW
        clear d1 d2 hx hy hlen q1 q2 hW
        go_enter Try.func51, Try.ntmps51
        go_wp2_with (go_at_call 41; refine (in_yes _ _ _ _ hn1 hn5).mono ?_; rintro e w' ⟨rfl, rfl⟩)
        rw [← HWW.out]
        go_loopw [5, 6] (fun r i wr => ∃ k : Nat, k ≤ xs.length ∧ i = .int .i64 k ∧ r = .int .i64 (readyAt ys k) ∧ Hid (SecsTo xs ys k) ∧ Below W.heap.size W wr) (fun _ i _ => xs.length - (intOf i).toNat)
        case atStart => exact ⟨0, by omega, rfl, rfl, Lib.hid (SecsTo.zero _ _), Below.refl _ _⟩
        case round =>
          obtain ⟨k, hk, rfl, rfl, HR, hbel⟩ := hrel
          obtain ⟨r, hr⟩ : ∃ r, r = readyAt ys k := ⟨_, rfl⟩
          rw [← hr]
          have R := Lib.hid hr
          clear hr
          by_cases hlt : k < xs.length
          · have hlt' : k < ys.length := by have := HL.out; omega
            have hki : (k : Int) < n := by have := HX.out; omega
            obtain ⟨x, hx⟩ : ∃ x, x = xs.getD k 0 := ⟨_, rfl⟩
            obtain ⟨y, hy⟩ : ∃ y, y = ys.getD k 0 := ⟨_, rfl⟩
            have e1 := (hbel.cell (p := ⟨b1, o1 + k, none⟩) hb1').trans (D1.out k hlt)
            have e2 := (hbel.cell (p := ⟨b2, o2 + k, none⟩) hb2').trans (D2.out k hlt')
            have f1 := (hbel.cell (p := ⟨w.heap.size, 0, none⟩) q3).trans Q1.out
            have f2 := (hbel.cell (p := ⟨w.heap.size, 1, none⟩) q3).trans Q2.out
            rw [← hx] at e1
            rw [← hy] at e2
            have E1 := fun d os => cell_regrown e1 d os
            have E2 := fun d os => cell_regrown e2 d os
            have F1 := fun d os => cell_regrown f1 d os
            have F2 := fun d os => cell_regrown f2 d os
            have X := Lib.hid hx
            have Y := Lib.hid hy
            have hkx : (k : Int) < (xs.length : Int) := by omega
            have hky : (k : Int) < (ys.length : Int) := by omega
            have HR0 := Lib.hid (HR.out.ready)
            have hlen : W.heap.size ≤ wr.heap.size := hbel.size
            clear hx hy
            by_cases h1 : r ≤ x ∧ x ≤ 2000
            · have I1 := Lib.hid (in_quiet x r 2000 true (decide_eq_true h1) wr)
              have hx0 : 0 ≤ x := by have := HR0.out; rw [← R.out] at this; omega
              have hwx : IntKind.i64.wrap (x + 1) = x + 1 := IntWalk.i64_in _ (by omega)
              by_cases h2 : x + 1 ≤ y ∧ y ≤ 2000
              · have I2 := Lib.hid (in_quiet y (x + 1) 2000 true (decide_eq_true h2) wr)
                have HS := Lib.hid (HR.out.succ (e := ⟨by rw [← R.out, ← X.out]; omega, by rw [← X.out, ← Y.out]; omega, by rw [← Y.out]; omega⟩))
                have HQ := Lib.hid ((readyAt_succ ys k).trans Y.out.symm)
                clear h1 h2
                go_wp2_with fail
                refine wp_region_quiet_below (by kernel_rfl) (by kernel_rfl) ?_
                repeat (go_big_quiet_step (first | (with_reducible exact I1.out _ _) | (with_reducible exact I2.out _ _)))
                refine wpQuiet_nil ?_
                intro _ hw'
                obtain ⟨⟨dq, osq⟩, hw''⟩ := hw'
                subst hw''
                have BR := (below_regrown wr dq osq).mono hlen
                go_wp2_with fail
                go_roundw
                case rel => exact ⟨k + 1, by omega, by go_num, ret_val HQ.out.symm, HS, hbel.trans BR⟩
                case measure => simp [intOf]; omega
              · have I2 := Lib.hid (in_quiet y (x + 1) 2000 false (decide_eq_false h2) wr)
                have HN := Lib.hid (pathB_sec (n := n) (p := (xs, ys)) hlt (fun q => h2 (by have q1 := q.2.1; have q2 := q.2.2; rw [← X.out, ← Y.out] at q1; rw [← Y.out] at q2; omega)))
                clear h1 h2
                go_wp2_with fail
                refine wp_region_quiet_below (by kernel_rfl) (by kernel_rfl) ?_
                repeat (go_big_quiet_step (first | (with_reducible exact I1.out _ _) | (with_reducible exact I2.out _ _)))
                refine wpQuiet_nil ?_
                intro _ hw'
                obtain ⟨⟨dq, osq⟩, hw''⟩ := hw'
                subst hw''
                have BR := (below_regrown wr dq osq).mono hlen
                go_wp2_with fail
                go_ret
                exact ⟨ret_bool HN.out.symm, q4.trans ((hbel.trans BR).mono q4.size)⟩
            · have I1 := Lib.hid (in_quiet x r 2000 false (decide_eq_false h1) wr)
              have HN := Lib.hid (pathB_sec (n := n) (p := (xs, ys)) hlt (fun q => h1 (by have q1 := q.1; have q2 := q.2; rw [← R.out, ← X.out] at q1; rw [← X.out, ← Y.out] at q2; omega)))
              clear h1
              go_wp2_with fail
              refine wp_region_quiet_below (by kernel_rfl) (by kernel_rfl) ?_
              repeat (go_big_quiet_step (with_reducible exact I1.out _ _))
              refine wpQuiet_nil ?_
              intro _ hw'
              obtain ⟨⟨dq, osq⟩, hw''⟩ := hw'
              subst hw''
              have BR := (below_regrown wr dq osq).mono hlen
              go_wp2_with fail
              go_ret
              exact ⟨ret_bool HN.out.symm, q4.trans ((hbel.trans BR).mono q4.size)⟩
          · obtain rfl : k = xs.length := by omega
            have HN := Lib.hid (pathB_yes (p := (xs, ys)) hn1 hn5 HX.out HY.out HR.out)
            have hkn : ¬ (xs.length : Int) < n := by have := HX.out; omega
            clear hlt hk
            go_wp2_with fail
            go_ret
            exact ⟨ret_bool HN.out.symm, q4.trans (hbel.mono q4.size)⟩
      · have HN := Lib.hid (pathB_out (p := (xs, ys)) hy)
        have t1 : ((xs.length : Int) != n) = false := by simpa using hx
        have t2 : ((ys.length : Int) != n) = true := by simpa using hy
        clear hx hy i1 i2
        go_enter Try.func51, Try.ntmps51
        go_wp2_with (go_at_call 41; refine (in_yes _ _ _ _ hn1 hn5).mono ?_; rintro e w' ⟨rfl, rfl⟩)
        go_ret
        exact ⟨ret_bool HN.out.symm, below_alloc _ _⟩
    · have HN := Lib.hid (pathB_in (p := (xs, ys)) hx)
      have t1 : ((xs.length : Int) != n) = true := by simpa using hx
      clear hx i1 i2
      go_enter Try.func51, Try.ntmps51
      go_wp2_with (go_at_call 41; refine (in_yes _ _ _ _ hn1 hn5).mono ?_; rintro e w' ⟨rfl, rfl⟩)
      go_ret
      exact ⟨ret_bool HN.out.symm, below_alloc _ _⟩
  · have hn' : n < 1 ∨ 5 < n := by omega
    have HN := Lib.hid (pathB_n (p := (xs, ys)) hn')
    have H := Lib.hid hn'
    clear hn hn' i1 i2
    go_enter Try.func51, Try.ntmps51
    go_wp2_with (go_at_call 41; refine (in_no _ _ _ _ H.out).mono ?_; rintro e w' ⟨rfl, rfl⟩)
    go_ret
    exact ⟨ret_bool HN.out.symm, below_alloc _ _⟩

set_option maxHeartbeats 400000 in
theorem implValid {w : World} {v : Value} {n : Int} {p : List Int × List Int} (h : PathV w v p) :
    Calls Try.prog 21 #[.int .i64 n, v] w fun e w' => e = .returned (.bool (pathB n p)) ∧ Below w.heap.size w w' := by
  obtain ⟨u1, u2, rfl, i1, i2⟩ := h
  have HP := Lib.hid (PathV.boxed i1 i2 32)
  clear i1 i2
  go_enter Try.func21, Try.ntmps21
  go_wp2_with (go_at_call 47; refine (isOver (n := n) HP.out).mono ?_; rintro e w' ⟨rfl, rfl⟩)
  go_ret
  exact ⟨rfl, below_alloc _ _⟩

end Go.Proofs.Ytoebgdcgcdigaab
