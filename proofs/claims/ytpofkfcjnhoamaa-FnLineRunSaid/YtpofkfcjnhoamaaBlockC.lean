/-
  The instrument of a block. No condition.
-/
import Derived.Test.YtpofkfcjnhoamaaBlockB
namespace Go.Proofs.Ytpofkfcjnhoamaa
open Go.RowKit Go.Sort

def five (k : Nat) : Blk := [((0 : Int), false, false), (0, false, true), (1, false, false), (2, true, false), (2, false, false)].getD k nb
theorem five_pos (k : Nat) : bkPos (five k) = true := by
  match k with
  | 0 | 1 | 2 | 3 | 4 => rfl
  | k + 5 => rfl
theorem five_of {b : Blk} (h : ∀ j, j < 5 → five j ≠ b) : bkPos b = false := by
  cases e : bkPos b
  · rfl
  · rcases bkPos_five e with rfl | rfl | rfl | rfl | rfl
    · exact absurd rfl (h 0 (by omega))
    · exact absurd rfl (h 1 (by omega))
    · exact absurd rfl (h 2 (by omega))
    · exact absurd rfl (h 3 (by omega))
    · exact absurd rfl (h 4 (by omega))
theorem eqBlk (x y : Blk) (w : World) : (binOp .eql 33 (.agg #[.int .i64 x.1, .bool x.2.1, .bool x.2.2]) (.agg #[.int .i64 y.1, .bool y.2.1, .bool y.2.2])).run Try.prog w = .ok (.bool (decide (x = y))) w := by
  obtain ⟨n, i, o⟩ := x
  obtain ⟨n', i', o'⟩ := y
  have p := Try.underlying33
  by_cases e : n = n'
  · subst e
    cases i <;> cases i' <;> cases o <;> cases o' <;> simp [go_sem, Try.underlying33, Try.underlying3, Try.underlying4]
  · simp [go_sem, Try.underlying33, Try.underlying3, Try.underlying4, e]
theorem lit_cells5 (w : World) (a b c d e : Value) (t : TypeId) (k : Nat) (h : k < 5) : (w.alloc (.cells #[a, b, c, d, e] t)).cell? ⟨w.heap.size, k, none⟩ = some ([a, b, c, d, e].getD k undef) := by
  have hn : (w.alloc (.cells #[a, b, c, d, e] t)).heap[w.heap.size]? = some (.cells #[a, b, c, d, e] t (0, 0)) := Go.Deep.blk_alloc_new _ _
  match k, h with
  | 0, _ | 1, _ | 2, _ | 3, _ | 4, _ => simp only [World.cell?, hn]; rfl
theorem five_val (k : Nat) (h : k < 5) : [Value.iface 116 (.agg #[]), Value.iface 117 (.agg #[]), Value.iface 118 (.agg #[]), Value.iface 119 (.agg #[]), Value.iface 120 (.agg #[])].getD k undef = insV (five k) := by
  match k, h with
  | 0, _ | 1, _ | 2, _ | 3, _ | 4, _ => rfl

set_option maxHeartbeats 2000000 in
theorem instrumentOf (b : Blk) (w : World) :
    Calls Try.prog 58 #[bkV b] w fun e w' => (∃ v, e = .returned (.tuple #[v, .bool (bkPos b)]) ∧ (bkPos b = true → v = insV b)) ∧ Below w.heap.size w w' := by
  unfold bkV
  obtain ⟨W1, hW1⟩ : ∃ W, W = w.alloc (.cells #[.int .i64 b.1, .bool b.2.1, .bool b.2.2] 33) := ⟨_, rfl⟩
  have t1 := Tri3.new w (.int .i64 b.1) (.bool b.2.1) (.bool b.2.2) 33
  have b1 := below_alloc w (.cells #[.int .i64 b.1, .bool b.2.1, .bool b.2.2] 33)
  have s1 : W1.heap.size = w.heap.size + 1 := by rw [hW1]; simp
  rw [← hW1] at t1 b1
  obtain ⟨W2, hW2⟩ : ∃ W, W = W1.alloc (.cells #[.iface 116 (.agg #[]), .iface 117 (.agg #[]), .iface 118 (.agg #[]), .iface 119 (.agg #[]), .iface 120 (.agg #[])] 90) := ⟨_, rfl⟩
  have d2 := lit_cells5 W1 (.iface 116 (.agg #[])) (.iface 117 (.agg #[])) (.iface 118 (.agg #[])) (.iface 119 (.agg #[])) (.iface 120 (.agg #[])) 90
  have t2 := t1.alloc (.cells #[.iface 116 (.agg #[]), .iface 117 (.agg #[]), .iface 118 (.agg #[]), .iface 119 (.agg #[]), .iface 120 (.agg #[])] 90)
  have b2 := below_alloc W1 (.cells #[.iface 116 (.agg #[]), .iface 117 (.agg #[]), .iface 118 (.agg #[]), .iface 119 (.agg #[]), .iface 120 (.agg #[])] 90)
  have s2 : W2.heap.size = W1.heap.size + 1 := by rw [hW2]; simp
  rw [← hW2] at d2 t2 b2
  rw [s1] at d2
  have B2 := Lib.hid (b1.trans (b2.mono b1.size))
  have D2 := Lib.hid d2
  have T2 := Lib.hid t2
  have S2 := Lib.hid (show W2.heap.size = w.heap.size + 2 by omega)
  have H2 := Lib.hid (hW1 ▸ hW2)
  clear d2 t2 b2 t1 b1 s1 s2 hW1 hW2
  go_enter Try.func58, Try.ntmps58
  go_wp2_with fail
  rw [← H2.out]
  go_loopw [18] (fun i wr => ∃ k : Nat, k ≤ 5 ∧ i = .int .i64 k ∧ (∀ j, j < k → five j ≠ b) ∧ Below W2.heap.size W2 wr) (fun i _ => 5 - (intOf i).toNat)
  case atStart => exact ⟨0, by omega, rfl, fun j hj => by omega, Below.refl _ _⟩
  case round =>
    obtain ⟨k, hk, rfl, hno, hbel⟩ := hrel
    have NO := Lib.hid hno
    clear hno
    have hsz : W2.heap.size ≤ wr.heap.size := hbel.size
    have T3 := T2.out.below hbel
    by_cases hlt : k < 5
    · have hki : (k : Int) < 5 := by omega
      have q1 : wr.cell? ⟨w.heap.size + 1, 0 + k, none⟩ = some (insV (five k)) := by
        rw [Nat.zero_add, hbel.cell (p := ⟨w.heap.size + 1, k, none⟩) (by have := S2.out; simp only; omega), D2.out k hlt, five_val k hlt]
      have q2 := q1
      rw [Nat.zero_add] at q2
      obtain ⟨x, hx⟩ : ∃ x, x = five k := ⟨_, rfl⟩
      have hpx := Lib.hid (five_pos k)
      rw [← hx] at q1 q2 hpx
      obtain ⟨t, ht⟩ : ∃ t, t = decide (x = b) := ⟨_, rfl⟩
      have EQ := eqBlk x b
      rw [← ht] at EQ
      have c0 := fun d os => cell_regrown T3.cell0 d os
      have c1 := fun d os => cell_regrown T3.cell1 d os
      have c2 := fun d os => cell_regrown T3.cell2 d os
      have CB := Lib.hid (fun d os => Calls.regrown_of (d := d) (os := os) (blockOf x hpx.out (grow (redrawn wr d) os)))
      have X := Lib.hid hx
      have HT := Lib.hid ht
      clear hx ht T3
      unfold bkV at CB
      go_wp2_with fail
      refine wp_region_quiet_below (by kernel_rfl) (by kernel_rfl) ?_
      repeat (go_big_quiet_step (exact CB.out _ _))
      refine wpQuiet_nil ?_
      intro _ hw'
      obtain ⟨⟨dq, osq⟩, hw''⟩ := hw'
      subst hw''
      have BR := (below_regrown wr dq osq).mono hsz
      cases t
      · go_wp2_with fail
        go_roundw
        case rel => exact ⟨k + 1, by omega, by go_num, fun j hj => by
            by_cases e : j = k
            · subst e; rw [← X.out]; exact of_decide_eq_false HT.out.symm
            · exact NO.out j (by omega), hbel.trans BR⟩
        case measure => simp [intOf]; omega
      · go_wp2_with fail
        go_ret2
        have e := of_decide_eq_true HT.out.symm
        subst e
        exact ⟨⟨_, by rw [hpx.out]; rfl, fun _ => rfl⟩, B2.out.trans ((hbel.trans BR).mono B2.out.size)⟩
    · obtain rfl : k = 5 := by omega
      have P0 := Lib.hid (five_of NO.out)
      go_wp2_with fail
      go_ret2
      exact ⟨⟨.nilIface, by rw [P0.out]; rfl, fun h => by rw [P0.out] at h; cases h⟩, B2.out.trans (hbel.mono B2.out.size)⟩

end Go.Proofs.Ytpofkfcjnhoamaa
