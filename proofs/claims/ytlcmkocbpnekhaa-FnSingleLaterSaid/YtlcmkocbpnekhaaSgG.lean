/-
  The end and the wait of an order: the model's and the program's. For texts of at most 1048576 bytes.
-/
import Derived.Test.YtlcmkocbpnekhaaSgF
namespace Go.Proofs.Ytlcmkocbpnekhaa
open Go.RowKit Go.Sort

theorem made_two {w : World} {xs : List Int} {b : Bool} {e : Ending} {w' : World} (h : MadeIntsB w xs b e w') : ∃ v, e = .returned (.tuple #[v, .bool b]) ∧ OwnI w' w.heap.size v xs ∧ Below w.heap.size w w' := h

set_option maxRecDepth 100000 in
set_option maxHeartbeats 2000000 in
theorem implEnd {w : World} {v : Value} {s : Sg} {S : ByteArray} (h : SgV w v s) (hS : S.size ≤ 1048576) :
    Calls Try.prog 32 #[v, .string S] w fun e w' => e = .returned (.int .i64 (endV s S)) ∧ Below w.heap.size w w' := by
  have ST := Lib.hid (fun (X : World) (b : Below w.heap.size w X) => (implStarts (h.below b) hS))
  obtain ⟨a, n, c, a', n', c', rfl, i1, i2⟩ := h.form
  obtain ⟨r, hr⟩ : ∃ r, r = s.run := ⟨_, rfl⟩
  obtain ⟨hd, hh⟩ : ∃ r, r = s.head := ⟨_, rfl⟩
  rw [← hr, ← hh] at ST ⊢
  have ea := below_alloc w (.cells #[.slice a n c, .slice a' n' c', .int .i64 r, .int .i64 hd] 25)
  have pa := Quad.new w (.slice a n c) (.slice a' n' c') (.int .i64 r) (.int .i64 hd) 25
  obtain ⟨W, hW⟩ : ∃ W, W = w.alloc (.cells #[.slice a n c, .slice a' n' c', .int .i64 r, .int .i64 hd] 25) := ⟨_, rfl⟩
  rw [← hW] at ea pa
  have p0 := pa.cell0
  have p1 := pa.cell1
  have p2 := pa.cell2
  have p3 := pa.cell3
  have HW := Lib.hid hW.symm
  have EA := Lib.hid ea
  have PA := Lib.hid pa
  have HR := Lib.hid hr
  have HS := Lib.hid hS
  clear hW ea pa h i1 i2 hr hh
  obtain ⟨ok, hok⟩ : ∃ t, t = sgO s S := ⟨_, rfl⟩
  rw [← hok] at ST
  obtain ⟨L, hL⟩ : ∃ L, L = stV s S := ⟨_, rfl⟩
  rw [← hL] at ST
  have HL := Lib.hid hL
  have HO := Lib.hid hok.symm
  clear hL hok
  go_enter Try.func32, Try.ntmps32
  go_upto_region 1 with fail
  rw [HW.out]
  go_upto_region 2 with (go_at_call 11; refine (ST.out _ EA.out).mono ?_; rintro e w2 ⟨v2, rfl, o2, b2⟩)
  have B2 := Lib.hid (EA.out.trans (b2.mono EA.out.size))
  obtain ⟨a2, n2, c2, rfl⟩ := own_is_slice o2
  have hn2 := o2.len
  have O2 := Lib.hid o2
  have P2 := (PA.out.below b2).cell2
  clear b2 o2 p0 p1 p2 p3
  cases ok
  · have E := Lib.hid (endV_no HO.out)
    clear hn2
    go_wp2_with fail
    go_ret
    exact ⟨ret_int E.out.symm, B2.out⟩
  have hl : L = stL s S S.size := by rw [HL.out, stV_yes HO.out]
  have hll : L.length = S.size := by rw [hl, stL_len]
  obtain rfl : n2 = S.size := by rw [hn2, hll]
  clear hn2
  rcases Nat.eq_zero_or_pos S.size with h0 | h0
  · have E := Lib.hid (endV_nil HO.out h0)
    have t0 : ((S.size : Int) == 0) = true := by rw [h0]; rfl
    clear h0 hl hll
    go_wp2_with fail
    go_ret
    exact ⟨ret_int E.out.symm, B2.out⟩
  obtain ⟨j, hj⟩ : ∃ j, S.size = j + 1 := ⟨S.size - 1, by omega⟩
  have E := endV_yes HO.out hj
  obtain ⟨g, cap, e⟩ := O2.out.some (by omega)
  simp only [Value.slice.injEq] at e
  obtain ⟨rfl, -, rfl⟩ := e
  have c1 := O2.out.at (j := j) (by omega)
  have hat : L.getD j 0 = stA s S j := by rw [hl]; exact stL_at (by omega)
  rw [hat] at c1
  have sj := stA_nonneg HO.out (k := j) (by omega)
  have rr := (sgO_of HO.out).1
  obtain ⟨x, hx⟩ : ∃ x, x = stA s S j := ⟨_, rfl⟩
  rw [← hx, ← HR.out] at E
  rw [← hx] at c1 sj
  have rr1 := rr.run1
  have rr2 := rr.run2
  rw [← HR.out] at rr1 rr2
  have E := Lib.hid E
  have t0 : ((S.size : Int) == 0) = false := by rw [hj]; simp; omega
  obtain ⟨m, hm⟩ : ∃ m, m = S.size := ⟨_, rfl⟩
  rw [← hm] at hj t0 ⊢
  have ij : (j : Int) < (m : Int) := by omega
  have E1 := fun d os => cell_regrown c1 d os
  have E3 := fun d os => cell_regrown P2 d os
  have hw1 : IntKind.i64.wrap ((m : Int) - 1) = (j : Int) := by rw [hj, show (((j + 1 : Nat) : Int)) - 1 = (j : Int) by omega]; exact IntWalk.i64_in _ (by have := HS.out; omega)
  have hw2 : IntKind.i64.wrap (x + r) = x + r := IntWalk.i64_in _ (by omega)
  clear hat hl hll rr hx h0 hj hm c1 P2 sj rr1 rr2
  go_wp2_with fail
  refine wp_region_quiet_below (by kernel_rfl) (by kernel_rfl) ?_
  repeat (go_big_quiet_step (skip))
  refine wpQuiet_nil ?_
  intro _ hw'
  obtain ⟨⟨dq, osq⟩, hw''⟩ := hw'
  subst hw''
  have BR := below_regrown w2 dq osq
  clear hw1 hw2
  go_wp2_with fail
  go_ret
  exact ⟨ret_int E.out.symm, B2.out.trans (BR.mono B2.out.size)⟩


/-! ### Sums -/
def sumI (xs : List Int) : Nat → Int
  | 0 => 0
  | k + 1 => sumI xs k + xs.getD k 0
theorem sumI_range {xs : List Int} {k : Nat} (h : ∀ i, i < k → 0 ≤ xs.getD i 0 ∧ xs.getD i 0 ≤ 3200) : 0 ≤ sumI xs k ∧ sumI xs k ≤ 3200 * (k : Int) := by
  induction k with
  | zero => simp [sumI]
  | succ k ih =>
    have h1 := ih (fun i hi => h i (by omega))
    have h2 := h k (by omega)
    simp only [sumI]
    omega
theorem sumI_congr {xs ys : List Int} {k : Nat} (h : ∀ i, i < k → xs.getD i 0 = ys.getD i 0) : sumI xs k = sumI ys k := by
  induction k with
  | zero => rfl
  | succ k ih => simp only [sumI]; rw [ih (fun i hi => h i (by omega)), h k (by omega)]
theorem sum_rdy (s : Sg) (S : ByteArray) (n k : Nat) (hk : k ≤ n) : sumI (rdL s S n) k = sumI s.A (upTo S k) + sumI s.B (k - upTo S k) := by
  induction k with
  | zero => simp [sumI, upTo]
  | succ k ih =>
    have h1 := upTo_le S k
    simp only [sumI]
    rw [ih (by omega), rdL_at (by omega)]
    by_cases e : bt S k = 85
    · rw [upTo_U e, rdy_U e, show k + 1 - (upTo S k + 1) = k - upTo S k by omega]
      simp only [sumI]; omega
    · rw [upTo_D e, rdy_D e, show k + 1 - upTo S k = k - upTo S k + 1 by omega]
      simp only [sumI]; omega
theorem wt_sums (s : Sg) (S : ByteArray) (n k : Nat) (hk : k ≤ n) : wtTo s S k = sumI (stL s S n) k - sumI (rdL s S n) k := by
  induction k with
  | zero => rfl
  | succ k ih =>
    simp only [wtTo, sumI]
    rw [ih (by omega), rdL_at (by omega), stL_at (by omega)]
    omega
theorem wait_sums {s : Sg} {S : ByteArray} (h : sgO s S = true) : wtTo s S S.size = sumI (stL s S S.size) S.size - sumI s.A s.A.length - sumI s.B s.B.length := by
  have o := (sgO_of h).2
  rw [wt_sums s S S.size S.size (Nat.le_refl _), sum_rdy s S S.size S.size (Nat.le_refl _), o.ups]
  have : S.size - s.A.length = s.B.length := by have := o.size; omega
  rw [this]; omega

set_option maxRecDepth 100000 in
set_option maxHeartbeats 2000000 in
theorem implWait {w : World} {v : Value} {s : Sg} {S : ByteArray} (h : SgV w v s) (hS : S.size ≤ 1048576) :
    Calls Try.prog 25 #[v, .string S] w fun e w' => e = .returned (.int .i64 (waitV s S)) ∧ Below w.heap.size w w' := by
  have ST := Lib.hid (fun (X : World) (b : Below w.heap.size w X) => (implStarts (h.below b) hS))
  have RT := Lib.hid (fun (ho : OrdOk s.A.length s.B.length S) (X : World) (b : Below w.heap.size w X) => readyTimes (h.below b) ho hS)
  obtain ⟨a, n, c, a', n', c', rfl, i1, i2⟩ := h.form
  obtain ⟨r, hr⟩ : ∃ r, r = s.run := ⟨_, rfl⟩
  obtain ⟨hd, hh⟩ : ∃ r, r = s.head := ⟨_, rfl⟩
  rw [← hr, ← hh] at ST RT ⊢
  have ea := below_alloc w (.cells #[.slice a n c, .slice a' n' c', .int .i64 r, .int .i64 hd] 25)
  have pa := Quad.new w (.slice a n c) (.slice a' n' c') (.int .i64 r) (.int .i64 hd) 25
  obtain ⟨W, hW⟩ : ∃ W, W = w.alloc (.cells #[.slice a n c, .slice a' n' c', .int .i64 r, .int .i64 hd] 25) := ⟨_, rfl⟩
  rw [← hW] at ea pa
  have p0 := pa.cell0
  have p1 := pa.cell1
  have p2 := pa.cell2
  have p3 := pa.cell3
  have HW := Lib.hid hW.symm
  have EA := Lib.hid ea
  have PA := Lib.hid pa
  have HS := Lib.hid hS
  have I1 := Lib.hid i1
  have I2 := Lib.hid i2
  clear hW ea pa h i1 i2 hr hh
  obtain ⟨ok, hok⟩ : ∃ t, t = sgO s S := ⟨_, rfl⟩
  rw [← hok] at ST
  obtain ⟨L, hL⟩ : ∃ L, L = stV s S := ⟨_, rfl⟩
  rw [← hL] at ST
  have HL := Lib.hid hL
  have HO := Lib.hid hok.symm
  clear hL hok
  go_enter Try.func25, Try.ntmps25
  go_upto_region 1 with fail
  rw [HW.out]
  go_upto_region 2 with (go_at_call 11; refine (ST.out _ EA.out).mono ?_; rintro e w2 ⟨v2, rfl, o2, b2⟩)
  have B2 := Lib.hid (EA.out.trans (b2.mono EA.out.size))
  obtain ⟨a2, n2, c2, rfl⟩ := own_is_slice o2
  have hn2 := o2.len
  have O2 := Lib.hid o2
  have P2 := Lib.hid (PA.out.below b2)
  clear b2 o2 p0 p1 p2 p3
  cases ok
  · have E := Lib.hid (waitV_no HO.out)
    clear hn2
    go_wp2_with fail
    go_ret
    exact ⟨ret_int E.out.symm, B2.out⟩
  have hl : L = stL s S S.size := by rw [HL.out, stV_yes HO.out]
  have hll : L.length = S.size := by rw [hl, stL_len]
  obtain rfl : n2 = S.size := by rw [hn2, hll]
  have hn12 : (S.size : Int) ≤ 12 := by have := sgO_size HO.out; omega
  clear hn2
  have z0 := P2.out.cell0
  have z1 := P2.out.cell1
  have z2 := P2.out.cell2
  have z3 := P2.out.cell3
  have OO := Lib.hid (sgO_of HO.out).2
  have E := Lib.hid (waitV_yes HO.out)
  have HL2 := Lib.hid hl
  have HLL := Lib.hid hll
  clear hl hll HL
  go_upto_region 5 with fail
  go_upto_region 6 with (go_at_call 42; refine (RT.out OO.out _ B2.out).mono ?_; rintro e w3 ⟨v3, rfl, o3, b3⟩; obtain ⟨a3, n3, c3, rfl⟩ := own_is_slice o3; have hn3 := o3.len; rw [rdL_len] at hn3; subst hn3)
  have B3 := Lib.hid (B2.out.trans (b3.mono B2.out.size))
  have O3 := Lib.hid (O2.out.below b3)
  clear z0 z1 z2 z3 b3
  have R3 := Lib.hid o3
  clear o3
  rcases Nat.eq_zero_or_pos S.size with h0 | h0
  · have E0 := Lib.hid (show waitV s S = 0 by rw [E.out, h0]; rfl)
    rw [h0]
    clear h0
    go_wp2_with fail
    refine wp_loop_rounds 1 ?_
    rw [rounds_succ]
    go_wp2_with fail
    go_ret
    exact ⟨ret_int E0.out.symm, B3.out⟩
  obtain ⟨g, cap, e⟩ := O3.out.some (by have := HLL.out; omega)
  simp only [Value.slice.injEq] at e
  obtain ⟨rfl, -, rfl⟩ := e
  obtain ⟨g2, cap2, e⟩ := R3.out.some (by rw [rdL_len]; exact h0)
  simp only [Value.slice.injEq] at e
  obtain ⟨rfl, -, rfl⟩ := e
  have CL := Lib.hid (fun (k : Nat) (hk : k < S.size) => show w3.cell? ⟨g, k, none⟩ = some (.int .i64 (stA s S k)) from by
    have q := O3.out.at (j := k) (by have := HLL.out; omega)
    rw [HL2.out, stL_at hk] at q
    exact q)
  have CR := Lib.hid (fun (k : Nat) (hk : k < S.size) => show w3.cell? ⟨g2, k, none⟩ = some (.int .i64 (rdy s S k)) from by
    have q := R3.out.at (j := k) (by rw [rdL_len]; exact hk)
    rw [rdL_at hk] at q
    exact q)
  have WR := Lib.hid (fun (k : Nat) (hk : k ≤ S.size) => wtTo_range HO.out hk)
  have SR := Lib.hid (fun (k : Nat) (hk : k < S.size) => stA_nonneg HO.out hk)
  have RR := Lib.hid (fun (k : Nat) (hk : k < S.size) => rdy_range HO.out hk)
  have WS := Lib.hid (fun (k : Nat) => show wtTo s S (k + 1) = wtTo s S k + (stA s S k - rdy s S k) from rfl)
  obtain ⟨N, hN⟩ : ∃ n, n = S.size := ⟨_, rfl⟩
  have E := Lib.hid (show waitV s S = wtTo s S N by rw [hN]; exact E.out)
  rw [← hN] at CL CR WR SR RR hn12 h0 ⊢
  clear hN h0
  go_wp2_with fail
  go_loopw [7, 22] (fun x i wr => ∃ (k : Nat), k ≤ N ∧ i = .int .i64 k ∧ x = .int .i64 (wtTo s S k) ∧ wr = w3) (fun _ i _ => N - (intOf i).toNat)
  case atStart => exact ⟨0, by omega, rfl, rfl, rfl⟩
  case round =>
    obtain ⟨k, hk, rfl, rfl, rfl⟩ := hrel
    by_cases hlt : k < N
    · have cl := CL.out k hlt
      have cr := CR.out k hlt
      have r1 := WR.out k hk
      have r2 := SR.out k hlt
      have r3 := RR.out k hlt
      have W1 := WS.out k
      obtain ⟨x, hx⟩ : ∃ x, x = wtTo s S k := ⟨_, rfl⟩
      obtain ⟨y, hy⟩ : ∃ x, x = stA s S k := ⟨_, rfl⟩
      obtain ⟨z, hz⟩ : ∃ x, x = rdy s S k := ⟨_, rfl⟩
      rw [← hx] at r1 W1 ⊢
      rw [← hy] at r2 cl W1
      rw [← hz] at r3 cr W1
      have W1 := Lib.hid W1
      have hki : (k : Int) < (N : Int) := by omega
      have hx2 : x ≤ 38400 := by omega
      obtain ⟨r1, -⟩ := r1
      obtain ⟨r2, r2'⟩ := r2
      obtain ⟨r3, r3'⟩ := r3
      clear hx hy hz
      go_wp2_with fail
      go_roundw
      case rel => exact ⟨k + 1, by omega, by go_num, by rw [W1.out], by first | trivial | rfl⟩
      case measure => simp [intOf]; omega
    · obtain rfl : k = N := by omega
      go_wp2_with fail
      go_ret
      exact ⟨ret_int E.out.symm, B3.out⟩

end Go.Proofs.Ytlcmkocbpnekhaa
