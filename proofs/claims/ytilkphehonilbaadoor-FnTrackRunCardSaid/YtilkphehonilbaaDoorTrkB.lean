/-
  The program's track of a text. For texts of at most 1048576 bytes.
-/
import Derived.Test.YtilkphehonilbaaDoorTrkA
namespace Go.Proofs.YtilkphehonilbaaDoor
open Go.RowKit Go.Sort

set_option maxHeartbeats 400000 in
theorem circuits_is (n : Int) (w : World) :
    Calls Tryd.prog 36 #[.int .i64 n] w fun e w' => e = .returned (.bool (decide (1 ≤ n ∧ n ≤ 8))) ∧ w = w' := by
  obtain ⟨t, ht⟩ : ∃ t, t = decide (1 ≤ n ∧ n ≤ 8) := ⟨_, rfl⟩
  rw [← ht]
  by_cases h1 : n < 1
  · have E := Lib.hid (show t = false by rw [ht]; exact decide_eq_false (by omega))
    clear ht
    go_enter Tryd.func36, Tryd.ntmps36
    go_wp2_with fail
    go_ret
    exact ⟨ret_bool E.out.symm, rfl⟩
  · by_cases h2 : 8 < n
    · have E := Lib.hid (show t = false by rw [ht]; exact decide_eq_false (by omega))
      have h3 : decide (n ≤ 8) = false := decide_eq_false (by omega)
      clear ht
      go_enter Tryd.func36, Tryd.ntmps36
      go_wp2_with fail
      go_ret
      exact ⟨ret_bool E.out.symm, rfl⟩
    · have E := Lib.hid (show t = true by rw [ht]; exact decide_eq_true (by omega))
      clear ht
      go_enter Tryd.func36, Tryd.ntmps36
      go_wp2_with fail
      go_ret
      exact ⟨ret_bool E.out.symm, rfl⟩

theorem index_is {S : ByteArray} {k : Nat} (h : k < S.size) (w : World) : (Instr.index 9 (.string S) (.int .i64 k)).run Tryd.prog w = .ok (.int .u8 (bt S k)) w := by
  rw [run_index_string _ _ _ _ _ Tryd.underlying9, dif_pos ⟨by omega, by omega⟩, ← bt_get h]
  rfl
theorem oc_small {S : ByteArray} {k : Nat} (h : k ≤ 8) : ocTo S k < 256 := Nat.lt_of_lt_of_le (oc_lt S k) (show 2 ^ k ≤ 2 ^ 8 from Nat.pow_le_pow_right (by omega) h)
theorem oc_one {S : ByteArray} {k : Nat} (h : bt S k = 49) : ocTo S (k + 1) = fl (ocTo S k) k := by simp [ocTo, h]
theorem oc_zero {S : ByteArray} {k : Nat} (h : bt S k ≠ 49) : ocTo S (k + 1) = ocTo S k := by simp [ocTo, h]

/-- The track of a text, and whether it is one. -/
def tkO (S : ByteArray) : Value := if trB S then tkc S.size (oc S) else tkc 0 0
theorem tkO_no {S : ByteArray} (h : trB S = false) : tkO S = tkc 0 0 := by unfold tkO; rw [h]; rfl
theorem tkO_yes {S : ByteArray} (h : trB S = true) : tkO S = tkc S.size (oc S) := by unfold tkO; rw [h]; rfl
theorem tkO_shape (S : ByteArray) : ∃ a n : Nat, tkO S = .agg #[.int .u64 a, .int .i64 n] := by
  unfold tkO tkc
  split
  · exact ⟨_, _, rfl⟩
  · exact ⟨_, _, rfl⟩

set_option maxHeartbeats 4000000 in
theorem trackOf_is (S : ByteArray) (hS : S.size ≤ 1048576) (w : World) :
    Calls Tryd.prog 32 #[.string S] w fun e w' => e = .returned (.tuple #[tkO S, .bool (trB S)]) ∧ Below w.heap.size w w' := by
  have hSi : (S.size : Int) ≤ 1048576 := by omega
  have CV := circuits_is S.size
  have CO := consistsOf S 48 49 (by decide) (by decide) (by omega)
  have p := Pair.new w (.int .u64 0) (.int .i64 0) 54
  have q := below_alloc w (.cells #[.int .u64 0, .int .i64 0] 54)
  obtain ⟨W, hW⟩ : ∃ W, W = w.alloc (.cells #[.int .u64 0, .int .i64 0] 54) := ⟨_, rfl⟩
  rw [← hW] at p q
  have HW := Lib.hid hW
  have P := Lib.hid p
  have Q := Lib.hid q
  have k0 := p.cell0
  have k1 := p.cell1
  have f0 := p.frozen 0
  have f1 := p.frozen 1
  clear hW p q
  by_cases hn : ¬ (1 ≤ (S.size : Int) ∧ (S.size : Int) ≤ 8)
  · rw [decide_eq_false hn] at CV
    have N := trB_long (S := S) (by omega)
    have E := Lib.hid (And.intro (tkO_no N) N)
    have CV := Lib.hid CV
    clear hn N CO
    go_enter Tryd.func32, Tryd.ntmps32
    go_upto_region 1 with fail
    rw [← HW.out]
    go_wp2_with (go_at_call 36; refine (CV.out _).mono ?_; rintro e w1 ⟨rfl, rfl⟩)
    have z := pair_stored P.out (.int .u64 0) (.int .i64 0)
    have z0 := z.cell0
    have z1 := z.cell1
    have qq := pair_below Q.out (Nat.le_refl _) (.int .u64 0) (.int .i64 0)
    exact bodyPost_ret (v := .tuple #[tkc 0 0, .bool false]) (by simp [results, Tryd.results32, go_sem, z0, z1, tkc]) rfl ⟨by rw [E.out.1, E.out.2], qq⟩
  have hn := Decidable.not_not.1 hn
  rw [decide_eq_true hn] at CV
  have CV := Lib.hid CV
  have hsz : 1 ≤ S.size ∧ S.size ≤ 8 := by omega
  have TB := trB_is hsz
  have CO := (show ∀ w : World, Calls Tryd.prog 51 #[.string S, .string ⟨#[48, 49]⟩] w fun e w' => e = .returned (.bool (onlyB 48 49 S)) ∧ Below w.heap.size w w' from CO)
  rw [← TB] at CO
  have h8 : (S.size : Int) ≤ 8 := hn.2
  obtain ⟨t, ht⟩ : ∃ t, t = trB S := ⟨_, rfl⟩
  rw [← ht] at CO
  have CO := Lib.hid CO
  clear hn TB
  cases t
  · have E := Lib.hid (And.intro (tkO_no ht.symm) ht.symm)
    clear ht
    go_enter Tryd.func32, Tryd.ntmps32
    go_upto_region 1 with fail
    rw [← HW.out]
    go_wp2_with (first | (go_at_call 36; refine (CV.out _).mono ?_; rintro e w1 ⟨rfl, rfl⟩) | (go_at_call 51; refine (CO.out _).mono ?_; rintro e w2 ⟨rfl, b2⟩; have y0 := (P.out.below b2).cell0; have y1 := (P.out.below b2).cell1; have g0 := (P.out.below b2).frozen 0; have g1 := (P.out.below b2).frozen 1))
    have z := pair_stored (P.out.below b2) (.int .u64 0) (.int .i64 0)
    have z0 := z.cell0
    have z1 := z.cell1
    have qq := pair_below (chain Q.out b2) (Nat.le_refl _) (.int .u64 0) (.int .i64 0)
    exact bodyPost_ret (v := .tuple #[tkc 0 0, .bool false]) (by simp [results, Tryd.results32, go_sem, z0, z1, tkc]) rfl ⟨by rw [E.out.1, E.out.2], qq⟩
  have E := Lib.hid (And.intro (tkO_yes ht.symm) ht.symm)
  have HSZ := Lib.hid hsz
  clear ht hsz
  go_enter Tryd.func32, Tryd.ntmps32
  go_upto_region 1 with fail
  rw [← HW.out]
  go_wp2_with (first | (go_at_call 36; refine (CV.out _).mono ?_; rintro e w1 ⟨rfl, rfl⟩) | (go_at_call 51; refine (CO.out _).mono ?_; rintro e w2 ⟨rfl, b2⟩))
  have p2 := Pair.new w2 (.int .u64 0) (.int .i64 S.size) 54
  have p1 := (P.out.below b2).alloc (.cells #[.int .u64 0, .int .i64 S.size] 54)
  have q0 := chain Q.out b2
  have hB : w.heap.size < w2.heap.size := Nat.lt_of_lt_of_le P.out.lt b2.size
  have q2 := q0.alloc q0.size (.cells #[.int .u64 0, .int .i64 S.size] 54)
  obtain ⟨B, hBB⟩ : ∃ B, B = w2.heap.size := ⟨_, rfl⟩
  obtain ⟨W2, hW2⟩ : ∃ X, X = w2.alloc (.cells #[.int .u64 0, .int .i64 S.size] 54) := ⟨_, rfl⟩
  rw [← hBB] at p2 hB ⊢
  rw [← hW2] at p1 p2 q2 ⊢
  have P1 := Lib.hid p1
  have P2 := Lib.hid p2
  have Q2 := Lib.hid q2
  clear p1 p2 q2 q0 b2 hW2 hBB k0 k1 f0 f1
  go_loopw [5, 21] (fun _ i wr => ∃ k : Nat, k ≤ S.size ∧ i = .int .i64 k ∧ Pair wr w.heap.size (.int .u64 0) (.int .i64 0) 54 ∧ Pair wr B (.int .u64 (ocTo S k : Nat)) (.int .i64 S.size) 54 ∧ Below w.heap.size w wr) (fun _ i _ => S.size - (intOf i).toNat)
  case atStart => exact ⟨0, by omega, rfl, P1.out, P2.out, Q2.out⟩
  case round =>
    clear P1 P2 Q2
    obtain ⟨k, hk, rfl, p1, p2, hbel⟩ := hrel
    have P1 := Lib.hid p1
    have P2 := Lib.hid p2
    have k2 := p2.cell0
    have k3 := p2.cell1
    have B0 := Lib.hid hbel
    by_cases hlt : k < S.size
    · have hki : (k : Int) < (S.size : Int) := by omega
      have hix := index_is hlt
      have ON := @oc_one S k
      have ZE := @oc_zero S k
      obtain ⟨c, hc⟩ : ∃ c, c = bt S k := ⟨_, rfl⟩
      rw [← hc] at hix ON ZE
      have hk8 : k < 8 := by have := HSZ.out; omega
      have CH := Lib.hid (changed_is S.size (ocTo S k) k (oc_small (by omega)) hk8)
      clear hc p1 p2 hbel
      by_cases h1 : c = 49
      · have ON2 := Lib.hid (ON h1)
        clear ON
        subst h1
        clear ZE
        unfold tkc at CH
        go_wp2_with (go_at_call 37; refine (CH.out _).mono ?_; rintro e w3 ⟨rfl, b3⟩; have y0 := (P2.out.below b3).cell0; have y1 := (P2.out.below b3).cell1; have g0 := (P2.out.below b3).frozen 0; have g1 := (P2.out.below b3).frozen 1)
        have P2' := Lib.hid (pair_stored (P2.out.below b3) (.int .u64 (fl (ocTo S k) k : Nat)) (.int .i64 S.size))
        have P1' := Lib.hid (((P1.out.below b3).other (a := ⟨B, 0, none⟩) (Nat.ne_of_lt hB) (.int .u64 (fl (ocTo S k) k : Nat))).other (a := ⟨B, 1, none⟩) (Nat.ne_of_lt hB) (.int .i64 S.size))
        have Q' := Lib.hid (pair_below (chain B0.out b3) (show w.heap.size ≤ B by omega) (.int .u64 (fl (ocTo S k) k : Nat)) (.int .i64 S.size))
        clear b3
        go_roundw
        case rel => exact ⟨k + 1, by omega, by go_num, P1'.out, by rw [ON2.out]; exact P2'.out, Q'.out⟩
        case measure => simp [intOf]; omega
      · have ZE := Lib.hid (ZE h1)
        have t1 : (c == 49) = false := by simp [h1]
        clear h1 ON
        go_wp2_with fail
        go_roundw
        case rel => exact ⟨k + 1, by omega, by go_num, P1.out, by rw [ZE.out]; exact P2.out, B0.out⟩
        case measure => simp [intOf]; omega
    · obtain rfl : k = S.size := by omega
      have f0 := p1.frozen 0
      have f1 := p1.frozen 1
      have k4 := p1.cell0
      have k5 := p1.cell1
      clear p1 p2 hbel
      go_wp2_with fail
      have z := pair_stored P1.out (.int .u64 (ocTo S S.size : Nat)) (.int .i64 S.size)
      have z0 := z.cell0
      have z1 := z.cell1
      have qq := pair_below B0.out (Nat.le_refl _) (.int .u64 (ocTo S S.size : Nat)) (.int .i64 S.size)
      exact bodyPost_ret (v := .tuple #[.agg #[.int .u64 (ocTo S S.size : Nat), .int .i64 S.size], .bool true]) (by simp [results, Tryd.results32, go_sem, z0, z1]) rfl ⟨by rw [E.out.1, E.out.2]; rfl, qq⟩

set_option maxHeartbeats 1000000 in
theorem specTrackValid (S : ByteArray) (hS : S.size ≤ 1048576) (w : World) :
    Calls Tryd.prog 30 #[.string S] w fun e w' => e = .returned (.bool (trB S)) ∧ Below w.heap.size w w' := by
  have hSI : (S.size : Int) ≤ 1048576 := by omega
  have IL := Lib.hid (in_is S.size 1 8)
  go_enter Tryd.func30, Tryd.ntmps30
  go_wp2_with fail
  go_loopw [3] (fun i wr => ∃ k : Nat, k ≤ S.size ∧ i = .int .i64 k ∧ Hid (∀ j, j < k → bt S j = 48 ∨ bt S j = 49) ∧ Below w.heap.size w wr) (fun i _ => S.size - (intOf i).toNat)
  case atStart => exact ⟨0, by omega, rfl, Lib.hid (fun j hj => by omega), below_self _⟩
  case round =>
    obtain ⟨k, hk, rfl, UD, hbel⟩ := hrel
    by_cases hlt : k < S.size
    · have hki : (k : Int) < (S.size : Int) := by omega
      have hix := index_is hlt
      obtain ⟨c, hc⟩ : ∃ c, c = bt S k := ⟨_, rfl⟩
      rw [← hc] at hix
      have HC := Lib.hid hc
      clear hc
      by_cases h1 : c = 48
      · subst h1
        go_wp2_with fail
        go_roundw
        case rel => exact ⟨k + 1, by omega, by go_num, Lib.hid (fun j hj => by
            by_cases e : j = k
            · subst e; exact .inl HC.out.symm
            · exact UD.out j (by omega)), hbel⟩
        case measure => simp [intOf]; omega
      · by_cases h2 : c = 49
        · subst h2
          go_wp2_with fail
          go_roundw
          case rel => exact ⟨k + 1, by omega, by go_num, Lib.hid (fun j hj => by
              by_cases e : j = k
              · subst e; exact .inr HC.out.symm
              · exact UD.out j (by omega)), hbel⟩
          case measure => simp [intOf]; omega
        · have N := Lib.hid (show trB S = false by
            unfold trB
            rw [onlyB_no hlt (by rw [← HC.out]; omega), Bool.and_false])
          have t1 : (c != 48) = true := by simp [h1]
          have t2 : (c != 49) = true := by simp [h2]
          clear h1 h2
          go_wp2_with fail
          go_ret
          exact ⟨ret_bool N.out.symm, hbel⟩
    · obtain rfl : k = S.size := by omega
      have E := show trB S = decide (1 ≤ (S.size : Int) ∧ (S.size : Int) ≤ 8) by
        unfold trB
        rw [onlyB_yes UD.out, Bool.and_true]
        exact decide_eq_decide.2 ⟨fun h => by omega, fun h => by omega⟩
      obtain ⟨t, ht⟩ : ∃ t, t = decide (1 ≤ (S.size : Int) ∧ (S.size : Int) ≤ 8) := ⟨_, rfl⟩
      rw [← ht] at IL E
      have E := Lib.hid E
      clear ht
      go_wp2_with (go_at_call 38; refine (IL.out _).mono ?_; rintro e w1 ⟨rfl, rfl⟩)
      go_ret
      exact ⟨ret_bool E.out.symm, hbel⟩

end Go.Proofs.YtilkphehonilbaaDoor
