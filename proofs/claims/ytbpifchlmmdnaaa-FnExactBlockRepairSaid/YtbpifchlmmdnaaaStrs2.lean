/-
  Two equal lists of strings, by the laws; what a repaired text is, plainly; drawn texts that may want an event. For at most 1048576 strings.
-/
import Derived.Test.YtbpifchlmmdnaaaRepS
import Derived.Test.YtbpifchlmmdnaaaDrawE
namespace Go.Proofs.Ytbpifchlmmdnaaa
open Go.RowKit Go.Sort

set_option maxHeartbeats 1000000 in
theorem sameTexts {w : World} {b1 b2 : Nat} {u v : Value} {ss : List ByteArray} (h : OwnS w b1 u ss) (h' : OwnS w b2 v ss) (hl : ss.length ≤ 1048576) :
    Calls Try.prog 49 #[u, v] w fun e w' => e = .returned (.bool true) ∧ Below w.heap.size w w' := by
  obtain ⟨a, cap, rfl, hcap, hc⟩ := h.cells
  obtain ⟨a', cap', rfl, hcap', hc'⟩ := h'.cells
  have hl' : (ss.length : Int) ≤ 1048576 := by omega
  clear h h'
  rcases hc with rfl | ⟨g, rfl, hb, hlt, hcell⟩
  · go_enter Try.func49, Try.ntmps49
    go_wp2_with fail
    refine wp_loop_rounds 1 ?_
    rw [rounds_succ]
    go_wp2_with fail
    go_ret
    exact ⟨rfl, Below.refl _ _⟩
  rcases hc' with rfl | ⟨g', rfl, hb', hlt', hcell'⟩
  · go_enter Try.func49, Try.ntmps49
    go_wp2_with fail
    refine wp_loop_rounds 1 ?_
    rw [rounds_succ]
    go_wp2_with fail
    go_ret
    exact ⟨rfl, Below.refl _ _⟩
  have HC := Lib.hid hcell
  have HC' := Lib.hid hcell'
  clear hcell hcell'
  go_enter Try.func49, Try.ntmps49
  go_wp2_with fail
  go_loopw [5] (fun i wr => ∃ k : Nat, k ≤ ss.length ∧ i = .int .i64 k ∧ Below w.heap.size w wr) (fun i _ => ss.length - (intOf i).toNat)
  case atStart => exact ⟨0, by omega, rfl, Below.refl _ _⟩
  case round =>
    obtain ⟨k, hk, rfl, hbel⟩ := hrel
    by_cases hlt2 : k < ss.length
    · obtain ⟨t, ht⟩ : ∃ t, t = ss.getD k ⟨#[]⟩ := ⟨_, rfl⟩
      have hc1 : wr.cell? ⟨g, k, none⟩ = some (.string t) := by rw [ht]; exact (hbel.cell (p := ⟨g, k, none⟩) hlt).trans (HC.out k hlt2)
      have hc2 : wr.cell? ⟨g', k, none⟩ = some (.string t) := by rw [ht]; exact (hbel.cell (p := ⟨g', k, none⟩) hlt').trans (HC'.out k hlt2)
      have d1 := fun d os => cell_regrown hc1 d os
      have d2 := fun d os => cell_regrown hc2 d os
      have hki : (k : Int) < (ss.length : Int) := by omega
      have hsz := hbel.size
      clear ht hc1 hc2
      go_wp2_with fail
      refine wp_region_quiet_below (by kernel_rfl) (by kernel_rfl) ?_
      repeat (go_big_quiet_step (fail))
      refine wpQuiet_nil ?_
      intro _ hw'
      obtain ⟨⟨dq, osq⟩, hw''⟩ := hw'
      subst hw''
      have BR := (below_regrown wr dq osq).mono hsz
      go_wp2_with fail
      go_roundw
      case rel => exact ⟨k + 1, by omega, by go_num, hbel.trans BR⟩
      case measure => simp [intOf]; omega
    · obtain rfl : k = ss.length := by omega
      go_wp2_with fail
      go_ret
      exact ⟨rfl, hbel⟩

set_option maxHeartbeats 1000000 in
theorem eqStrs {w : World} {b1 b2 : Nat} {u v : Value} {ss : List ByteArray} (h : OwnS w b1 u ss) (h' : OwnS w b2 v ss) (hl : ss.length ≤ 1048576) :
    Calls Try.prog 38 #[u, v] w fun e w' => e = .returned (.bool true) ∧ Below w.heap.size w w' := by
  obtain ⟨a, cap, rfl, hcap, hc⟩ := h.cells
  obtain ⟨a', cap', rfl, hcap', hc'⟩ := h'.cells
  have hl' : (ss.length : Int) ≤ 1048576 := by omega
  clear h h'
  rcases hc with rfl | ⟨g, rfl, hb, hlt, hcell⟩
  · go_enter Try.func38, Try.ntmps38
    go_wp2_with fail
    refine wp_loop_rounds 1 ?_
    rw [rounds_succ]
    go_wp2_with fail
    go_ret
    exact ⟨rfl, Below.refl _ _⟩
  rcases hc' with rfl | ⟨g', rfl, hb', hlt', hcell'⟩
  · go_enter Try.func38, Try.ntmps38
    go_wp2_with fail
    refine wp_loop_rounds 1 ?_
    rw [rounds_succ]
    go_wp2_with fail
    go_ret
    exact ⟨rfl, Below.refl _ _⟩
  have HC := Lib.hid hcell
  have HC' := Lib.hid hcell'
  clear hcell hcell'
  go_enter Try.func38, Try.ntmps38
  go_wp2_with fail
  go_loopw [5] (fun i wr => ∃ k : Nat, k ≤ ss.length ∧ i = .int .i64 k ∧ Below w.heap.size w wr) (fun i _ => ss.length - (intOf i).toNat)
  case atStart => exact ⟨0, by omega, rfl, Below.refl _ _⟩
  case round =>
    obtain ⟨k, hk, rfl, hbel⟩ := hrel
    by_cases hlt2 : k < ss.length
    · obtain ⟨t, ht⟩ : ∃ t, t = ss.getD k ⟨#[]⟩ := ⟨_, rfl⟩
      have hc1 : wr.cell? ⟨g, k, none⟩ = some (.string t) := by rw [ht]; exact (hbel.cell (p := ⟨g, k, none⟩) hlt).trans (HC.out k hlt2)
      have hc2 : wr.cell? ⟨g', k, none⟩ = some (.string t) := by rw [ht]; exact (hbel.cell (p := ⟨g', k, none⟩) hlt').trans (HC'.out k hlt2)
      have d1 := fun d os => cell_regrown hc1 d os
      have d2 := fun d os => cell_regrown hc2 d os
      have hki : (k : Int) < (ss.length : Int) := by omega
      have hsz := hbel.size
      clear ht hc1 hc2
      go_wp2_with fail
      refine wp_region_quiet_below (by kernel_rfl) (by kernel_rfl) ?_
      repeat (go_big_quiet_step (fail))
      refine wpQuiet_nil ?_
      intro _ hw'
      obtain ⟨⟨dq, osq⟩, hw''⟩ := hw'
      subst hw''
      have BR := (below_regrown wr dq osq).mono hsz
      go_wp2_with fail
      go_roundw
      case rel => exact ⟨k + 1, by omega, by go_num, hbel.trans BR⟩
      case measure => simp [intOf]; omega
    · obtain rfl : k = ss.length := by omega
      go_wp2_with fail
      go_ret
      exact ⟨rfl, hbel⟩

theorem bl_inj {S T : ByteArray} (h : bl S = bl T) : S = T := by
  rw [ByteArray.ext_iff, ← Array.toList_inj]
  exact h
theorem bl_drop {X : ByteArray} {p : Nat} : bl (dropAt X p) = (bl X).take p ++ (bl X).drop (p + 1) := by
  unfold bl dropAt
  simp only [ByteArray.data_append, ByteArray.data_extract, Array.toList_append, Array.toList_extract, List.extract_eq_take_drop, List.drop_zero, Nat.sub_zero]
  congr 1
  rw [List.take_of_length_le]
  rw [List.length_drop, Array.length_toList]
  exact Nat.le_refl _
/-- Without it, it is the text. -/
theorem drop_ins {S : ByteArray} {p k : Nat} (hp : p ≤ S.size) : dropAt (insAt S p k) p = S := by
  have hl : ((bl S).take p).length = p := by rw [List.length_take, bl_length]; omega
  apply bl_inj
  have hl2 : ((bl S).take p ++ [ltB k]).length = p + 1 := by rw [List.length_append, hl]; rfl
  rw [bl_drop, bl_ins k hp, List.take_left' hl, List.append_cons, List.drop_left' hl2, List.take_append_drop]
theorem ins_lt_size {S : ByteArray} {p k : Nat} (hp : p ≤ S.size) : p < (insAt S p k).size := by
  rw [← bl_length, bl_ins k hp, List.length_append, List.length_cons, List.length_take, bl_length]
  omega
theorem repTo_nodup (S : ByteArray) : ∀ m, m ≤ 7 * (S.size + 1) → (repTo S m).Pairwise (fun a b => a ≠ b) := by
  intro m
  induction m with
  | zero => intro _; exact List.Pairwise.nil
  | succ m ih =>
    intro hm
    simp only [repTo]
    split
    · rename_i hl
      rw [List.pairwise_append]
      refine ⟨ih (by omega), List.pairwise_singleton _ _, fun a ha b hb => ?_⟩
      rw [List.mem_singleton] at hb
      subst hb
      have e := repTo_new (S := S) (p := m / 7) (k := m % 7) (by omega) (Nat.mod_lt _ (by decide)) hl a
      rw [show 7 * (m / 7) + m % 7 = m by omega] at e
      exact e ha
    · exact ih (by omega)
theorem repL_nodup (S : ByteArray) : (repL S).Pairwise (fun a b => a ≠ b) := by
  unfold repL
  split
  · exact repTo_nodup S _ (Nat.le_refl _)
  · exact List.Pairwise.nil
/-- What a repaired text is. -/
theorem repL_mem {S X : ByteArray} (h : X ∈ repL S) : bkLegal X = true ∧ X.size ≤ 61 ∧ ∃ p, p < X.size ∧ dropAt X p = S := by
  unfold repL at h
  split at h
  · obtain ⟨i, hi, hx, hl⟩ := repTo_mem h
    refine ⟨hl, ?_, i / 7, ?_, ?_⟩
    · rw [hx]; have := insAt_size S (i / 7) (i % 7); omega
    · rw [hx]; exact ins_lt_size (by omega)
    · rw [hx]; exact drop_ins (by omega)
  · cases h

end Go.Proofs.Ytbpifchlmmdnaaa
