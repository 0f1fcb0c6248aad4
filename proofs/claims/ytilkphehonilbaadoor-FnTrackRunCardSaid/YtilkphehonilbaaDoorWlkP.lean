/-
  Walks seen from the other side, and beginnings of walks, plainly. No walk of code.
-/
import Derived.Test.YtilkphehonilbaaDoorTrkV
import Derived.Test.YtilkphehonilbaaDoorTrkQ
namespace Go.Proofs.YtilkphehonilbaaDoor

theorem walk_mk {ys : List ByteArray} (hp : 0 < ys.length) (hv : ∀ i, i < ys.length → trB (ys.getD i ⟨#[]⟩) = true) (hs : ∀ i, i + 1 < ys.length → isB (ys.getD i ⟨#[]⟩) (ys.getD (i + 1) ⟨#[]⟩) (ys.getD i ⟨#[]⟩).size = true) : walkB ys = true := by
  have h : ∀ n, n ≤ ys.length → wkTo ys n = true := by
    intro n
    induction n with
    | zero => intro _; rfl
    | succ n ih =>
      intro hn
      simp only [wkTo, wkOk, Bool.and_eq_true, Bool.or_eq_true, decide_eq_true_eq]
      refine ⟨ih (by omega), hv n (by omega), ?_⟩
      cases n with
      | zero => exact .inl rfl
      | succ n => exact .inr (by rw [Nat.add_sub_cancel]; exact hs n (by omega))
  unfold walkB
  rw [h _ (Nat.le_refl _), decide_eq_true hp]
  rfl
theorem walk_steps {xs : List ByteArray} (h : walkB xs = true) : ∀ i, i + 1 < xs.length → isB (xs.getD i ⟨#[]⟩) (xs.getD (i + 1) ⟨#[]⟩) (xs.getD i ⟨#[]⟩).size = true := by
  intro i hi
  unfold walkB at h
  simp only [Bool.and_eq_true, decide_eq_true_eq] at h
  have := wk_all _ h.1 (i + 1) hi
  simp only [wkOk, Bool.and_eq_true, Bool.or_eq_true, decide_eq_true_eq, Nat.add_sub_cancel] at this
  rcases this.2 with q | q
  · omega
  · exact q

/-! ### A step seen from the other side -/
theorem fl_rv {n o i : Nat} (hi : i < n) : fl (rv n (fl o i)) (n - 1 - i) = rv n o := by
  apply Nat.eq_of_testBit_eq
  intro j
  rw [fl_bit]
  unfold rv
  rw [rv_bit, rv_bit, fl_bit]
  by_cases hj : j < n
  · rw [decide_eq_true hj, Bool.true_and, Bool.true_and]
    have e : decide (i = n - 1 - j) = decide (n - 1 - i = j) := decide_eq_decide.2 ⟨fun h => by omega, fun h => by omega⟩
    rw [e]
    cases o.testBit (n - 1 - j) <;> cases decide (n - 1 - i = j) <;> rfl
  · rw [decide_eq_false hj, Bool.false_and, Bool.false_and, decide_eq_false (by omega)]
    rfl
theorem can_rv {n o i : Nat} (hi : i < n) (h : can n o i = true) : can n (rv n (fl o i)) (n - 1 - i) = true := by
  have b : ∀ j, j < n → (rv n (fl o i)).testBit j = (fl o i).testBit (n - 1 - j) := fun j hj => by
    unfold rv
    rw [rv_bit, decide_eq_true hj, Bool.true_and]
  unfold can at h ⊢
  rw [b (n - 1 - i) (by omega), show n - 1 - (n - 1 - i) = i by omega, fl_self]
  cases hb : o.testBit i with
  | true =>
    rw [hb] at h
    simp only [if_true, Bool.or_eq_true, decide_eq_true_eq] at h
    simp only [Bool.not_true, Bool.false_eq_true, if_false, Bool.or_eq_true, decide_eq_true_eq]
    by_cases e : n - 1 - i = 0
    · exact .inl e
    · refine .inr ?_
      rw [b _ (by omega), show n - 1 - (n - 1 - i - 1) = i + 1 by omega, fl_other (by omega)]
      rcases h with h | h
      · omega
      · exact h
  | false =>
    rw [hb] at h
    simp only [Bool.false_eq_true, if_false, Bool.or_eq_true, decide_eq_true_eq] at h
    simp only [Bool.not_false, if_true, Bool.or_eq_true, decide_eq_true_eq]
    by_cases e : i = 0
    · exact .inl (by omega)
    · refine .inr ?_
      rw [b _ (by omega), show n - 1 - (n - 1 - i + 1) = i - 1 by omega, fl_other (by omega)]
      rcases h with h | h
      · omega
      · exact h
theorem isSt_rv {n o p : Nat} (h : isSt n o p = true) : isSt n (rv n p) (rv n o) = true := by
  obtain ⟨i, hi, hc, rfl⟩ := isSt_is h
  exact isSt_of (by omega) (can_rv hi hc) (fl_rv hi)
theorem oc_tu {S : ByteArray} (h : trB S = true) : oc (tuS S) = rv S.size (oc S) := by rw [tuS_yes h, oc_of (rv_lt _ _)]
theorem isB_turn {S T : ByteArray} (hS : trB S = true) (hT : trB T = true) (h : isB S T S.size = true) : isB (tuS T) (tuS S) (tuS T).size = true := by
  rw [isB_is hS hT, Bool.and_eq_true, decide_eq_true_eq] at h
  have s := tu_facts hS
  have t := tu_facts hT
  rw [isB_is t.1 s.1, s.2.2.2, t.2.2.2, decide_eq_true h.1.symm, Bool.true_and, oc_tu hS, oc_tu hT, ← h.1]
  exact isSt_rv h.2

/-! ### Walks -/
def bkL (xs : List ByteArray) (k : Nat) : List ByteArray := (List.range k).map fun j => tuS (xs.getD (xs.length - 1 - j) ⟨#[]⟩)
theorem bkL_length (xs : List ByteArray) (k : Nat) : (bkL xs k).length = k := by simp [bkL]
theorem bkL_succ (xs : List ByteArray) (k : Nat) : bkL xs (k + 1) = bkL xs k ++ [tuS (xs.getD (xs.length - 1 - k) ⟨#[]⟩)] := by
  unfold bkL
  rw [List.range_succ, List.map_append]
  rfl
theorem bkL_get {xs : List ByteArray} {j k : Nat} (h : j < k) : (bkL xs k).getD j ⟨#[]⟩ = tuS (xs.getD (xs.length - 1 - j) ⟨#[]⟩) := by
  unfold bkL
  rw [List.getD_eq_getElem?_getD, List.getElem?_map, List.getElem?_range h]
  rfl
theorem walk_back {xs : List ByteArray} (h : walkB xs = true) : walkB (bkL xs xs.length) = true := by
  obtain ⟨hp, hall⟩ := walk_sizes h
  have hst := walk_steps h
  refine walk_mk (by rw [bkL_length]; exact hp) ?_ ?_
  · intro i hi
    rw [bkL_length] at hi
    rw [bkL_get hi]
    exact (tu_facts (hall _ (by omega)).1).1
  · intro i hi
    rw [bkL_length] at hi
    rw [bkL_get hi, bkL_get (by omega)]
    have := hst (xs.length - 1 - (i + 1)) (by omega)
    rw [show xs.length - 1 - (i + 1) + 1 = xs.length - 1 - i by omega] at this
    exact isB_turn (hall _ (by omega)).1 (hall _ (by omega)).1 this
theorem take_get {xs : List ByteArray} {i m : Nat} (h : i < m) : (xs.take m).getD i ⟨#[]⟩ = xs.getD i ⟨#[]⟩ := by simp [List.getD_eq_getElem?_getD, h]
theorem walk_take {xs : List ByteArray} {m : Nat} (h : walkB xs = true) (hm : 1 ≤ m) (hm2 : m ≤ xs.length) : walkB (xs.take m) = true := by
  obtain ⟨hp, hall⟩ := walk_sizes h
  have hst := walk_steps h
  have hl : (xs.take m).length = m := by rw [List.length_take, Nat.min_eq_left hm2]
  refine walk_mk (by omega) ?_ ?_
  · intro i hi
    rw [take_get (by omega)]
    exact (hall i (by omega)).1
  · intro i hi
    rw [take_get (by omega), take_get (by omega)]
    exact hst i (by omega)

/-! ### Trains that enter -/
def enB (xs : List ByteArray) (j : Nat) : Bool := !(oc (xs.getD j ⟨#[]⟩)).testBit 0 && (oc (xs.getD (j + 1) ⟨#[]⟩)).testBit 0
def enTo (xs : List ByteArray) : Nat → Int
  | 0 => 0
  | k + 1 => enTo xs k + (if enB xs k then 1 else 0)
theorem enTo_range (xs : List ByteArray) : ∀ k : Nat, 0 ≤ enTo xs k ∧ enTo xs k ≤ (k : Int) := by
  intro k
  induction k with
  | zero => simp [enTo]
  | succ k ih => simp only [enTo]; split <;> omega
theorem ps_en {xs : List ByteArray} (h : walkB xs = true) : ∀ k, k ≤ xs.length - 1 → psTo (bkL xs xs.length) k + enTo xs (xs.length - 1 - k) = enTo xs (xs.length - 1) := by
  obtain ⟨hp, hall⟩ := walk_sizes h
  intro k
  induction k with
  | zero => intro _; simp [psTo]
  | succ k ih =>
    intro hk
    have ih := ih (by omega)
    obtain ⟨j, hj⟩ : ∃ j, xs.length - 1 - k = j + 1 := ⟨xs.length - 1 - k - 1, by omega⟩
    have hj2 : xs.length - 1 - (k + 1) = j := by omega
    have a1 := hall (j + 1) (by omega)
    have a0 := hall j (by omega)
    have az := hall (xs.length - 1 - 0) (by omega)
    have e : psB (bkL xs xs.length) k = enB xs j := by
      unfold psB enB
      rw [bkL_get (by omega), bkL_get (by omega), bkL_get (by omega), hj, show xs.length - 1 - (k + 1) = j by omega, oc_tu a1.1, oc_tu a0.1, (tu_facts az.1).2.2.2, az.2]
      unfold rv
      have p0 := (trB_of (hall 0 hp).1).1
      rw [rv_bit, rv_bit, a1.2, a0.2, decide_eq_true (by omega), Bool.true_and, Bool.true_and, show (xs.getD 0 ⟨#[]⟩).size - 1 - ((xs.getD 0 ⟨#[]⟩).size - 1) = 0 by omega, Bool.and_comm]
    rw [hj] at ih
    rw [hj2]
    simp only [psTo]
    simp only [enTo] at ih
    rw [e]
    omega
theorem psV_back {xs : List ByteArray} (h : walkB xs = true) : psV (bkL xs xs.length) = enTo xs (xs.length - 1) := by
  unfold psV
  rw [walk_back h, if_pos rfl, bkL_length]
  have := ps_en h (xs.length - 1) (Nat.le_refl _)
  rw [Nat.sub_self] at this
  simpa [enTo] using this

end Go.Proofs.YtilkphehonilbaaDoor
