/-
  Texts that one more event makes legal, plainly: no one comes twice. No walk.
-/
import Derived.Test.YtilkphehonilbaaBlockH
namespace Go.Proofs.Ytilkphehonilbaa

/-- A text with letter k put in at place p. -/
def insAt (S : ByteArray) (p k : Nat) : ByteArray := S.extract 0 p ++ ltS k ++ S.extract p S.size
theorem insAt_size (S : ByteArray) (p k : Nat) : (insAt S p k).size ≤ 2 * S.size + 1 := by
  unfold insAt
  simp only [ByteArray.size_append, ByteArray.size_extract, ltS_size]
  omega
/-- Those among the first m places and letters that are legal. -/
def repTo (S : ByteArray) : Nat → List ByteArray
  | 0 => []
  | m + 1 => if bkLegal (insAt S (m / 7) (m % 7)) then repTo S m ++ [insAt S (m / 7) (m % 7)] else repTo S m
def repL (S : ByteArray) : List ByteArray := if S.size < 30 then repTo S (7 * (S.size + 1)) else []
theorem repTo_length (S : ByteArray) (k : Nat) : (repTo S k).length ≤ k := by
  induction k with
  | zero => exact Nat.le_refl _
  | succ k ih => simp only [repTo]; split <;> first | omega | (simp only [List.length_append, List.length_cons, List.length_nil]; omega)
theorem repTo_step (S : ByteArray) {p k : Nat} (hk : k < 7) : repTo S (7 * p + (k + 1)) = if bkLegal (insAt S p k) then repTo S (7 * p + k) ++ [insAt S p k] else repTo S (7 * p + k) := by
  have e1 : (7 * p + k) / 7 = p := by omega
  have e2 : (7 * p + k) % 7 = k := by omega
  rw [show 7 * p + (k + 1) = (7 * p + k) + 1 by omega]
  simp only [repTo, e1, e2]
theorem repTo_yes {S : ByteArray} {p k : Nat} (hk : k < 7) (h : bkLegal (insAt S p k) = true) : repTo S (7 * p + (k + 1)) = repTo S (7 * p + k) ++ [insAt S p k] := by rw [repTo_step S hk, h, if_pos rfl]
theorem repTo_no {S : ByteArray} {p k : Nat} (hk : k < 7) (h : bkLegal (insAt S p k) = false) : repTo S (7 * p + (k + 1)) = repTo S (7 * p + k) := by rw [repTo_step S hk, h]; rfl
theorem repL_long {S : ByteArray} (h : 30 ≤ (S.size : Int)) : repL S = [] := by unfold repL; rw [if_neg (by omega)]
theorem repL_is {S : ByteArray} (h : (S.size : Int) < 30) : repL S = repTo S (7 * (S.size + 1)) := by unfold repL; rw [if_pos (by omega)]
theorem repL_length (S : ByteArray) : (repL S).length ≤ 210 := by
  unfold repL
  split
  · have := repTo_length S (7 * (S.size + 1)); omega
  · simp

/-- The bytes as a list. -/
def bl (S : ByteArray) : List UInt8 := S.data.toList
theorem bl_length (S : ByteArray) : (bl S).length = S.size := by unfold bl; rw [Array.length_toList]; rfl
theorem bt_bl (S : ByteArray) (i : Nat) : bt S i = (((bl S)[i]?.getD 0).toNat : Int) := by
  unfold bt bl
  congr 2
  by_cases h : i < S.size
  · rw [getElem?_pos S i h, List.getElem?_eq_getElem (by rw [Array.length_toList]; exact h)]
    simp only [Array.getElem_toList]
    rfl
  · rw [getElem?_neg S i h, List.getElem?_eq_none (by rw [Array.length_toList]; exact Nat.le_of_not_lt h)]
theorem bl_ins {S : ByteArray} {p : Nat} (k : Nat) (_h : p ≤ S.size) : bl (insAt S p k) = (bl S).take p ++ ltB k :: (bl S).drop p := by
  unfold bl insAt ltS
  simp only [ByteArray.data_append, ByteArray.data_extract, Array.toList_append, Array.toList_extract, List.extract_eq_take_drop, List.drop_zero, Nat.sub_zero, List.append_assoc, List.singleton_append]
  congr 2
  rw [List.take_of_length_le]
  rw [List.length_drop, Array.length_toList]
  exact Nat.le_refl _
theorem ltB_inj {k j : Nat} (hk : k < 7) (hj : j < 7) (h : ltB k = ltB j) : k = j := by
  have h1 : k = 0 ∨ k = 1 ∨ k = 2 ∨ k = 3 ∨ k = 4 ∨ k = 5 ∨ k = 6 := by omega
  have h2 : j = 0 ∨ j = 1 ∨ j = 2 ∨ j = 3 ∨ j = 4 ∨ j = 5 ∨ j = 6 := by omega
  rcases h1 with rfl | rfl | rfl | rfl | rfl | rfl | rfl <;> rcases h2 with rfl | rfl | rfl | rfl | rfl | rfl | rfl <;> first | rfl | exact absurd h (by decide)

/-- No event twice in a row. -/
theorem legal_to {S : ByteArray} (h : bkLegal S = true) {k : Nat} (hk : k ≤ S.size) : ∃ x, bkTo nb S k = some x := by
  cases e : bkTo nb S k with
  | none =>
    unfold bkLegal at h
    rw [bkRun_none hk e] at h
    cases h
  | some x => exact ⟨x, rfl⟩
theorem twice_not {S : ByteArray} (h : bkLegal S = true) {i : Nat} (hi : i + 1 < S.size) : bt S i ≠ bt S (i + 1) := by
  intro e
  obtain ⟨x, hx⟩ := legal_to h (k := i) (by omega)
  obtain ⟨y, hy⟩ := legal_to h (k := i + 1) (by omega)
  obtain ⟨z, hz⟩ := legal_to h (k := i + 2) (by omega)
  rw [bkTo_succ hx] at hy
  rw [bkTo_succ (show bkTo nb S (i + 1) = some y by rw [bkTo_succ hx]; exact hy), ← e, bkStep_twice hy] at hz
  cases hz

/-- At two places the same text does not come. -/
theorem ins_lt {S : ByteArray} {p q k j : Nat} (hpq : p < q) (hq : q ≤ S.size) (h : bkLegal (insAt S p k) = true) (e : insAt S p k = insAt S q j) : False := by
  have hp : p ≤ S.size := by omega
  have hpl : p < (bl S).length := by rw [bl_length]; omega
  have e1 := congrArg bl e
  rw [bl_ins k hp, bl_ins j hq] at e1
  have a1 : (bl (insAt S p k))[p]? = some (ltB k) := by
    rw [bl_ins k hp, List.getElem?_append_right (by rw [List.length_take]; omega), List.length_take, Nat.min_eq_left (by omega), Nat.sub_self]
    rfl
  have a2 : (bl (insAt S p k))[p + 1]? = (bl S)[p]? := by
    rw [bl_ins k hp, List.getElem?_append_right (by rw [List.length_take]; omega), List.length_take, Nat.min_eq_left (by omega), show p + 1 - p = 1 by omega, List.getElem?_cons_succ, List.getElem?_drop, Nat.add_zero]
  have a3 : (bl (insAt S p k))[p]? = (bl S)[p]? := by
    rw [bl_ins k hp, e1, List.getElem?_append_left (by rw [List.length_take]; omega), List.getElem?_take, if_pos hpq]
  have hsz : p + 1 < (insAt S p k).size := by
    rw [← bl_length, bl_ins k hp, List.length_append, List.length_cons, List.length_take, List.length_drop]
    omega
  refine twice_not h hsz ?_
  rw [bt_bl, bt_bl, a3, a2]
theorem ins_inj {S : ByteArray} {p q k j : Nat} (hp : p ≤ S.size) (hq : q ≤ S.size) (hk : k < 7) (hj : j < 7) (h : bkLegal (insAt S p k) = true) (e : insAt S p k = insAt S q j) : p = q ∧ k = j := by
  rcases Nat.lt_trichotomy p q with hlt | rfl | hlt
  · exact (ins_lt hlt hq h e).elim
  · refine ⟨rfl, ltB_inj hk hj ?_⟩
    have e1 := congrArg bl e
    rw [bl_ins k hp, bl_ins j hp] at e1
    exact (List.cons.inj (List.append_cancel_left e1)).1
  · exact (ins_lt hlt hp (e ▸ h) e.symm).elim
theorem repTo_mem {S X : ByteArray} {m : Nat} (h : X ∈ repTo S m) : ∃ i, i < m ∧ X = insAt S (i / 7) (i % 7) ∧ bkLegal X = true := by
  induction m with
  | zero => cases h
  | succ m ih =>
    simp only [repTo] at h
    split at h
    · rename_i hl
      rcases List.mem_append.1 h with h | h
      · obtain ⟨i, hi, hx⟩ := ih h
        exact ⟨i, by omega, hx⟩
      · rw [List.mem_singleton] at h
        subst h
        exact ⟨m, by omega, rfl, hl⟩
    · obtain ⟨i, hi, hx⟩ := ih h
      exact ⟨i, by omega, hx⟩
theorem repTo_new {S : ByteArray} {p k : Nat} (hp : p ≤ S.size) (hk : k < 7) (h : bkLegal (insAt S p k) = true) : ∀ X ∈ repTo S (7 * p + k), X ≠ insAt S p k := by
  intro X hX e
  obtain ⟨i, hi, hx, hl⟩ := repTo_mem hX
  have hm : i % 7 < 7 := Nat.mod_lt _ (by decide)
  have hd : i / 7 ≤ S.size := by omega
  obtain ⟨e1, e2⟩ := ins_inj hp hd hk hm h (e.symm.trans hx)
  omega
end Go.Proofs.Ytilkphehonilbaa
