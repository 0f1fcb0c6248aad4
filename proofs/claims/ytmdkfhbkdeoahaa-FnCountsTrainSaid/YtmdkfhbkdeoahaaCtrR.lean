/-
  Net numbers added up, plainly. No walk.
-/
import Derived.Test.YtmdkfhbkdeoahaaCtrQ
namespace Go.Proofs.Ytmdkfhbkdeoahaa

theorem addr_at (a j : Nat) : (⟨a, 0, none⟩ : Addr).add j = ⟨a, 0 + j, none⟩ := by
  unfold Addr.add
  split
  · next h => rw [h]
  · rfl
theorem getD_low {ps qs : List Int} {j : Nat} (h : j < ps.length) : (ps ++ qs).getD j 0 = ps.getD j 0 := by simp [List.getD_eq_getElem?_getD, List.getElem?_append_left h]
theorem getD_high {ps qs : List Int} {j : Nat} : (ps ++ qs).getD (ps.length + j) 0 = qs.getD j 0 := by
  rw [List.getD_eq_getElem?_getD, List.getElem?_append_right (by omega), Nat.add_sub_cancel_left, ← List.getD_eq_getElem?_getD]
theorem netF_succ (ps : List Int) (c k : Nat) : netF ps c (k + 1) = netF ps c k + (if pc (ps.getD k 0) = c then sg (ps.getD k 0) else 0) := by
  simp only [netF]
theorem netF_low (ps qs : List Int) (c : Nat) : ∀ k, k ≤ ps.length → netF (ps ++ qs) c k = netF ps c k := by
  intro k
  induction k with
  | zero => intro _; rfl
  | succ k ih => intro hk; rw [netF_succ, netF_succ, ih (by omega), getD_low (by omega)]
theorem netF_high (ps qs : List Int) (c : Nat) : ∀ k, k ≤ qs.length → netF (ps ++ qs) c (ps.length + k) = netF ps c ps.length + netF qs c k := by
  intro k
  induction k with
  | zero => intro _; rw [Nat.add_zero, netF_low _ _ _ _ (Nat.le_refl _)]; simp [netF]
  | succ k ih => intro hk; rw [← Nat.add_assoc, netF_succ, netF_succ, ih (by omega), getD_high]; omega
/-- The pulses' signs, added up. -/
def sgTo (ps : List Int) : Nat → Int
  | 0 => 0
  | k + 1 => sgTo ps k + sg (ps.getD k 0)
theorem sgTo_range (ps : List Int) : ∀ k : Nat, -(k : Int) ≤ sgTo ps k ∧ sgTo ps k ≤ (k : Int) := by
  intro k
  induction k with
  | zero => simp [sgTo]
  | succ k ih =>
    have := sg_two (ps.getD k 0)
    simp only [sgTo]
    omega
/-- The net numbers of the first c places, added up. -/
def nsTo (ps : List Int) (k : Nat) : Nat → Int
  | 0 => 0
  | c + 1 => nsTo ps k c + netF ps c k
theorem nsTo_zero (ps : List Int) : ∀ c, nsTo ps 0 c = 0 := by
  intro c
  induction c with
  | zero => rfl
  | succ c ih => simp only [nsTo, netF]; rw [ih]; rfl
theorem nsTo_succ (ps : List Int) (k : Nat) : ∀ c, nsTo ps (k + 1) c = nsTo ps k c + (if pc (ps.getD k 0) < c then sg (ps.getD k 0) else 0) := by
  intro c
  induction c with
  | zero => simp [nsTo]
  | succ c ih =>
    simp only [nsTo]
    rw [ih, netF_succ]
    by_cases h1 : pc (ps.getD k 0) < c
    · rw [if_pos h1, if_neg (by omega), if_pos (by omega)]; omega
    · rw [if_neg h1]
      by_cases h2 : pc (ps.getD k 0) = c
      · rw [if_pos h2, if_pos (by omega)]; omega
      · rw [if_neg h2, if_neg (by omega)]; omega
theorem nsTo_sg {ps : List Int} {c : Nat} : ∀ k, (∀ j, j < k → pc (ps.getD j 0) < c) → nsTo ps k c = sgTo ps k := by
  intro k
  induction k with
  | zero => intro _; rw [nsTo_zero]; rfl
  | succ k ih => intro h; rw [nsTo_succ, ih (fun j hj => h j (by omega)), if_pos (h k (by omega))]; rfl
theorem smTo_net (n : Nat) (ps : List Int) (k : Nat) : ∀ c, c ≤ n + 1 → smTo (netL n ps k) c = nsTo ps k c := by
  intro c
  induction c with
  | zero => intro _; rfl
  | succ c ih => intro hc; simp only [smTo, nsTo]; rw [ih (by omega), netL_getD (by omega)]
theorem netOk_double {n : Int} {ps : List Int} (h : netOk n ps = true) : netOk n (ps ++ ps) = true := by
  obtain ⟨h1, h2⟩ := netOk_of h
  refine netOk_yes h1 fun j hj => ?_
  by_cases e : j < ps.length
  · rw [getD_low e]; exact h2 j e
  · obtain ⟨i, rfl⟩ : ∃ i, j = ps.length + i := ⟨j - ps.length, by omega⟩
    rw [getD_high]
    exact h2 i (by simp at hj; omega)
/-- What the law asks of net numbers. -/
theorem net_facts {n : Int} {ps : List Int} (h : netOk n ps = true) : (1 ≤ n ∧ n ≤ 8) ∧ ((netV n ps).length : Int) = n + 1 ∧ (netV n (ps ++ ps)).length = (netV n ps).length ∧
    smTo (netV n ps) (netV n ps).length = sgTo ps ps.length ∧ (∀ i, i < (netV n ps).length → (netV n (ps ++ ps)).getD i 0 = 2 * (netV n ps).getD i 0) ∧
    ∀ i, i < (netV n ps).length → -(ps.length : Int) ≤ (netV n ps).getD i 0 ∧ (netV n ps).getD i 0 ≤ ps.length := by
  obtain ⟨h1, h2⟩ := netOk_of h
  obtain ⟨m, rfl⟩ : ∃ m : Nat, n = m := ⟨n.toNat, by omega⟩
  rw [netV_yes h, netV_yes (netOk_double h), Int.toNat_natCast, netL_length, netL_length]
  refine ⟨h1, by omega, rfl, ?_, ?_, ?_⟩
  · rw [smTo_net _ _ _ _ (Nat.le_refl _)]
    exact nsTo_sg _ (fun j hj => by have := h2 j hj; omega)
  · intro i hi
    rw [netL_getD (by omega), netL_getD (by omega), List.length_append, netF_high _ _ _ _ (Nat.le_refl _)]
    omega
  · intro i hi
    rw [netL_getD (by omega)]
    exact netF_range ps i ps.length

end Go.Proofs.Ytmdkfhbkdeoahaa
