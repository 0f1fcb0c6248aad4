/-
  The walk of a train that goes through the track, plainly. No walk of code.
-/
import Derived.Test.YtilkphehonilbaaDoorWlkP
import Derived.Test.YtilkphehonilbaaDoorRunT
namespace Go.Proofs.YtilkphehonilbaaDoor

def rnO (n l k : Nat) : Nat := sg (rnTo n l k).1 (rnTo n l k).2
theorem rnL_get {n l m k : Nat} (h : k < m) : (rnL n l m).getD k ⟨#[]⟩ = trS n (rnO n l k) := by
  unfold rnL
  rw [List.getD_eq_getElem?_getD, List.getElem?_map, List.getElem?_range h]
  rfl
def rnG (n l k : Nat) : Bool := decide (rnO n l k < 2 ^ n) && (decide (blC (rnO n l k) n ≤ 1) && (decide (pk (rnO n l k) n ≤ l + 1) && ((decide (k = 0 ∨ 2 * n ≤ k) == decide (pk (rnO n l k) n = 0)) && (decide (2 * n ≤ k) || isSt n (rnO n l k) (rnO n l (k + 1))))))
theorem rn_all : ∀ n l : Fin 9, n.val = 0 ∨ l.val = 0 ∨ n.val < l.val ∨ ((List.range (2 * n.val + 1)).all fun k => rnG n.val l.val k) = true := by decide +kernel
def pnTo (n l : Nat) : Nat → Nat
  | 0 => 0
  | k + 1 => pnTo n l k + (if (rnO n l k).testBit (n - 1) && !(rnO n l (k + 1)).testBit (n - 1) then 1 else 0)
theorem pn_all : ∀ n l : Fin 9, n.val = 0 ∨ l.val = 0 ∨ n.val < l.val ∨ pnTo n.val l.val (2 * n.val) = 1 := by decide +kernel
/-- What the law asks of each text: a track of n circuits, one block at most, and so many occupied circuits. -/
structure RnAt (n : Nat) (l : Nat) (k : Nat) (S : ByteArray) : Prop where
  size : S.size = n
  ok : trB S = true
  one : blT S ≤ 1
  pos : 0 ≤ blT S
  cnt : cntTo S 49 S.size ≤ (l : Int) + 1
  cnt0 : 0 ≤ cntTo S 49 S.size
  none : (k = 0 ∨ 2 * n ≤ k) ↔ cntTo S 49 S.size = 0
theorem rn_facts {n l : Int} (h : rnOk n l = true) : ∃ m p : Nat, n = m ∧ l = p ∧ 1 ≤ m ∧ m ≤ 8 ∧ p ≤ m ∧ (rnV n l).length = 2 * m + 1 ∧ walkB (rnV n l) = true ∧ psV (rnV n l) = 1 ∧ ∀ k, k < 2 * m + 1 → RnAt m p k ((rnV n l).getD k ⟨#[]⟩) := by
  have h' := h
  unfold rnOk at h'
  rw [decide_eq_true_eq] at h'
  obtain ⟨⟨h1, h2⟩, h3, h4⟩ := h'
  obtain ⟨m, rfl⟩ : ∃ m : Nat, n = m := ⟨n.toNat, by omega⟩
  obtain ⟨p, rfl⟩ : ∃ m : Nat, l = m := ⟨l.toNat, by omega⟩
  have e : rnV (m : Int) (p : Int) = rnL m p (2 * m + 1) := rnV_yes h
  have G : ((List.range (2 * m + 1)).all fun k => rnG m p k) = true := by
    rcases rn_all ⟨m, by omega⟩ ⟨p, by omega⟩ with q | q | q | q
    · have : m = 0 := q
      omega
    · have : p = 0 := q
      omega
    · have : m < p := q
      omega
    · exact q
  have P : pnTo m p (2 * m) = 1 := by
    rcases pn_all ⟨m, by omega⟩ ⟨p, by omega⟩ with q | q | q | q
    · have : m = 0 := q
      omega
    · have : p = 0 := q
      omega
    · have : m < p := q
      omega
    · exact q
  have GA : ∀ k, k < 2 * m + 1 → rnO m p k < 2 ^ m ∧ blC (rnO m p k) m ≤ 1 ∧ pk (rnO m p k) m ≤ p + 1 ∧ ((k = 0 ∨ 2 * m ≤ k) ↔ pk (rnO m p k) m = 0) ∧ (2 * m ≤ k ∨ isSt m (rnO m p k) (rnO m p (k + 1)) = true) := by
    intro k hk
    have := List.all_eq_true.1 G k (List.mem_range.2 hk)
    unfold rnG at this
    simp only [Bool.and_eq_true, Bool.or_eq_true, decide_eq_true_eq, beq_iff_eq, decide_eq_decide] at this
    exact ⟨this.1, this.2.1, this.2.2.1, this.2.2.2.1, this.2.2.2.2⟩
  have hl : (rnL m p (2 * m + 1)).length = 2 * m + 1 := rnL_length _ _ _
  have hm8 : 1 ≤ m ∧ m ≤ 8 := by omega
  have AT : ∀ k, k < 2 * m + 1 → (rnL m p (2 * m + 1)).getD k ⟨#[]⟩ = trS m (rnO m p k) ∧ trB (trS m (rnO m p k)) = true ∧ oc (trS m (rnO m p k)) = rnO m p k := fun k hk => ⟨rnL_get hk, trS_ok hm8, oc_of (GA k hk).1⟩
  have W : walkB (rnL m p (2 * m + 1)) = true := by
    refine walk_mk (by omega) ?_ ?_
    · intro i hi
      rw [hl] at hi
      rw [(AT i hi).1]
      exact (AT i hi).2.1
    · intro i hi
      rw [hl] at hi
      rw [(AT i (by omega)).1, (AT (i + 1) hi).1, isB_is (AT i (by omega)).2.1 (AT (i + 1) hi).2.1, trS_size, trS_size, (AT i (by omega)).2.2, (AT (i + 1) hi).2.2, decide_eq_true rfl, Bool.true_and]
      rcases (GA i (by omega)).2.2.2.2 with q | q
      · omega
      · exact q
  have PS : ∀ k, k ≤ 2 * m → psTo (rnL m p (2 * m + 1)) k = (pnTo m p k : Int) := by
    intro k
    induction k with
    | zero => intro _; rfl
    | succ k ih =>
      intro hk
      simp only [psTo, pnTo]
      rw [ih (by omega)]
      unfold psB
      rw [(AT k (by omega)).1, (AT (k + 1) (by omega)).1, (AT 0 (by omega)).1, trS_size, (AT k (by omega)).2.2, (AT (k + 1) (by omega)).2.2]
      split <;> simp
  refine ⟨m, p, rfl, rfl, by omega, by omega, by omega, by rw [e]; exact hl, by rw [e]; exact W, ?_, ?_⟩
  · rw [e]
    unfold psV
    rw [W, if_pos rfl, hl, Nat.add_sub_cancel, PS _ (Nat.le_refl _), P]
    rfl
  · intro k hk
    rw [e, (AT k hk).1]
    have t := (AT k hk).2.1
    have o := (AT k hk).2.2
    have z := trS_size m (rnO m p k)
    have g := GA k hk
    have c := cnt_pk t _ (Nat.le_refl _)
    rw [o, z] at c
    have b := blT_yes t
    rw [o, z] at b
    refine ⟨z, t, ?_, ?_, ?_, ?_, ?_⟩
    · rw [b]; omega
    · rw [b]; omega
    · rw [z, c]; omega
    · rw [z, c]; omega
    · rw [z, c, Int.natCast_eq_zero]; exact g.2.2.2.1

end Go.Proofs.YtilkphehonilbaaDoor
