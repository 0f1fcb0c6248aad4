/-
  What the promises on tracks ask, plainly. No walk.
-/
import Derived.Test.YtilkphehonilbaaDoorTrkG
import Derived.Test.YtilkphehonilbaaDoorCnt
namespace Go.Proofs.YtilkphehonilbaaDoor

/-- The occupied ones among the first k circuits, counted. -/
def pk (o : Nat) : Nat → Nat
  | 0 => 0
  | k + 1 => pk o k + (if o.testBit k then 1 else 0)
theorem cnt_pk {S : ByteArray} (h : trB S = true) : ∀ k, k ≤ S.size → cntTo S 49 k = (pk (oc S) k : Int) := by
  intro k
  induction k with
  | zero => intro _; rfl
  | succ k ih =>
    intro hk
    have e := oc_at h (show k < S.size by omega)
    simp only [pk]
    cases hb : (oc S).testBit k
    · rw [hb] at e
      rw [cntTo_no (by rw [e]; decide), ih (by omega)]
      rfl
    · rw [hb] at e
      rw [cntTo_yes (by rw [e]; rfl), ih (by omega)]
      rfl
theorem pk_range (o k : Nat) : pk o k ≤ k := by
  induction k with
  | zero => exact Nat.le_refl _
  | succ k ih => simp only [pk]; split <;> omega
theorem rv_rv {n o : Nat} (ho : o < 2 ^ n) : rv n (rv n o) = o := by
  apply Nat.eq_of_testBit_eq
  intro i
  unfold rv
  rw [rv_bit]
  by_cases hi : i < n
  · rw [decide_eq_true hi, Bool.true_and, rv_bit, decide_eq_true (show n - 1 - i < n by omega), Bool.true_and, show n - 1 - (n - 1 - i) = i by omega]
  · rw [decide_eq_false hi, Bool.false_and, bit_big ho (by omega)]
theorem blk_all : ∀ n : Fin 9, ∀ o : Fin 256, 2 ^ n.val ≤ o.val ∨ (blC (rv n.val o.val) n.val = blC o.val n.val ∧ 2 * blC o.val n.val ≤ n.val + 1 ∧ (blC o.val n.val = 0 ↔ pk o.val n.val = 0)) := by decide +kernel
theorem blk_facts {n o : Nat} (hn : n ≤ 8) (ho : o < 2 ^ n) : blC (rv n o) n = blC o n ∧ 2 * blC o n ≤ n + 1 ∧ (blC o n = 0 ↔ pk o n = 0) := by
  have ho2 : o < 256 := Nat.lt_of_lt_of_le ho (show 2 ^ n ≤ 2 ^ 8 from Nat.pow_le_pow_right (by omega) hn)
  have h : 2 ^ n ≤ o ∨ (blC (rv n o) n = blC o n ∧ 2 * blC o n ≤ n + 1 ∧ (blC o n = 0 ↔ pk o n = 0)) := blk_all ⟨n, by omega⟩ ⟨o, ho2⟩
  rcases h with h | h
  · omega
  · exact h
/-- A track turned is a track; turned again it is what it was; it has as many blocks. -/
theorem tu_facts {S : ByteArray} (h : trB S = true) : trB (tuS S) = true ∧ tuS (tuS S) = S ∧ blT (tuS S) = blT S ∧ (tuS S).size = S.size := by
  have hn := (trB_of h).1
  have ho := (oc_lt2 h).1
  have e : tuS S = trS S.size (rv S.size (oc S)) := tuS_yes h
  have t : trB (tuS S) = true := by rw [e]; exact trS_ok hn
  have z : (tuS S).size = S.size := by rw [e, trS_size]
  have o2 : oc (tuS S) = rv S.size (oc S) := by rw [e, oc_of (rv_lt _ _)]
  refine ⟨t, ?_, ?_, z⟩
  · rw [tuS_yes t, z, o2, rv_rv ho, ← tr_is h]
  · rw [blT_yes t, blT_yes h, z, o2, (blk_facts hn.2 ho).1]
theorem bl_facts {S : ByteArray} (h : trB S = true) : 0 ≤ blT S ∧ 2 * blT S - 1 ≤ (S.size : Int) ∧ (blT S = 0 ↔ cntTo S 49 S.size = 0) := by
  have f := blk_facts (trB_of h).1.2 (oc_lt2 h).1
  rw [blT_yes h, cnt_pk h _ (Nat.le_refl _)]
  refine ⟨by omega, by omega, ?_⟩
  rw [Int.natCast_eq_zero, Int.natCast_eq_zero]
  exact f.2.2

/-! ### Circuits that can change -/
theorem nxC_mem (n o : Nat) (i : Nat) : ∀ k, ((i : Int) ∈ nxC n o k ↔ i < k ∧ can n o i = true) := by
  intro k
  induction k with
  | zero => simp [nxC]
  | succ k ih =>
    simp only [nxC]
    split
    · rename_i hc
      rw [List.mem_append, ih, List.mem_singleton]
      constructor
      · rintro (⟨h1, h2⟩ | h)
        · exact ⟨by omega, h2⟩
        · have : i = k := by omega
          subst this
          exact ⟨by omega, hc⟩
      · rintro ⟨h1, h2⟩
        by_cases e : i = k
        · exact .inr (by omega)
        · exact .inl ⟨by omega, h2⟩
    · rename_i hc
      rw [ih]
      constructor
      · rintro ⟨h1, h2⟩
        exact ⟨by omega, h2⟩
      · rintro ⟨h1, h2⟩
        refine ⟨?_, h2⟩
        by_cases e : i = k
        · subst e; exact absurd h2 hc
        · omega
theorem nx_has {S : ByteArray} {i : Nat} (hi : i < S.size) : decide ((i : Int) ∈ nxT S) = spB S i := by
  cases h : trB S
  · rw [nxT_no h, spB_not h]
    simp
  · rw [nxT_yes h, spB_in h hi]
    cases hc : can S.size (oc S) i
    · exact decide_eq_false fun q => by have := (nxC_mem _ _ _ _).1 q; rw [hc] at this; cases this.2
    · exact decide_eq_true ((nxC_mem _ _ _ _).2 ⟨hi, hc⟩)
theorem nxt_all : ∀ n : Fin 9, ∀ o : Fin 256, n.val = 0 ∨ 2 ^ n.val ≤ o.val ∨ ((pk o.val n.val = 0 → nxC n.val o.val n.val = [0]) ∧ (pk o.val n.val = n.val → (nxC n.val o.val n.val).length = n.val)) := by decide +kernel
theorem nx_facts {S : ByteArray} (h : trB S = true) : (cntTo S 49 S.size = 0 → nxT S = [0]) ∧ (cntTo S 49 S.size < (S.size : Int) ∨ (nxT S).length = S.size) := by
  have hn := (trB_of h).1
  obtain ⟨ho, ho2⟩ := oc_lt2 h
  have f : S.size = 0 ∨ 2 ^ S.size ≤ oc S ∨ ((pk (oc S) S.size = 0 → nxC S.size (oc S) S.size = [0]) ∧ (pk (oc S) S.size = S.size → (nxC S.size (oc S) S.size).length = S.size)) := nxt_all ⟨S.size, by omega⟩ ⟨oc S, ho2⟩
  have r := pk_range (oc S) S.size
  rw [cnt_pk h _ (Nat.le_refl _), nxT_yes h]
  rcases f with f | f | f
  · omega
  · omega
  · refine ⟨fun q => f.1 (by omega), ?_⟩
    by_cases e : pk (oc S) S.size = S.size
    · exact .inr (f.2 e)
    · exact .inl (by omega)

/-! ### Behind a step -/
theorem step_all : ∀ n : Fin 9, ∀ o : Fin 256, ∀ i : Fin 8, can n.val o.val i.val = false ∨ n.val ≤ i.val ∨ (blC (fl o.val i.val) n.val ≤ blC o.val n.val + 1 ∧ blC o.val n.val ≤ blC (fl o.val i.val) n.val + 1) := by decide +kernel
theorem sp_facts {S : ByteArray} {i : Int} (h : spB S i = true) : ∃ k : Nat, i = k ∧ k < S.size ∧ trB S = true ∧ (spS S i).size = S.size ∧ trB (spS S i) = true ∧ -1 ≤ blT (spS S i) - blT S ∧ blT (spS S i) - blT S ≤ 1 ∧
    ∀ j, j < S.size → (bt (spS S i) j ≠ bt S j ↔ (j : Int) = i) := by
  have h' := h
  unfold spB at h'
  simp only [Bool.and_eq_true, decide_eq_true_eq] at h'
  obtain ⟨ht, ⟨h0, h1⟩, hc⟩ := h'
  obtain ⟨k, rfl⟩ : ∃ k : Nat, i = k := ⟨i.toNat, by omega⟩
  rw [Int.toNat_natCast] at hc
  have hk : k < S.size := by omega
  have hn := (trB_of ht).1
  obtain ⟨ho, ho2⟩ := oc_lt2 ht
  have e : spS S k = trS S.size (fl (oc S) k) := by rw [spS_yes h, Int.toNat_natCast]
  have z : (spS S k).size = S.size := by rw [e, trS_size]
  have t : trB (spS S k) = true := by rw [e]; exact trS_ok hn
  have o2 : oc (spS S k) = fl (oc S) k := by rw [e, oc_of (fl_lt hk ho)]
  have f : can S.size (oc S) k = false ∨ S.size ≤ k ∨ (blC (fl (oc S) k) S.size ≤ blC (oc S) S.size + 1 ∧ blC (oc S) S.size ≤ blC (fl (oc S) k) S.size + 1) := step_all ⟨S.size, by omega⟩ ⟨oc S, ho2⟩ ⟨k, by omega⟩
  rw [hc] at f
  have f : blC (fl (oc S) k) S.size ≤ blC (oc S) S.size + 1 ∧ blC (oc S) S.size ≤ blC (fl (oc S) k) S.size + 1 := by
    rcases f with f | f | f
    · cases f
    · omega
    · exact f
  refine ⟨k, rfl, hk, ht, z, t, ?_, ?_, ?_⟩
  · rw [blT_yes t, blT_yes ht, z, o2]; omega
  · rw [blT_yes t, blT_yes ht, z, o2]; omega
  · intro j hj
    rw [e, trS_bt hj, oc_at ht hj, fl_bit]
    by_cases q : k = j
    · subst q
      cases (oc S).testBit k <;> simp
    · have q2 : ¬ (j : Int) = (k : Int) := by omega
      rw [decide_eq_false q]
      simp [q2]

end Go.Proofs.YtilkphehonilbaaDoor
