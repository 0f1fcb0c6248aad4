/-
  Orders plainly, for the promises: the least of them, those of first come first served, of exchanged ends, of later trains. No walk.
-/
import Derived.Test.YtlcmkocbpnekhaaGreatDoorSgO
import Derived.Test.YtlcmkocbpnekhaaGreatDoorSgQ
namespace Go.Proofs.YtlcmkocbpnekhaaGreatDoor
open Go.RowKit Go.Sort

/-- The first least one stands at a place, and those ahead of it are greater. -/
theorem ls_first {f : ByteArray → Int} {L : List ByteArray} (hn : ∀ o ∈ L, 0 ≤ f o) : ∀ k, k ≤ L.length → (0 < k → 0 ≤ (lsOf f (L.take k)).2 ∧ ∃ j, j < k ∧ lsOf f (L.take k) = (L.getD j ⟨#[]⟩, f (L.getD j ⟨#[]⟩)) ∧ ∀ i, i < j → f (L.getD j ⟨#[]⟩) < f (L.getD i ⟨#[]⟩)) ∧ ∀ j, j < k → (lsOf f (L.take k)).2 ≤ f (L.getD j ⟨#[]⟩) := by
  intro k
  induction k with
  | zero => intro _; exact ⟨fun h => absurd h (Nat.lt_irrefl 0), fun j h => absurd h (Nat.not_lt_zero j)⟩
  | succ k ih =>
    intro hk
    obtain ⟨h1, h2⟩ := ih (by omega)
    have h0 := hn _ (getD_in (k := k) (l := L) (by omega))
    rw [take_next' L (by omega), lsOf_add]
    unfold lsStep
    by_cases q : (lsOf f (L.take k)).2 < 0 ∨ f (L.getD k ⟨#[]⟩) < (lsOf f (L.take k)).2
    · rw [if_pos q]
      have hall : ∀ i, i < k → f (L.getD k ⟨#[]⟩) < f (L.getD i ⟨#[]⟩) := by
        intro i hi
        have a := h2 i hi
        have b := (h1 (by omega)).1
        omega
      refine ⟨fun _ => ⟨h0, k, by omega, rfl, hall⟩, fun j hj => ?_⟩
      show f (L.getD k ⟨#[]⟩) ≤ f (L.getD j ⟨#[]⟩)
      rcases Nat.lt_or_ge j k with hjk | hjk
      · exact Int.le_of_lt (hall j hjk)
      · obtain rfl : j = k := by omega
        exact Int.le_refl _
    · rw [if_neg q]
      have hk0 : 0 < k := by
        rcases Nat.eq_zero_or_pos k with e | e
        · subst e; exact absurd (Or.inl (by rw [List.take_zero]; exact (by decide : (-1 : Int) < 0))) q
        · exact e
      obtain ⟨b, j, hj, e, g⟩ := h1 hk0
      refine ⟨fun _ => ⟨b, j, by omega, e, g⟩, fun i hi => ?_⟩
      rcases Nat.lt_or_ge i k with hik | hik
      · exact h2 i hik
      · obtain rfl : i = k := by omega
        omega
/-- The order at a place has just those ahead of it that are less. -/
theorem less_at (n : Nat) : ∀ u d, u + d = n → ∀ k, k < (allF n u d).length → lessN ((allF n u d).getD k ⟨#[]⟩) (allF n u d) = k := by
  induction n with
  | zero =>
    intro u d h k hk
    obtain rfl : k = 0 := by simp [allF] at hk; exact hk
    show (if lsB ⟨#[]⟩ ⟨#[]⟩ then 1 else 0) + 0 = 0
    have e2 : lsB ⟨#[]⟩ ⟨#[]⟩ = false := by unfold lsB; rw [ByteArray.toList_eq]; rfl
    rw [e2]; rfl
  | succ n ih =>
    intro u d h k hk
    obtain ⟨A, hA⟩ : ∃ A, A = (if 0 < d then (allF n u (d - 1)).map (fun o => sD ++ o) else []) := ⟨_, rfl⟩
    obtain ⟨B, hB⟩ : ∃ B, B = (if 0 < u then (allF n (u - 1) d).map (fun o => sU ++ o) else []) := ⟨_, rfl⟩
    have e : allF (n + 1) u d = A ++ B := by rw [hA, hB]; rfl
    rw [e] at hk ⊢
    rw [List.length_append] at hk
    rw [lessN_app]
    rcases Nat.lt_or_ge k A.length with hl | hl
    · rw [List.getD_eq_getElem?_getD, List.getElem?_append_left hl, ← List.getD_eq_getElem?_getD]
      have hd : 0 < d := by
        rcases Nat.eq_zero_or_pos d with q | q
        · rw [hA, q] at hl; exact absurd hl (Nat.not_lt_zero _)
        · exact q
      rw [if_pos hd] at hA
      rw [hA, List.length_map] at hl
      have e1 : A.getD k ⟨#[]⟩ = sD ++ (allF n u (d - 1)).getD k ⟨#[]⟩ := by rw [hA]; exact getD_map_put sD _ k hl
      rw [e1]
      have e2 : lessN (sD ++ (allF n u (d - 1)).getD k ⟨#[]⟩) A = k := by rw [hA]; exact (lessN_same 68 _ _).trans (ih u (d - 1) (by omega) k hl)
      have e3 : lessN (sD ++ (allF n u (d - 1)).getD k ⟨#[]⟩) B = 0 := by
        rw [hB]; split
        · exact lessN_none _ _
        · rfl
      omega
    · obtain ⟨j, rfl⟩ : ∃ j, k = A.length + j := ⟨k - A.length, by omega⟩
      rw [List.getD_eq_getElem?_getD, List.getElem?_append_right (by omega), ← List.getD_eq_getElem?_getD, Nat.add_sub_cancel_left]
      have hjl : j < B.length := by omega
      have hu : 0 < u := by
        rcases Nat.eq_zero_or_pos u with q | q
        · rw [hB, q] at hjl; exact absurd hjl (Nat.not_lt_zero _)
        · exact q
      rw [if_pos hu] at hB
      rw [hB, List.length_map] at hjl
      have e1 : B.getD j ⟨#[]⟩ = sU ++ (allF n (u - 1) d).getD j ⟨#[]⟩ := by rw [hB]; exact getD_map_put sU _ j hjl
      rw [e1]
      have e2 : lessN (sU ++ (allF n (u - 1) d).getD j ⟨#[]⟩) B = j := by rw [hB]; exact (lessN_same 85 _ _).trans (ih (u - 1) d (by omega) j hjl)
      have e3 : lessN (sU ++ (allF n (u - 1) d).getD j ⟨#[]⟩) A = A.length := by
        rw [hA]; split
        · rw [List.length_map]; exact lessN_all _ _
        · rfl
      omega
theorem best_facts {s : Sg} (h : sgB s = true) : ∃ j, j < (ords s).length ∧ bestV s = (ords s).getD j ⟨#[]⟩ ∧ rankV s (bestV s) = (j : Int) ∧ 0 ≤ waitV s (bestV s) ∧ ∀ k, k < (ords s).length → waitV s (bestV s) ≤ waitV s ((ords s).getD k ⟨#[]⟩) ∧ (k < j → waitV s (bestV s) < waitV s ((ords s).getD k ⟨#[]⟩)) := by
  have e : bestV s = (lsOf (waitV s) (ords s)).1 := by simp [bestV, h]
  have q := ls_first (f := waitV s) (L := ords s) (fun o ho => waitV_nonneg (ords_ok h ho)) (ords s).length (Nat.le_refl _)
  rw [List.take_length] at q
  obtain ⟨a, j, hj, b, g⟩ := q.1 (ords_pos s)
  rw [b] at a e
  refine ⟨j, hj, e, ?_, ?_, fun k hk => ⟨?_, fun hkj => ?_⟩⟩
  · rw [e, rankV_yes (ords_ok h (getD_in hj))]
    have := less_at (s.A.length + s.B.length) s.A.length s.B.length rfl j hj
    exact congrArg Int.ofNat this
  · rw [e]; exact a
  · rw [e]; have := q.2 k hk; rw [b] at this; exact this
  · rw [e]; exact g k hkj
theorem mem_allF (n : Nat) : ∀ u d o, u + d = n → OrdOk u d o → o ∈ allF n u d := by
  induction n with
  | zero =>
    intro u d o h ok
    have e : o = ⟨#[]⟩ := by
      apply ByteArray.ext
      exact Array.eq_empty_of_size_eq_zero (by have := ok.size; show o.size = 0; omega)
    rw [e]; exact List.mem_singleton.2 rfl
  | succ n ih =>
    intro u d o h ok
    obtain ⟨x, hx, e⟩ := tl_step (S := o) (i := 0) (by have := ok.size; omega)
    rw [tl_zero] at e
    obtain ⟨T, hT⟩ : ∃ T, T = tl o (0 + 1) := ⟨_, rfl⟩
    rw [← hT] at e
    have h0 := ok.only 0 (by have := ok.size; omega)
    rw [hx] at h0
    rw [e] at ok ⊢
    rw [allF, List.mem_append]
    rcases h0 with h85 | h68
    · obtain rfl : x = 85 := u8_is (k := 85) (by omega) h85
      obtain ⟨v, rfl, ok2⟩ := ok.tailU
      refine .inr ?_
      rw [if_pos (Nat.zero_lt_succ v), Nat.add_sub_cancel]
      exact List.mem_map.2 ⟨T, ih v d T (by omega) ok2, rfl⟩
    · obtain rfl : x = 68 := u8_is (k := 68) (by omega) h68
      obtain ⟨b, rfl, ok2⟩ := ok.tailD
      refine .inl ?_
      rw [if_pos (Nat.zero_lt_succ b), Nat.add_sub_cancel]
      exact List.mem_map.2 ⟨T, ih u b T (by omega) ok2, rfl⟩
theorem soon_facts {s : Sg} (h : sgB s = true) : 0 ≤ soonV s ∧ (∀ k, k < (ords s).length → soonV s ≤ endV s ((ords s).getD k ⟨#[]⟩)) ∧ ∃ k, k < (ords s).length ∧ endV s ((ords s).getD k ⟨#[]⟩) = soonV s := by
  have e : soonV s = (lsOf (endV s) (ords s)).2 := by simp [soonV, h]
  have q := ls_first (f := endV s) (L := ords s) (fun o ho => endV_nonneg (ords_ok h ho)) (ords s).length (Nat.le_refl _)
  rw [List.take_length] at q
  obtain ⟨a, j, hj, b, g⟩ := q.1 (ords_pos s)
  rw [b] at a e
  refine ⟨by rw [e]; exact a, fun k hk => ?_, j, hj, e.symm⟩
  rw [e]; have := q.2 k hk; rw [b] at this; exact this
theorem mem_ords {s : Sg} {S : ByteArray} (h : sgO s S = true) : ∃ k, k < (ords s).length ∧ (ords s).getD k ⟨#[]⟩ = S := by
  have hm : S ∈ ords s := mem_allF _ _ _ S rfl (sgO_of h).2
  obtain ⟨k, hk, e⟩ := List.mem_iff_getElem.1 hm
  exact ⟨k, hk, by rw [List.getD_eq_getElem?_getD, List.getElem?_eq_getElem hk]; exact e⟩
theorem best_le {s : Sg} {S : ByteArray} (h : sgO s S = true) : 0 ≤ waitV s (bestV s) ∧ waitV s (bestV s) ≤ waitV s S ∧ sgO s (bestV s) = true := by
  have hs : sgB s = true := by
    cases q : sgB s
    · rw [sgO_bad q] at h; exact absurd h (by decide)
    · rfl
  obtain ⟨k, hk, e⟩ := mem_ords h
  obtain ⟨j, hj, b, -, g, a⟩ := best_facts hs
  have := (a k hk).1
  rw [e] at this
  exact ⟨g, this, by rw [b]; exact ords_ok hs (getD_in hj)⟩
theorem soon_le {s : Sg} {S : ByteArray} (h : sgO s S = true) : 0 ≤ soonV s ∧ soonV s ≤ endV s S ∧ ∃ o, sgO s o = true ∧ endV s o = soonV s := by
  have hs : sgB s = true := by
    cases q : sgB s
    · rw [sgO_bad q] at h; exact absurd h (by decide)
    · rfl
  obtain ⟨k, hk, e⟩ := mem_ords h
  obtain ⟨a, b, j, hj, c⟩ := soon_facts hs
  have := b k hk
  rw [e] at this
  exact ⟨a, this, _, ords_ok hs (getD_in hj), c⟩
theorem sg_has {s : Sg} (hs : sgB s = true) : ∃ o, sgO s o = true := ⟨_, ords_ok hs (getD_in (ords_pos s))⟩

end Go.Proofs.YtlcmkocbpnekhaaGreatDoor
