/-
  A byte that can be left out can be put back, plainly. No walk.
-/
import Derived.Test.YtbpifchlmmdnaaaStrs2
namespace Go.Proofs.Ytbpifchlmmdnaaa

theorem dropTo_mem {S : ByteArray} {x : Int} {m : Nat} (h : x ∈ dropTo S m) : ∃ i : Nat, i < m ∧ x = i ∧ bkLegal (dropAt S i) = true := by
  induction m with
  | zero => cases h
  | succ m ih =>
    simp only [dropTo] at h
    split at h
    · rename_i hl
      rcases List.mem_append.1 h with h | h
      · obtain ⟨i, hi, hx⟩ := ih h
        exact ⟨i, by omega, hx⟩
      · rw [List.mem_singleton] at h
        exact ⟨m, by omega, h, hl⟩
    · obtain ⟨i, hi, hx⟩ := ih h
      exact ⟨i, by omega, hx⟩
theorem dropL_mem {S : ByteArray} {x : Int} (h : x ∈ dropL S) : S.size ≤ 30 ∧ ∃ i : Nat, i < S.size ∧ x = i ∧ bkLegal (dropAt S i) = true := by
  unfold dropL at h
  split at h
  · rename_i hs
    exact ⟨hs, dropTo_mem h⟩
  · cases h
theorem repTo_has {S : ByteArray} {m M : Nat} (hm : m < M) (h : bkLegal (insAt S (m / 7) (m % 7)) = true) : insAt S (m / 7) (m % 7) ∈ repTo S M := by
  induction M with
  | zero => omega
  | succ M ih =>
    simp only [repTo]
    by_cases e : m = M
    · subst e
      rw [if_pos h]
      exact List.mem_append_right _ (List.mem_singleton.2 rfl)
    · have := ih (by omega)
      split
      · exact List.mem_append_left _ this
      · exact this
/-- Each byte of a legal text is a letter. -/
theorem legal_letter {S : ByteArray} (h : bkLegal S = true) {i : Nat} (hi : i < (bl S).length) : ∃ k, k < 7 ∧ ltB k = (bl S)[i]'hi := by
  have hs : i < S.size := by rw [← bl_length]; exact hi
  obtain ⟨x, hx⟩ := legal_to h (k := i) (by omega)
  obtain ⟨y, hy⟩ := legal_to h (k := i + 1) (by omega)
  rw [bkTo_succ hx, bt_bl, List.getElem?_eq_getElem hi] at hy
  have key : ∀ (k : Nat) (c : Int), ((ltB k).toNat : Int) = c → (((some ((bl S)[i]'hi)).getD 0).toNat : Int) = c → ltB k = (bl S)[i]'hi := by
    intro k c h1 h2
    refine UInt8.toNat_inj.1 ?_
    have : ((ltB k).toNat : Int) = (((bl S)[i]'hi).toNat : Int) := h1.trans h2.symm
    omega
  rcases bkStep_cases hy with ⟨e, _⟩ | ⟨e, _⟩ | ⟨e, _⟩ | ⟨e, _⟩ | ⟨e, _⟩ | ⟨e, _⟩ | ⟨e, _⟩
  · exact ⟨5, by omega, key 5 _ rfl e⟩
  · exact ⟨6, by omega, key 6 _ rfl e⟩
  · exact ⟨0, by omega, key 0 _ rfl e⟩
  · exact ⟨1, by omega, key 1 _ rfl e⟩
  · exact ⟨2, by omega, key 2 _ rfl e⟩
  · exact ⟨4, by omega, key 4 _ rfl e⟩
  · exact ⟨3, by omega, key 3 _ rfl e⟩
theorem dropAt_size_is {S : ByteArray} {i : Nat} (hi : i < S.size) : (dropAt S i).size = S.size - 1 := by
  unfold dropAt
  simp only [ByteArray.size_append, ByteArray.size_extract]
  omega
theorem ins_drop {S : ByteArray} {i k : Nat} (hi : i < (bl S).length) (hk : ltB k = (bl S)[i]'hi) : insAt (dropAt S i) i k = S := by
  have hs : i < S.size := by rw [← bl_length]; exact hi
  have hl : ((bl S).take i).length = i := by rw [List.length_take]; omega
  apply bl_inj
  rw [bl_ins k (by rw [dropAt_size_is hs]; omega), bl_drop, List.take_left' hl, List.drop_left' hl, hk, ← List.drop_eq_getElem_cons hi, List.take_append_drop]
/-- It can be put back. -/
theorem put_back {S : ByteArray} (h : bkLegal S = true) (hs : S.size ≤ 30) {i : Nat} (hi : i < S.size) : S ∈ repL (dropAt S i) := by
  have hi' : i < (bl S).length := by rw [bl_length]; exact hi
  obtain ⟨k, hk, e⟩ := legal_letter h hi'
  have e1 := ins_drop hi' e
  have hz := dropAt_size_is hi
  unfold repL
  rw [if_pos (by omega)]
  have q1 : (7 * i + k) / 7 = i := by omega
  have q2 : (7 * i + k) % 7 = k := by omega
  have := repTo_has (S := dropAt S i) (m := 7 * i + k) (M := 7 * ((dropAt S i).size + 1)) (by omega) (by rw [q1, q2, e1]; exact h)
  rw [q1, q2, e1] at this
  exact this

/-- Is a text among the first k? -/
def fndIn (L : List ByteArray) (S : ByteArray) : Nat → Bool
  | 0 => false
  | k + 1 => fndIn L S k || decide (L.getD k ⟨#[]⟩ = S)
theorem fndIn_yes {L : List ByteArray} {S : ByteArray} (h : S ∈ L) : fndIn L S L.length = true := by
  obtain ⟨p, hp, e⟩ := List.getElem_of_mem h
  have all : ∀ k, p < k → fndIn L S k = true := by
    intro k
    induction k with
    | zero => intro q; omega
    | succ k ih =>
      intro q
      simp only [fndIn]
      by_cases e2 : p = k
      · subst e2
        rw [List.getD_eq_getElem?_getD, List.getElem?_eq_getElem hp]
        simp [e]
      · rw [ih (by omega)]; rfl
  exact all _ hp
end Go.Proofs.Ytbpifchlmmdnaaa
