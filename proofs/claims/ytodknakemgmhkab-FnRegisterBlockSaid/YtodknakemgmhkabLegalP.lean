/-
  Texts put behind one another, and what is counted in legal texts, plainly. No walk.
-/
import Derived.Test.YtodknakemgmhkabRepP
import Derived.Test.YtodknakemgmhkabBlockT
namespace Go.Proofs.Ytodknakemgmhkab

theorem bl_append (A B : ByteArray) : bl (A ++ B) = bl A ++ bl B := by
  unfold bl
  rw [ByteArray.data_append, Array.toList_append]
theorem bt_left {A B : ByteArray} {k : Nat} (h : k < A.size) : bt (A ++ B) k = bt A k := by
  rw [bt_bl, bt_bl, bl_append, List.getElem?_append_left (by rw [bl_length]; exact h)]
theorem bt_right (A B : ByteArray) (k : Nat) : bt (A ++ B) (A.size + k) = bt B k := by
  rw [bt_bl, bt_bl, bl_append, List.getElem?_append_right (by rw [bl_length]; omega), bl_length, Nat.add_sub_cancel_left]
theorem bkTo_left {b : Blk} {A B : ByteArray} : ∀ k, k ≤ A.size → bkTo b (A ++ B) k = bkTo b A k := by
  intro k
  induction k with
  | zero => intro _; rfl
  | succ k ih =>
    intro h
    simp only [bkTo]
    rw [ih (by omega), bt_left (by omega)]
theorem bkTo_right {b x : Blk} {A B : ByteArray} (h : bkTo b A A.size = some x) : ∀ k, bkTo b (A ++ B) (A.size + k) = bkTo x B k := by
  intro k
  induction k with
  | zero => rw [Nat.add_zero, bkTo_left _ (Nat.le_refl _), h]; rfl
  | succ k ih =>
    rw [← Nat.add_assoc]
    simp only [bkTo]
    rw [ih, bt_right]
theorem cntTo_left {A B : ByteArray} {c : Int} : ∀ k, k ≤ A.size → cntTo (A ++ B) c k = cntTo A c k := by
  intro k
  induction k with
  | zero => intro _; rfl
  | succ k ih =>
    intro h
    simp only [cntTo]
    rw [ih (by omega), bt_left (by omega)]
theorem cntTo_right {A B : ByteArray} {c : Int} : ∀ k, cntTo (A ++ B) c (A.size + k) = cntTo A c A.size + cntTo B c k := by
  intro k
  induction k with
  | zero => rw [Nat.add_zero, cntTo_left _ (Nat.le_refl _)]; show _ = _ + 0; omega
  | succ k ih =>
    rw [← Nat.add_assoc]
    simp only [cntTo]
    rw [ih, bt_right]
    split <;> omega
theorem bkRun_append {b x : Blk} {A B : ByteArray} (h30 : (A ++ B).size ≤ 30) (h : bkRun b A = some x) : bkRun b (A ++ B) = bkRun x B := by
  rw [ByteArray.size_append] at h30
  have hb : bkPos b = true := by
    cases e : bkPos b
    · rw [bkRun_not e] at h; cases h
    · rfl
  rw [bkRun_is hb (by omega)] at h
  rw [bkRun_is hb (by rw [ByteArray.size_append]; omega), bkRun_is (bkTo_pos hb h) (by omega), ByteArray.size_append, bkTo_right h]

/-- How far the next train is. -/
def farT (x : Blk) : Int := if x = (0, false, true) then 1 else if x = (1, false, false) then 2 else if x = (2, true, false) then 3 else 0
/-- Whether a train has entered that is not free yet. -/
def insd (x : Blk) : Int := if x = (2, true, false) ∨ x = (2, false, false) then 1 else 0
theorem far_to {S : ByteArray} : ∀ k x, bkTo nb S k = some x → 4 * cntTo S 108 k + farT x ≤ k ∧ cntTo S 101 k - cntTo S 102 k = insd x := by
  intro k
  induction k with
  | zero =>
    intro x h
    have e : x = nb := by simpa [bkTo] using h.symm
    subst e
    exact ⟨show 4 * (0 : Int) + farT nb ≤ ((0 : Nat) : Int) by decide, show (0 : Int) - 0 = insd nb by decide⟩
  | succ k ih =>
    intro x h
    cases e : bkTo nb S k with
    | none => rw [bkTo_none e (Nat.le_succ k)] at h; cases h
    | some y =>
      obtain ⟨h1, h2⟩ := ih y e
      rw [bkTo_succ e] at h
      simp only [cntTo]
      rcases bkStep_cases h with ⟨hc, rfl, rfl⟩ | ⟨hc, rfl, rfl⟩ | ⟨hc, rfl, rfl⟩ | ⟨hc, rfl, rfl⟩ | ⟨hc, rfl, rfl⟩ | ⟨hc, rfl, rfl⟩ | ⟨hc, rfl, rfl⟩ <;> rw [hc] <;> simp [farT, insd] at h1 h2 ⊢ <;> omega
theorem trains_four {S : ByteArray} (h : bkLegal S = true) : 4 * cntTo S 108 S.size ≤ S.size := by
  obtain ⟨x, hx⟩ := legal_to h (k := S.size) (Nat.le_refl _)
  have := (far_to S.size x hx).1
  unfold farT at this
  split at this <;> omega
theorem even_normal {S : ByteArray} (h : bkNormal S = true) : cntTo S 101 S.size = cntTo S 102 S.size := by
  unfold bkNormal at h
  rw [Bool.and_eq_true, decide_eq_true_iff] at h
  obtain ⟨h1, h2⟩ := h
  have hl : bkLegal S = true := h1
  obtain ⟨x, hx⟩ := legal_to hl (k := S.size) (Nat.le_refl _)
  have hs : (S.size : Int) ≤ 30 := by
    by_cases q : 30 < (S.size : Int)
    · rw [bkRun_long q] at h1; cases h1
    · omega
  rw [bkRun_is bkPos_nb hs, hx] at h2
  simp only [Option.getD_some] at h2
  subst h2
  have := (far_to S.size nb hx).2
  have e : insd nb = 0 := by decide
  omega
theorem twice_normal {S : ByteArray} (h : bkNormal S = true) (h30 : (S ++ S).size ≤ 30) : bkNormal (S ++ S) = true ∧ bkLegal (S ++ S) = true := by
  unfold bkNormal at h
  rw [Bool.and_eq_true, decide_eq_true_iff] at h
  obtain ⟨h1, h2⟩ := h
  obtain ⟨x, hx⟩ := Option.isSome_iff_exists.1 h1
  rw [hx] at h2
  simp only [Option.getD_some] at h2
  subst h2
  have e := bkRun_append h30 hx
  rw [hx] at e
  unfold bkNormal bkLegal
  rw [e]
  exact ⟨rfl, rfl⟩

theorem part_two {S : ByteArray} {k : Nat} (_h : k ≤ S.size) : S.extract 0 k ++ S.extract k S.size = S := by
  apply ByteArray.ext
  apply Array.ext'
  rw [ByteArray.data_append, ByteArray.data_extract, ByteArray.data_extract, Array.toList_append, Array.toList_extract, Array.toList_extract]
  simp only [List.extract_eq_take_drop, List.drop_zero, Nat.sub_zero]
  rw [List.take_of_length_le (l := List.drop k _) (by rw [List.length_drop, Array.length_toList]; exact Nat.le_refl _), List.take_append_drop]
/-- A text done in two parts. -/
theorem run_parts {b y : Blk} {S : ByteArray} (h : bkRun b S = some y) {k : Nat} (hk : k ≤ S.size) : ∃ x, bkRun b (S.extract 0 k) = some x ∧ bkRun x (S.extract k S.size) = some y := by
  have hb : bkPos b = true := by
    cases e : bkPos b
    · rw [bkRun_not e] at h; cases h
    · rfl
  have hs : (S.size : Int) ≤ 30 := by
    by_cases q : 30 < (S.size : Int)
    · rw [bkRun_long q] at h; cases h
    · omega
  have hA : (S.extract 0 k).size = k := by rw [ByteArray.size_extract]; omega
  have hB : (S.extract k S.size).size = S.size - k := by rw [ByteArray.size_extract]; omega
  have e := h
  rw [bkRun_is hb hs] at e
  cases ex : bkTo b S k with
  | none => rw [bkTo_none ex hk] at e; cases e
  | some x =>
    have l : bkTo b (S.extract 0 k) (S.extract 0 k).size = some x := by
      have q := bkTo_left (b := b) (A := S.extract 0 k) (B := S.extract k S.size) k (by omega)
      rw [part_two hk, ex] at q
      rw [hA]
      exact q.symm
    have q := bkTo_right l (B := S.extract k S.size) (S.extract k S.size).size
    rw [part_two hk, hA, hB, show k + (S.size - k) = S.size by omega, e] at q
    refine ⟨x, ?_, ?_⟩
    · rw [bkRun_is hb (by omega), l]
    · rw [bkRun_is (bkTo_pos hb ex) (by omega), hB]
      exact q.symm

end Go.Proofs.Ytodknakemgmhkab
