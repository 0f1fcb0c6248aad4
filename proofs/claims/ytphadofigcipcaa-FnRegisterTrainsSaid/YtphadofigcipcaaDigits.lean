/-
  Lists of groups as strings of digits, plainly. No condition; nothing of the program is imported.
-/
namespace Go.Proofs.Ytphadofigcipcaa

/-- Is every number of the list one of 1 to 6? -/
def okGroups (xs : List Int) : Bool := xs.all fun x => decide (1 ≤ x) && decide (x ≤ 6)
/-- A number as its digit. -/
def digit (x : Int) : UInt8 := UInt8.ofNat (48 + x.toNat)
/-- The list as a string of digits. -/
def dg (xs : List Int) : List UInt8 := xs.map digit
/-- The first k numbers are groups. -/
def OkTo (xs : List Int) (k : Nat) : Prop := okGroups (xs.take k) = true
/-- A list of lo to hi groups. -/
def groupsB (xs : List Int) (lo hi : Int) : Bool := okGroups xs && (decide (lo ≤ (xs.length : Int)) && decide ((xs.length : Int) ≤ hi))

theorem take_succ_getD (xs : List Int) (k : Nat) (h : k < xs.length) : xs.take (k + 1) = xs.take k ++ [xs.getD k 0] := by
  rw [List.take_succ_eq_append_getElem h]
  simp [h]
theorem OkTo.zero (xs : List Int) : OkTo xs 0 := by simp [OkTo, okGroups]
theorem OkTo.succ {xs : List Int} {k : Nat} (h : OkTo xs k) (hk : k < xs.length) (h1 : 1 ≤ xs.getD k 0) (h2 : xs.getD k 0 ≤ 6) : OkTo xs (k + 1) := by
  unfold OkTo okGroups at *
  rw [take_succ_getD xs k hk, List.all_append, h]
  simp only [List.all_cons, List.all_nil, Bool.and_true, Bool.true_and, Bool.and_eq_true, decide_eq_true_eq]
  exact ⟨h1, h2⟩
theorem okGroups_no {xs : List Int} {k : Nat} (hk : k < xs.length) (h : xs.getD k 0 < 1 ∨ 6 < xs.getD k 0) : okGroups xs = false := by
  have hm : xs.getD k 0 ∈ xs := by simp [List.getD_eq_getElem?_getD, hk]
  rcases Bool.eq_false_or_eq_true (okGroups xs) with e | e
  · unfold okGroups at e
    have := (List.all_eq_true.1 e) _ hm
    simp at this
    simp at h
    omega
  · exact e
theorem OkTo.all {xs : List Int} (h : OkTo xs xs.length) : okGroups xs = true := by
  unfold OkTo at h
  rwa [List.take_length] at h
theorem okGroups_get {xs : List Int} (h : okGroups xs = true) (k : Nat) (hk : k < xs.length) : 1 ≤ xs.getD k 0 ∧ xs.getD k 0 ≤ 6 := by
  have hm : xs.getD k 0 ∈ xs := by simp [List.getD_eq_getElem?_getD, hk]
  unfold okGroups at h
  have := (List.all_eq_true.1 h) _ hm
  simpa using this
theorem dg_succ (xs : List Int) (k : Nat) (h : k < xs.length) : dg (xs.take (k + 1)) = dg (xs.take k) ++ [digit (xs.getD k 0)] := by
  rw [take_succ_getD xs k h]
  simp [dg]
theorem dg_length (xs : List Int) : (dg xs).length = xs.length := by simp [dg]
theorem digit_toNat {x : Int} (h0 : 0 ≤ x) (h : x ≤ 9) : ((digit x).toNat : Int) = 48 + x := by
  unfold digit
  rw [UInt8.toNat_ofNat']
  omega

theorem digit_inj {x y : Int} (hx : 1 ≤ x ∧ x ≤ 6) (hy : 1 ≤ y ∧ y ≤ 6) (h : digit x = digit y) : x = y := by
  have h1 := digit_toNat (x := x) (by omega) (by omega)
  have h2 := digit_toNat (x := y) (by omega) (by omega)
  rw [h] at h1
  omega
theorem okGroups_cons {x : Int} {xs : List Int} (h : okGroups (x :: xs) = true) : (1 ≤ x ∧ x ≤ 6) ∧ okGroups xs = true := by
  simpa [okGroups] using h
theorem prefix_dg (xs ys : List Int) (hx : okGroups xs = true) (hy : okGroups ys = true) : (dg xs).isPrefixOf (dg ys) = decide (xs = ys.take xs.length) := by
  induction xs generalizing ys with
  | nil => simp [dg]
  | cons x xs ih =>
    cases ys with
    | nil => simp [dg]
    | cons y ys =>
      obtain ⟨hx1, hx2⟩ := okGroups_cons hx
      obtain ⟨hy1, hy2⟩ := okGroups_cons hy
      have h := ih ys hx2 hy2
      have e : dg (x :: xs) = digit x :: dg xs := rfl
      have e' : dg (y :: ys) = digit y :: dg ys := rfl
      rw [e, e', List.isPrefixOf_cons_cons, h]
      by_cases hxy : x = y
      · subst hxy; simp
      · have hd : (digit x == digit y) = false := by
          simp only [beq_eq_false_iff_ne]
          exact fun q => hxy (digit_inj hx1 hy1 q)
        rw [hd]
        simp [hxy]
theorem dg_inj {xs ys : List Int} (hx : okGroups xs = true) (hy : okGroups ys = true) (h : dg xs = dg ys) : xs = ys := by
  have hl : xs.length = ys.length := by have := congrArg List.length h; simpa [dg] using this
  have hp := prefix_dg xs ys hx hy
  rw [h] at hp
  have hr : (dg ys).isPrefixOf (dg ys) = true := by simp
  rw [hr] at hp
  have := of_decide_eq_true hp.symm
  rw [hl, List.take_length] at this
  exact this

end Go.Proofs.Ytphadofigcipcaa
