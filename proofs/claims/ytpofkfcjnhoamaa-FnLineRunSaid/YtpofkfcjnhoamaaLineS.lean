/-
  Trains at places, counted plainly. No walk.
-/
import Derived.Test.YtpofkfcjnhoamaaLineI
import Derived.Test.YtpofkfcjnhoamaaRunP
import Derived.Test.YtpofkfcjnhoamaaLineT
namespace Go.Proofs.Ytpofkfcjnhoamaa

/-- The first j trains that are at the first m places. -/
def smP (ts : List Int) (j : Nat) : Nat → Int
  | 0 => 0
  | m + 1 => smP ts j m + cntP ts m j
theorem smP_zero (ts : List Int) (m : Nat) : smP ts 0 m = 0 := by
  induction m with
  | zero => rfl
  | succ m ih => simp only [smP, cntP]; omega
theorem smP_more {ts : List Int} {j : Nat} (h0 : 0 ≤ ts.getD j 0) (m : Nat) : smP ts (j + 1) m = smP ts j m + (if ts.getD j 0 < m then 1 else 0) := by
  induction m with
  | zero => simp only [smP]; rw [if_neg (by omega)]; rfl
  | succ m ih =>
    simp only [smP]
    rw [ih]
    by_cases e : ts.getD j 0 = (m : Int)
    · rw [cntP_yes e, if_neg (by omega), if_pos (by omega)]; omega
    · rw [cntP_no e]
      by_cases q : ts.getD j 0 < (m : Int)
      · rw [if_pos q, if_pos (by omega)]; omega
      · rw [if_neg q, if_neg (by omega)]; omega
theorem smP_all {ts : List Int} {m : Nat} : ∀ j, (∀ i, i < j → 0 ≤ ts.getD i 0 ∧ ts.getD i 0 < (m : Int)) → smP ts j m = (j : Int) := by
  intro j
  induction j with
  | zero => intro _; exact smP_zero ts m
  | succ j ih =>
    intro h
    obtain ⟨a, b⟩ := h j (by omega)
    rw [smP_more a, if_pos b, ih (fun i hi => h i (by omega))]
    omega
theorem smP_range (ts : List Int) (hl : ts.length ≤ 6) : ∀ m : Nat, 0 ≤ smP ts ts.length m ∧ smP ts ts.length m ≤ 6 * (m : Int) := by
  intro m
  induction m with
  | zero => simp [smP]
  | succ m ih =>
    have := cntP_range ts m ts.length
    simp only [smP]
    omega
theorem smP_cnt (ts : List Int) (m : Nat) : smP ts ts.length (m + 1) = smP ts ts.length m + cntAt ts m := rfl
/-- A train is found at a place exactly if one is there. -/
theorem fst_cnt (ts : List Int) (p : Int) : (fst ts p).isSome = decide (0 < cntAt ts p) := by
  have hz : ∀ j, (∀ i, i < j → ts.getD i 0 ≠ p) → cntP ts p j = 0 := by
    intro j
    induction j with
    | zero => intro _; rfl
    | succ j ih => intro h; rw [cntP_no (h j (by omega)), ih (fun i hi => h i (by omega))]
  cases h : fst ts p with
  | none =>
    have := hz ts.length (fst_not h)
    unfold cntAt
    rw [this]
    rfl
  | some i =>
    obtain ⟨h1, h2, -⟩ := fst_is h
    have h3 : cntP ts p (i + 1) = cntP ts p i + 1 := cntP_yes h2
    have h4 := cntP_mono ts p (show i + 1 ≤ ts.length by omega)
    have h5 := cntP_range ts p i
    unfold cntAt
    rw [decide_eq_true (by omega)]
    rfl
/-- What the law on sections asks of a valid line. -/
theorem line_facts {l : Ln} (h : lnB l = true) :
    (1 ≤ l.1.length ∧ l.1.length ≤ 5) ∧ l.2.length ≤ 5 ∧
    (∀ k : Nat, k ≤ l.1.length → waitsV l k = cntAt l.2 (2 * k : Nat)) ∧ inV l l.1.length = none ∧
    (∀ k : Nat, k < l.1.length → (∃ i : Nat, i < l.2.length ∧ inV l k = some i ∧ l.2.getD i 0 = 2 * (k : Int) + 1 ∧ (l.1.getD k nb).2.1 = true ∧ cntAt l.2 (2 * k + 1 : Nat) = 1) ∨ (inV l k = none ∧ (l.1.getD k nb).2.1 = false ∧ cntAt l.2 (2 * k + 1 : Nat) = 0)) ∧
    smP l.2 l.2.length (2 * l.1.length + 1) = (l.2.length : Int) := by
  obtain ⟨h1, h2, h3, h4⟩ := lnB_is h
  refine ⟨h1, h2, ?_, ?_, ?_, ?_⟩
  · intro k hk
    unfold waitsV
    rw [if_pos ⟨h, by omega, by omega⟩]
    congr 1
  · unfold inV
    rw [if_neg (fun q => by omega)]
  · intro k hk
    have hc := (h4 k hk).2
    have e : ((2 * k + 1 : Nat) : Int) = 2 * (k : Int) + 1 := by omega
    have hi : inV l k = fst l.2 (2 * (k : Int) + 1) := by
      unfold inV
      rw [if_pos ⟨h, by omega, by omega⟩]
    rw [e, hi]
    have hf := fst_cnt l.2 (2 * (k : Int) + 1)
    rw [hc] at hf ⊢
    unfold insN at hf ⊢
    cases hb : (l.1.getD k nb).2.1 with
    | false =>
      rw [hb] at hf
      refine .inr ⟨?_, rfl, rfl⟩
      cases q : fst l.2 (2 * (k : Int) + 1) with
      | none => rfl
      | some i => rw [q] at hf; cases hf
    | true =>
      rw [hb] at hf
      refine .inl ?_
      cases q : fst l.2 (2 * (k : Int) + 1) with
      | none => rw [q] at hf; cases hf
      | some i => exact ⟨i, (fst_is q).1, rfl, (fst_is q).2.1, rfl, rfl⟩
  · refine smP_all _ (fun i hi => ?_)
    have := h3 i hi
    omega

end Go.Proofs.Ytpofkfcjnhoamaa

/-
  A move keeps a line valid, plainly. No walk.
-/
namespace Go.Proofs.Ytpofkfcjnhoamaa

theorem set_get {ts : List Int} {i j : Nat} {q : Int} (hi : i < ts.length) : (ts.set i q).getD j 0 = if i = j then q else ts.getD j 0 := by
  by_cases e : i = j
  · subst e
    rw [if_pos rfl]
    simp [List.getD_eq_getElem?_getD, hi]
  · rw [if_neg e]
    simp [List.getD_eq_getElem?_getD, e]
theorem setB_get {bs : List Blk} {i j : Nat} {b : Blk} (hi : i < bs.length) : (bs.set i b).getD j nb = if i = j then b else bs.getD j nb := by
  by_cases e : i = j
  · subst e
    rw [if_pos rfl]
    simp [List.getD_eq_getElem?_getD, hi]
  · rw [if_neg e]
    simp [List.getD_eq_getElem?_getD, e]
theorem cntP_set {ts : List Int} {i : Nat} {q r : Int} (hi : i < ts.length) : ∀ j, cntP (ts.set i q) r j = cntP ts r j + (if i < j then (if q = r then 1 else 0) - (if ts.getD i 0 = r then 1 else 0) else 0) := by
  intro j
  induction j with
  | zero => simp [cntP]
  | succ j ih =>
    simp only [cntP]
    rw [set_get hi, ih]
    by_cases e : i = j
    · subst e
      rw [if_pos rfl, if_neg (Nat.lt_irrefl i), if_pos (Nat.lt_succ_self i)]
      repeat' split
      all_goals omega
    · rw [if_neg e]
      have h2 : (if i < j + 1 then (if q = r then (1 : Int) else 0) - (if ts.getD i 0 = r then 1 else 0) else 0) = (if i < j then (if q = r then (1 : Int) else 0) - (if ts.getD i 0 = r then 1 else 0) else 0) := by
        by_cases l : i < j
        · rw [if_pos l, if_pos (by omega)]
        · rw [if_neg l, if_neg (by omega)]
      rw [h2]
      generalize (if i < j then (if q = r then (1 : Int) else 0) - (if ts.getD i 0 = r then 1 else 0) else 0) = A
      by_cases c : ts.getD j 0 = r
      · rw [if_pos c, if_pos c]; omega
      · rw [if_neg c, if_neg c]
theorem cntAt_set {ts : List Int} {i : Nat} {q r : Int} (hi : i < ts.length) : cntAt (ts.set i q) r = cntAt ts r + (if q = r then 1 else 0) - (if ts.getD i 0 = r then 1 else 0) := by
  unfold cntAt
  rw [List.length_set, cntP_set hi, if_pos hi]
  omega
theorem PlTo_set {n : Nat} {ts : List Int} {i : Nat} {p : Int} (h : PlTo n ts ts.length) (hi : i < ts.length) (e : ts.getD i 0 = p) (hb : ∀ m, m < i → ts.getD m 0 ≠ p) (hp : p + 1 ≤ 2 * (n : Int)) : PlTo n (ts.set i (p + 1)) (ts.set i (p + 1)).length := by
  intro j hj
  rw [List.length_set] at hj
  obtain ⟨h1, h2, h3⟩ := h j hj
  rw [set_get hi, set_get hi]
  have hi3 := h i hi
  by_cases q : i = j
  · subst q
    rw [if_pos rfl]
    refine ⟨by omega, hp, fun h0 => ?_⟩
    rw [if_neg (by omega)]
    have a := hi3.2.2 h0
    have b := hb (i - 1) (by omega)
    omega
  · rw [if_neg q]
    refine ⟨h1, h2, fun h0 => ?_⟩
    have a := h3 h0
    by_cases q2 : i = j - 1
    · rw [if_pos q2]
      rw [← q2, e] at a
      omega
    · rw [if_neg q2]
      exact a

/-- How a move goes: section and block; a train enters, leaves, or none goes. -/
theorem lnDo_is {l x : Ln} {m : Mv} (h : lnDo l m = some x) : ∃ K : Nat, m.1 = K ∧ K < l.1.length ∧ ∃ b, bkOne (l.1.getD K nb) m.2 = some b ∧ x.1 = l.1.set K b ∧
    ((isE m.2 = true ∧ ∃ i, fst l.2 (2 * (K : Int)) = some i ∧ x.2 = l.2.set i (2 * (K : Int) + 1)) ∨ (isE m.2 = false ∧ isL m.2 = true ∧ ∃ i, fst l.2 (2 * (K : Int) + 1) = some i ∧ x.2 = l.2.set i (2 * (K : Int) + 1 + 1)) ∨ (isE m.2 = false ∧ isL m.2 = false ∧ x.2 = l.2)) := by
  unfold lnDo at h
  split at h
  · rename_i hk
    obtain ⟨b, hb, h⟩ := Option.bind_eq_some_iff.1 h
    obtain ⟨ts, ht, rfl⟩ := Option.map_eq_some_iff.1 h
    have e : ((m.1.toNat : Nat) : Int) = m.1 := by omega
    refine ⟨m.1.toNat, e.symm, by omega, b, hb, rfl, ?_⟩
    rw [e]
    unfold goTo at ht
    cases he : isE m.2 with
    | true =>
      rw [he, if_pos rfl] at ht
      obtain ⟨i, hi, rfl⟩ := Option.map_eq_some_iff.1 ht
      exact .inl ⟨rfl, i, hi, rfl⟩
    | false =>
      rw [he, if_neg (by simp)] at ht
      cases hl : isL m.2 with
      | true =>
        rw [hl, if_pos rfl] at ht
        obtain ⟨i, hi, rfl⟩ := Option.map_eq_some_iff.1 ht
        exact .inr (.inl ⟨rfl, rfl, i, hi, rfl⟩)
      | false =>
        rw [hl, if_neg (by simp)] at ht
        simp only [Option.some.injEq] at ht
        exact .inr (.inr ⟨rfl, rfl, ht.symm⟩)
  · cases h
theorem isE_is {S : ByteArray} (h : isE S = true) : S.size = 1 ∧ bt S 0 = 101 := of_decide_eq_true h
theorem isL_is {S : ByteArray} (h : isL S = true) : S.size = 1 ∧ bt S 0 = 108 := of_decide_eq_true h
/-- The block of an event, and what it becomes. -/
theorem one_cases {b b' : Blk} {S : ByteArray} (h : bkOne b S = some b') : bkPos b' = true ∧ ((isE S = true ∧ b = (1, false, false) ∧ b' = (2, true, false)) ∨ (isE S = false ∧ isL S = true ∧ b = (2, true, false) ∧ b' = (2, false, false)) ∨ (isE S = false ∧ isL S = false ∧ b.2.1 = false ∧ b'.2.1 = false)) := by
  unfold bkOne at h
  split at h
  · rename_i hs
    have p := (bkStep_pos h).2
    refine ⟨p, ?_⟩
    unfold isE isL
    rcases bkStep_cases h with ⟨e, rfl, rfl⟩ | ⟨e, rfl, rfl⟩ | ⟨e, rfl, rfl⟩ | ⟨e, rfl, rfl⟩ | ⟨e, rfl, rfl⟩ | ⟨e, rfl, rfl⟩ | ⟨e, rfl, rfl⟩ <;> rw [e] <;> simp [hs]
  · cases h
theorem do_ok {l x : Ln} {m : Mv} (h : LnOk l) (hd : lnDo l m = some x) : LnOk x := by
  obtain ⟨h1, h2, h3, h4⟩ := h
  obtain ⟨K, hm, hK, b, hb, ex1, ht⟩ := lnDo_is hd
  obtain ⟨hp, hc⟩ := one_cases hb
  have hlen := lnDo_len hd
  have hok : PlTo l.1.length x.2 x.2.length ∧ ∀ j, j < l.1.length → cntAt x.2 (2 * (j : Int) + 1) = insN (x.1.getD j nb) := by
    rw [ex1]
    rcases ht with ⟨he, i, hi, ex2⟩ | ⟨he, hl, i, hi, ex2⟩ | ⟨he, hl, ex2⟩
    · obtain ⟨i1, i2, i3⟩ := fst_is hi
      rw [ex2]
      have hbb : l.1.getD K nb = (1, false, false) ∧ b = (2, true, false) := by
        rcases hc with ⟨_, a, c⟩ | ⟨a, _⟩ | ⟨a, _⟩
        · exact ⟨a, c⟩
        · rw [he] at a; cases a
        · rw [he] at a; cases a
      refine ⟨PlTo_set h3 i1 i2 i3 (by omega), fun j hj => ?_⟩
      rw [cntAt_set i1, i2, setB_get hK, (h4 j hj).2]
      by_cases e : K = j
      · subst e
        rw [if_pos rfl, if_pos rfl, if_neg (by omega), hbb.1, hbb.2]
        rfl
      · rw [if_neg e, if_neg (by omega), if_neg (by omega)]
        omega
    · obtain ⟨i1, i2, i3⟩ := fst_is hi
      rw [ex2]
      have hbb : l.1.getD K nb = (2, true, false) ∧ b = (2, false, false) := by
        rcases hc with ⟨a, _⟩ | ⟨_, _, a, c⟩ | ⟨_, a, _⟩
        · rw [he] at a; cases a
        · exact ⟨a, c⟩
        · rw [hl] at a; cases a
      refine ⟨PlTo_set h3 i1 i2 i3 (by omega), fun j hj => ?_⟩
      rw [cntAt_set i1, i2, setB_get hK, (h4 j hj).2]
      by_cases e : K = j
      · subst e
        rw [if_pos rfl, if_pos rfl, if_neg (by omega), hbb.1, hbb.2]
        rfl
      · rw [if_neg e, if_neg (by omega), if_neg (by omega)]
        omega
    · rw [ex2]
      have hbb : (l.1.getD K nb).2.1 = false ∧ b.2.1 = false := by
        rcases hc with ⟨a, _⟩ | ⟨_, a, _⟩ | ⟨_, _, a, c⟩
        · rw [he] at a; cases a
        · rw [hl] at a; cases a
        · exact ⟨a, c⟩
      refine ⟨h3, fun j hj => ?_⟩
      rw [setB_get hK, (h4 j hj).2]
      by_cases e : K = j
      · subst e
        rw [if_pos rfl]
        unfold insN
        rw [hbb.1, hbb.2]
      · rw [if_neg e]
  refine ⟨by omega, by omega, by rw [hlen.1]; exact hok.1, fun k hk => ⟨?_, hok.2 k (by omega)⟩⟩
  rw [ex1, setB_get hK]
  split
  · exact hp
  · exact (h4 k (by omega)).1
/-- A move keeps a line valid. -/
theorem step_ok {l x : Ln} {m : Mv} (h : lnStep l m = some x) : lnB l = true ∧ lnB x = true ∧ lnDo l m = some x := by
  unfold lnStep at h
  cases hb : lnB l with
  | false => rw [hb] at h; cases h
  | true =>
    rw [hb, if_pos rfl] at h
    exact ⟨rfl, lnB_yes (do_ok (lnB_is hb) h), h⟩
/-- A train that enters. -/
theorem enter_facts {l x : Ln} {k : Int} (h : lnStep l (k, ⟨#[101]⟩) = some x) : ∃ i : Nat, i < l.2.length ∧ inV x k = some i ∧ waitsV x k = waitsV l k - 1 ∧ l.2.getD i 0 = 2 * k ∧ (0 < i → 2 * k < l.2.getD (i - 1) 0) ∧ x.1.length = l.1.length ∧ x.2.length = l.2.length := by
  obtain ⟨hl, hx, hd⟩ := step_ok h
  obtain ⟨K, hm, hK, b, hb, ex1, ht⟩ := lnDo_is hd
  have hlen := lnDo_len hd
  have hm : k = (K : Int) := hm
  subst hm
  have he : isE (⟨#[101]⟩ : ByteArray) = true := by decide
  obtain ⟨i, hi, ex2⟩ : ∃ i, fst l.2 (2 * (K : Int)) = some i ∧ x.2 = l.2.set i (2 * (K : Int) + 1) := by
    rcases ht with ⟨_, q⟩ | ⟨q, _⟩ | ⟨q, _⟩
    · exact q
    · rw [he] at q; cases q
    · rw [he] at q; cases q
  obtain ⟨i1, i2, i3⟩ := fst_is hi
  obtain ⟨g1, g2, g3, g4⟩ := lnB_is hl
  obtain ⟨hp, hc⟩ := one_cases hb
  have hbb : l.1.getD K nb = (1, false, false) := by
    rcases hc with ⟨_, a, _⟩ | ⟨a, _⟩ | ⟨a, _⟩
    · exact a
    · rw [he] at a; cases a
    · rw [he] at a; cases a
  have hz : cntAt l.2 (2 * (K : Int) + 1) = 0 := by rw [(g4 K hK).2, hbb]; rfl
  have hno : ∀ j, j < l.2.length → l.2.getD j 0 ≠ 2 * (K : Int) + 1 := by
    have := fst_cnt l.2 (2 * (K : Int) + 1)
    rw [hz] at this
    cases q : fst l.2 (2 * (K : Int) + 1) with
    | none => exact fst_not q
    | some i => rw [q] at this; cases this
  refine ⟨i, i1, ?_, ?_, i2, fun h0 => ?_, hlen.1, hlen.2⟩
  · unfold inV
    rw [if_pos ⟨hx, by omega, by omega⟩, ex2]
    refine fst_some (by rw [List.length_set]; exact i1) (by rw [set_get i1, if_pos rfl]) (fun m hm => ?_)
    rw [set_get i1, if_neg (by omega)]
    exact hno m (by omega)
  · unfold waitsV
    rw [if_pos ⟨hx, by omega, by omega⟩, if_pos ⟨hl, by omega, by omega⟩, ex2, cntAt_set i1, i2, if_neg (by omega), if_pos rfl]
    omega
  · have a := (g3 i i1).2.2 h0
    have c := i3 (i - 1) (by omega)
    omega

end Go.Proofs.Ytpofkfcjnhoamaa

/-
  A move saves at most one event, plainly. No walk.
-/
namespace Go.Proofs.Ytpofkfcjnhoamaa

theorem comP_set {ts : List Int} {i : Nat} {q r : Int} (hi : i < ts.length) : ∀ j, comP (ts.set i q) r j = comP ts r j + (if i < j then (if q ≤ r then 1 else 0) - (if ts.getD i 0 ≤ r then 1 else 0) else 0) := by
  intro j
  induction j with
  | zero => simp [comP]
  | succ j ih =>
    simp only [comP]
    rw [set_get hi, ih]
    by_cases e : i = j
    · subst e
      rw [if_pos rfl, if_neg (Nat.lt_irrefl i), if_pos (Nat.lt_succ_self i)]
      repeat' split
      all_goals omega
    · rw [if_neg e]
      have h2 : (if i < j + 1 then (if q ≤ r then (1 : Int) else 0) - (if ts.getD i 0 ≤ r then 1 else 0) else 0) = (if i < j then (if q ≤ r then (1 : Int) else 0) - (if ts.getD i 0 ≤ r then 1 else 0) else 0) := by
        by_cases l : i < j
        · rw [if_pos l, if_pos (by omega)]
        · rw [if_neg l, if_neg (by omega)]
      rw [h2]
      generalize (if i < j then (if q ≤ r then (1 : Int) else 0) - (if ts.getD i 0 ≤ r then 1 else 0) else 0) = A
      by_cases c : ts.getD j 0 ≤ r
      · rw [if_pos c, if_pos c]; omega
      · rw [if_neg c, if_neg c]
theorem comTo_set {ts : List Int} {i : Nat} {q r : Int} (hi : i < ts.length) : comTo (ts.set i q) r = comTo ts r + (if q ≤ r then 1 else 0) - (if ts.getD i 0 ≤ r then 1 else 0) := by
  unfold comTo
  rw [List.length_set, comP_set hi, if_pos hi]
  omega
theorem com_pos {ts : List Int} {i : Nat} {r : Int} (hi : i < ts.length) (h : ts.getD i 0 ≤ r) : 1 ≤ comTo ts r := by
  have hm : ∀ j, i < j → 1 ≤ comP ts r j := by
    intro j
    induction j with
    | zero => intro q; omega
    | succ j ih =>
      intro q
      simp only [comP]
      by_cases e : i = j
      · subst e
        rw [if_pos h]
        have := comP_range ts r i
        omega
      · have := ih (by omega)
        split <;> omega
  exact hm _ hi
theorem ev_step {b b' : Blk} {S : ByteArray} {t t' : Int} (h : bkOne b S = some b') (ht0 : 0 ≤ t') (ht : (isE S = true ∧ t' = t - 1) ∨ (isE S = false ∧ t' = t)) : evLeft b t - 1 ≤ evLeft b' t' := by
  unfold bkOne at h
  split at h
  · rename_i hs
    have hE : isE S = decide (bt S 0 = 101) := by unfold isE; simp [hs]
    rw [hE] at ht
    rcases bkStep_cases h with ⟨e, rfl, rfl⟩ | ⟨e, rfl, rfl⟩ | ⟨e, rfl, rfl⟩ | ⟨e, rfl, rfl⟩ | ⟨e, rfl, rfl⟩ | ⟨e, rfl, rfl⟩ | ⟨e, rfl, rfl⟩ <;> rw [e] at ht <;> simp at ht <;> subst ht <;> simp [evLeft, nb] <;> (repeat' split) <;> omega
  · cases h
/-- A move saves at most one event. -/
theorem left_step {l x : Ln} {m : Mv} (h : lnStep l m = some x) : leftV l - 1 ≤ leftV x ∧ 0 ≤ leftV l ∧ leftV l ≤ 200 ∧ 0 ≤ leftV x ∧ leftV x ≤ 200 := by
  obtain ⟨hl, hx, hd⟩ := step_ok h
  obtain ⟨K, hm, hK, b, hb, ex1, ht⟩ := lnDo_is hd
  have hlen := lnDo_len hd
  have g := lnB_is hl
  have gx := lnB_is hx
  have big : ∀ y : Ln, lnB y = true → 0 ≤ leftV y ∧ leftV y ≤ 200 := by
    intro y hy
    have gy := lnB_is hy
    have r := leftP_range y y.1.length
    have e : leftV y = leftP y y.1.length := by unfold leftV lnLeft; rw [hy, if_pos rfl]
    rw [e]
    refine ⟨r.1, Int.le_trans r.2 ?_⟩
    have a1 : (y.1.length : Int) ≤ 5 := by have := gy.1; omega
    have a2 : 5 * (y.2.length : Int) + 2 ≤ 27 := by have := gy.2.1; omega
    have a3 : (0 : Int) ≤ 5 * (y.2.length : Int) + 2 := by omega
    have := Int.mul_le_mul a1 a2 a3 (by omega)
    omega
  refine ⟨?_, (big l hl).1, (big l hl).2, (big x hx).1, (big x hx).2⟩
  have com : (isE m.2 = true ∧ (∀ j : Nat, j ≠ K → comTo x.2 (2 * (j : Int)) = comTo l.2 (2 * (j : Int))) ∧ comTo x.2 (2 * (K : Int)) = comTo l.2 (2 * (K : Int)) - 1) ∨ (isE m.2 = false ∧ ∀ j : Nat, comTo x.2 (2 * (j : Int)) = comTo l.2 (2 * (j : Int))) := by
    rcases ht with ⟨he, i, hi, ex⟩ | ⟨he, hl2, i, hi, ex⟩ | ⟨he, hl2, ex⟩
    · obtain ⟨i1, i2, -⟩ := fst_is hi
      refine .inl ⟨he, fun j hj => ?_, ?_⟩
      · rw [ex, comTo_set i1, i2]
        by_cases q : K < j
        · rw [if_pos (by omega), if_pos (by omega)]; omega
        · rw [if_neg (by omega), if_neg (by omega)]; omega
      · rw [ex, comTo_set i1, i2, if_neg (by omega), if_pos (by omega)]; omega
    · obtain ⟨i1, i2, -⟩ := fst_is hi
      refine .inr ⟨he, fun j => ?_⟩
      rw [ex, comTo_set i1, i2]
      by_cases q : K < j
      · rw [if_pos (by omega), if_pos (by omega)]; omega
      · rw [if_neg (by omega), if_neg (by omega)]; omega
    · exact .inr ⟨he, fun j => by rw [ex]⟩
  have term : ∀ j : Nat, j < l.1.length → evLeft (l.1.getD j nb) (comTo l.2 (2 * (j : Int))) - (if j = K then 1 else 0) ≤ evLeft (x.1.getD j nb) (comTo x.2 (2 * (j : Int))) := by
    intro j hj
    rw [ex1, setB_get hK]
    by_cases e : K = j
    · subst e
      rw [if_pos rfl, if_pos rfl]
      have c0 := (comTo_range x.2 (2 * (K : Int))).1
      rcases com with ⟨he, -, h2⟩ | ⟨he, h2⟩
      · exact ev_step hb c0 (.inl ⟨he, h2⟩)
      · exact ev_step hb c0 (.inr ⟨he, h2 K⟩)
    · rw [if_neg e, if_neg (fun q => e q.symm)]
      have : comTo x.2 (2 * (j : Int)) = comTo l.2 (2 * (j : Int)) := by
        rcases com with ⟨_, h1, _⟩ | ⟨_, h2⟩
        · exact h1 j (fun q => e q.symm)
        · exact h2 j
      rw [this]
      omega
  have sum : ∀ j : Nat, j ≤ l.1.length → leftP l j - (if K < j then 1 else 0) ≤ leftP x j := by
    intro j
    induction j with
    | zero => intro _; simp [leftP]
    | succ j ih =>
      intro hj
      have a := ih (by omega)
      have c := term j (by omega)
      simp only [leftP]
      by_cases e : j = K
      · subst e
        rw [if_neg (Nat.lt_irrefl j)] at a
        rw [if_pos rfl] at c
        rw [if_pos (Nat.lt_succ_self j)]
        omega
      · rw [if_neg e] at c
        by_cases q : K < j
        · rw [if_pos q] at a
          rw [if_pos (by omega)]
          omega
        · rw [if_neg q] at a
          rw [if_neg (by omega)]
          omega
  have e1 : leftV l = leftP l l.1.length := by unfold leftV lnLeft; rw [hl, if_pos rfl]
  have e2 : leftV x = leftP x l.1.length := by unfold leftV lnLeft; rw [hx, if_pos rfl, hlen.1]
  have := sum l.1.length (Nat.le_refl _)
  rw [if_pos hK] at this
  rw [e1, e2]
  exact this

end Go.Proofs.Ytpofkfcjnhoamaa

/-
  Runs of moves in parts and section by section, plainly; parts of a list of moves. No walk.
-/
namespace Go.Proofs.Ytpofkfcjnhoamaa
open Go.RowKit Go.Sort

theorem lnTo_ok {l : Ln} {ms : List Mv} (h : LnOk l) : ∀ k y, lnTo l ms k = some y → LnOk y := by
  intro k
  induction k with
  | zero => intro y e; simp only [lnTo, Option.some.injEq] at e; rw [← e]; exact h
  | succ k ih =>
    intro y e
    simp only [lnTo] at e
    obtain ⟨z, hz, hy⟩ := Option.bind_eq_some_iff.1 e
    exact do_ok (ih z hz) hy
theorem lnTo_take {l : Ln} {ms : List Mv} {m : Nat} : ∀ k, k ≤ m → lnTo l (ms.take m) k = lnTo l ms k := by
  intro k
  induction k with
  | zero => intro _; rfl
  | succ k ih =>
    intro h
    have e : (ms.take m).getD k noMv = ms.getD k noMv := by simp [List.getD_eq_getElem?_getD, show k < m by omega]
    simp only [lnTo]
    rw [ih (by omega), e]
theorem lnTo_drop {l y : Ln} {ms : List Mv} {m : Nat} (h : lnTo l ms m = some y) : ∀ j, lnTo y (ms.drop m) j = lnTo l ms (m + j) := by
  intro j
  induction j with
  | zero => rw [Nat.add_zero, h]; rfl
  | succ j ih =>
    have e : (ms.drop m).getD j noMv = ms.getD (m + j) noMv := by simp [List.getD_eq_getElem?_getD, List.getElem?_drop]
    rw [← Nat.add_assoc]
    simp only [lnTo]
    rw [ih, e]
theorem lnTo_some {l x : Ln} {ms : List Mv} {n : Nat} (h : lnTo l ms n = some x) {k : Nat} (hk : k ≤ n) : ∃ y, lnTo l ms k = some y := by
  cases e : lnTo l ms k with
  | some y => exact ⟨y, rfl⟩
  | none => rw [lnTo_none e hk] at h; cases h
/-- Half of the moves, and the other half. -/
theorem run_halves {l x : Ln} {ms : List Mv} (h : lnRun l ms = some x) {m : Nat} (hm : m ≤ ms.length) : ∃ y, lnRun l (ms.take m) = some y ∧ lnRun y (ms.drop m) = some x ∧ y.1.length ≤ 5 ∧ y.2.length ≤ 5 := by
  unfold lnRun at h
  cases hb : lnB l with
  | false => rw [hb] at h; cases h
  | true =>
    rw [hb, if_pos rfl] at h
    obtain ⟨y, hy⟩ := lnTo_some h hm
    have ok := lnTo_ok (lnB_is hb) m y hy
    refine ⟨y, ?_, ?_, ok.1.2, ok.2.1⟩
    · unfold lnRun
      rw [hb, if_pos rfl, List.length_take, Nat.min_eq_left hm, lnTo_take m (Nat.le_refl _), hy]
    · unfold lnRun
      rw [lnB_yes ok, if_pos rfl, List.length_drop, lnTo_drop hy, show m + (ms.length - m) = ms.length by omega, h]
theorem run_ok {l x : Ln} {ms : List Mv} (h : lnRun l ms = some x) : lnB l = true ∧ lnB x = true ∧ lnTo l ms ms.length = some x := by
  unfold lnRun at h
  cases hb : lnB l with
  | false => rw [hb] at h; cases h
  | true =>
    rw [hb, if_pos rfl] at h
    exact ⟨rfl, lnB_yes (lnTo_ok (lnB_is hb) _ x h), h⟩

/-! ### Texts of a section -/
/-- The bytes as a list. -/
def bl (S : ByteArray) : List UInt8 := S.data.toList
theorem bl_length (S : ByteArray) : (bl S).length = S.size := by unfold bl; rw [Array.length_toList]; rfl
theorem bt_bl (S : ByteArray) (i : Nat) : bt S i = (((bl S)[i]?.getD 0).toNat : Int) := by
  unfold bt bl
  congr 2
  by_cases h : i < S.size
  · rw [getElem?_pos S i h, List.getElem?_eq_getElem (by rw [Array.length_toList]; exact h)]
    simp only [Array.getElem_toList]
    rfl
  · rw [getElem?_neg S i h, List.getElem?_eq_none (by rw [Array.length_toList]; exact Nat.le_of_not_lt h)]
theorem bl_append (A B : ByteArray) : bl (A ++ B) = bl A ++ bl B := by
  unfold bl
  rw [ByteArray.data_append, Array.toList_append]
theorem bt_left {A B : ByteArray} {k : Nat} (h : k < A.size) : bt (A ++ B) k = bt A k := by
  rw [bt_bl, bt_bl, bl_append, List.getElem?_append_left (by rw [bl_length]; exact h)]
theorem bt_right (A B : ByteArray) (k : Nat) : bt (A ++ B) (A.size + k) = bt B k := by
  rw [bt_bl, bt_bl, bl_append, List.getElem?_append_right (by rw [bl_length]; omega), bl_length, Nat.add_sub_cancel_left]
theorem bkTo_left {b : Blk} {A B : ByteArray} : ∀ k, k ≤ A.size → bkTo b (A ++ B) k = bkTo b A k := by
  intro k
  induction k with
  | zero => intro _; rfl
  | succ k ih =>
    intro h
    simp only [bkTo]
    rw [ih (by omega), bt_left (by omega)]
theorem bkTo_right {b x : Blk} {A B : ByteArray} (h : bkTo b A A.size = some x) : ∀ k, bkTo b (A ++ B) (A.size + k) = bkTo x B k := by
  intro k
  induction k with
  | zero => rw [Nat.add_zero, bkTo_left _ (Nat.le_refl _), h]; rfl
  | succ k ih =>
    rw [← Nat.add_assoc]
    simp only [bkTo]
    rw [ih, bt_right]
theorem sec_text {l : Ln} {ms : List Mv} {K : Nat} (hK : K < l.1.length) : ∀ j x, lnTo l ms j = some x → bkTo (l.1.getD K nb) (lnTx ms K j) (lnTx ms K j).size = some (x.1.getD K nb) := by
  intro j
  induction j with
  | zero => intro x e; simp only [lnTo, Option.some.injEq] at e; rw [← e]; rfl
  | succ j ih =>
    intro x e
    have el := lnTo_len e
    simp only [lnTo] at e
    obtain ⟨y, hy, hx⟩ := Option.bind_eq_some_iff.1 e
    have a := ih y hy
    have yl := lnTo_len hy
    obtain ⟨K', hm, hK', b, hb, ex1, -⟩ := lnDo_is hx
    rw [ex1, setB_get hK']
    by_cases q : K' = K
    · subst q
      rw [if_pos rfl, lnTx_yes hm]
      have hs : (ms.getD j noMv).2.size = 1 := by
        unfold bkOne at hb
        split at hb
        · assumption
        · cases hb
      rw [ByteArray.size_append, hs, bkTo_right a 1]
      rw [bkOne_yes hs] at hb
      simp only [bkTo, Option.bind_some]
      exact hb
    · rw [if_neg q, lnTx_no (by rw [hm]; omega)]
      exact a
/-- What the law asks of a section's text. -/
theorem sec_run {l x : Ln} {ms : List Mv} {K : Nat} (h : lnRun l ms = some x) (hK : K < l.1.length) (h30 : (lnTx ms K ms.length).size ≤ 30) : bkRun (l.1.getD K nb) (lnTx ms K ms.length) = some (x.1.getD K nb) := by
  obtain ⟨hl, -, ht⟩ := run_ok h
  have hp := ((lnB_is hl).2.2.2 K hK).1
  rw [bkRun_is hp (by omega)]
  exact sec_text hK _ x ht
theorem sumS_ones {ms : List Mv} (h : ∀ i, i < ms.length → (ms.getD i noMv).2.size = 1) : ∀ k, k ≤ ms.length → sumS ms k = (k : Int) := by
  intro k
  induction k with
  | zero => intro _; rfl
  | succ k ih =>
    intro hk
    simp only [sumS]
    rw [ih (by omega), h k (by omega)]
    omega

/-! ### Parts of a list of moves -/
theorem elem_mvs : Try.prog.elem 47 = 40 := by kernel_rfl
theorem size_mvs (w : World) : (sizeOf 40).run Try.prog w = .ok 2 w := by kernel_rfl
theorem mvs_head {a : Option Addr} {c : Nat} {ms : List Mv} {m : Nat} (hm : m ≤ ms.length) (hc : ms.length ≤ c) :
    ∃ u, (∀ w : World, (Instr.slice 47 (.slice a ms.length c) none (some (.int .i64 m)) none).run Try.prog w = .ok u w) ∧ ∀ w, Mvs w (.slice a ms.length c) ms → Mvs w u (ms.take m) := by
  have hu := Try.underlying47
  refine ⟨sliced a 0 m c 2, fun w => ?_, fun w h => ?_⟩
  · rw [run_slice_h (P := Try.prog) w 47 a ms.length c (by rw [elem_mvs]; exact hu) .i64 m (by omega) (by omega), elem_mvs, size_mvs]
    rfl
  · obtain ⟨a', c', e, ⟨h1, h2⟩, h3⟩ := h
    simp only [Value.slice.injEq, true_and] at e
    obtain ⟨rfl, rfl⟩ := e
    have hl : (ms.take m).length = m := by rw [List.length_take, Nat.min_eq_left hm]
    unfold sliced
    refine ⟨(if c = 0 then a else a.map (·.add (0 * 2))), c - 0, by rw [hl, Nat.sub_zero], ⟨by omega, by omega⟩, ?_⟩
    rcases h3 with h0 | ⟨b, o, rfl, hb, hcell⟩
    · exact .inl (by omega)
    · refine .inr ⟨b, o, ?_, hb, fun q hq => ?_⟩
      · split
        · rfl
        · simp [Addr.add]
      · rw [hcell q (by omega)]
        have : (ms.take m).getD (q / 2) noMv = ms.getD (q / 2) noMv := by simp [List.getD_eq_getElem?_getD, show q / 2 < m by omega]
        unfold mvF
        rw [this]
theorem mvs_tail {a : Option Addr} {c : Nat} {ms : List Mv} {m : Nat} (hm : m ≤ ms.length) (hc : ms.length ≤ c) :
    ∃ u, (∀ w : World, (Instr.slice 47 (.slice a ms.length c) (some (.int .i64 m)) none none).run Try.prog w = .ok u w) ∧ ∀ w, Mvs w (.slice a ms.length c) ms → Mvs w u (ms.drop m) := by
  have hu := Try.underlying47
  refine ⟨sliced a m ms.length c 2, fun w => ?_, fun w h => ?_⟩
  · rw [run_slice_l (P := Try.prog) w 47 a ms.length c (by rw [elem_mvs]; exact hu) .i64 m (by omega) (by omega), elem_mvs, size_mvs]
    rfl
  · obtain ⟨a', c', e, ⟨h1, h2⟩, h3⟩ := h
    simp only [Value.slice.injEq, true_and] at e
    obtain ⟨rfl, rfl⟩ := e
    have hl : (ms.drop m).length = ms.length - m := List.length_drop
    unfold sliced
    refine ⟨(if c = m then a else a.map (·.add (m * 2))), c - m, by rw [hl], ⟨by omega, by omega⟩, ?_⟩
    rcases h3 with h0 | ⟨b, o, rfl, hb, hcell⟩
    · exact .inl (by omega)
    · by_cases e : m = ms.length
      · exact .inl (by omega)
      · refine .inr ⟨b, o + m * 2, ?_, hb, fun q hq => ?_⟩
        · rw [if_neg (by omega)]
          simp [Addr.add]
        · rw [Nat.add_assoc, hcell (m * 2 + q) (by omega)]
          have : (ms.drop m).getD (q / 2) noMv = ms.getD ((m * 2 + q) / 2) noMv := by
            rw [show (m * 2 + q) / 2 = m + q / 2 by omega]
            simp [List.getD_eq_getElem?_getD, List.getElem?_drop]
          unfold mvF
          rw [this, show (m * 2 + q) % 2 = q % 2 by omega]

end Go.Proofs.Ytpofkfcjnhoamaa
