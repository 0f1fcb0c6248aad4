/-
  What strings.Trim and strings.Count say of directions, plainly. No walk.
-/
import Derived.Test.YtilkphehonilbaaDoorTokP
import Derived.Lib.CountLaws
import Derived.Lib.SlTrimSet
namespace Go.Proofs.YtilkphehonilbaaDoor

theorem dropWhile_nil {p : UInt8 → Bool} {l : List UInt8} : l.dropWhile p = [] ↔ ∀ b ∈ l, p b = true := by
  induction l with
  | nil => simp
  | cons a l ih =>
    rw [List.dropWhile_cons]
    cases h : p a
    · simp [h]
    · simp [h, ih]
theorem trim_nil (l cs : List UInt8) : Lib.trimS l cs = [] ↔ ∀ b ∈ l, cs.contains b = true := by
  unfold Lib.trimS Lib.trimLeftS Lib.trimRightS
  rw [dropWhile_nil]
  constructor
  · intro h
    by_cases e : l.reverse.dropWhile (cs.contains ·) = []
    · rw [dropWhile_nil] at e
      intro b hb
      exact e b (by simpa using hb)
    · exfalso
      obtain ⟨a, t, hat⟩ := List.exists_cons_of_ne_nil e
      have h1 := h a (by rw [hat]; simp)
      have h2 := List.head_dropWhile_not (cs.contains ·) (l := l.reverse) e
      have h3 : ∀ (m : List UInt8) (hm : m ≠ []), m = a :: t → cs.contains (m.head hm) = cs.contains a := by
        intro m hm e; subst e; rfl
      rw [h3 _ e hat, h1] at h2
      cases h2
  · intro h b hb
    have hb' : b ∈ l.reverse.dropWhile (cs.contains ·) := by simpa using hb
    have := (List.dropWhile_sublist (l := l.reverse) (cs.contains ·)).subset hb'
    exact h b (by simpa using this)
theorem size_list (S : ByteArray) : S.size = S.data.toList.length := (Array.length_toList ..).symm
theorem bt_mem {S : ByteArray} {b : UInt8} (h : b ∈ S.data.toList) : ∃ k, k < S.size ∧ bt S k = (b.toNat : Int) := by
  obtain ⟨k, hk, e⟩ := List.mem_iff_getElem.1 h
  have hs : k < S.size := by rw [size_list]; exact hk
  refine ⟨k, hs, ?_⟩
  rw [← bt_get hs, ← e]
  rfl
theorem bt_at {S : ByteArray} {k : Nat} (h : k < S.size) : ∃ b, S.data.toList[k]? = some b ∧ bt S k = (b.toNat : Int) := by
  have hs : k < S.data.toList.length := by rw [← size_list]; exact h
  refine ⟨S.data.toList[k], List.getElem?_eq_getElem hs, ?_⟩
  rw [← bt_get h]
  rfl
theorem trim_only (x y : UInt8) (S : ByteArray) : decide (Lib.trimS S.data.toList [x, y] = []) = onlyB x.toNat y.toNat S := by
  have e : Lib.trimS S.data.toList [x, y] = [] ↔ ∀ j, j < S.size → bt S j = (x.toNat : Int) ∨ bt S j = (y.toNat : Int) := by
    rw [trim_nil]
    constructor
    · intro h j hj
      obtain ⟨b, hb, e⟩ := bt_at hj
      have := h b (List.mem_of_getElem? hb)
      simp only [List.contains_cons, List.contains_nil, Bool.or_false, Bool.or_eq_true, beq_iff_eq] at this
      rcases this with rfl | rfl
      · exact .inl e
      · exact .inr e
    · intro h b hb
      obtain ⟨k, hk, e⟩ := bt_mem hb
      simp only [List.contains_cons, List.contains_nil, Bool.or_false, Bool.or_eq_true, beq_iff_eq]
      rcases h k hk with q | q
      · left; apply UInt8.toNat_inj.1; omega
      · right; apply UInt8.toNat_inj.1; omega
  unfold onlyB
  exact decide_eq_decide.2 e

/-! ### Pairs of letters -/

theorem count_cons (b : UInt8) (l sub : List UInt8) (hsub : sub ≠ []) : Lib.count (b :: l) sub = if sub.isPrefixOf (b :: l) then 1 + Lib.count ((b :: l).drop sub.length) sub else Lib.count l sub := by
  by_cases hp : sub.isPrefixOf (b :: l) = true
  · rw [if_pos hp]
    have : Lib.index (b :: l) sub = ((0 : Nat) : Int) := by unfold Lib.index; rw [if_pos hp]; rfl
    rw [Lib.count_hit hsub this, Nat.zero_add]
  · rw [if_neg hp]
    by_cases hm : Lib.index l sub = -1
    · have : Lib.index (b :: l) sub = -1 := by unfold Lib.index; rw [if_neg hp, if_pos (by simp [hm])]
      rw [Lib.count_miss this, Lib.count_miss hm]
    · obtain ⟨i, hi⟩ : ∃ i : Nat, Lib.index l sub = i := ⟨(Lib.index l sub).toNat, by have := Lib.index_ge l sub; omega⟩
      have : Lib.index (b :: l) sub = ((i + 1 : Nat) : Int) := by unfold Lib.index; rw [if_neg hp, if_neg (by simp [hm]), hi]; simp
      rw [Lib.count_hit hsub this, Lib.count_hit hsub hi]
      have : i + 1 + sub.length = (i + sub.length) + 1 := by omega
      rw [this, List.drop_succ_cons]
def prs (x y : UInt8) : List UInt8 → Nat
  | a :: b :: l => (if a = x ∧ b = y then 1 else 0) + prs x y (b :: l)
  | _ => 0
theorem prs_skip {x y : UInt8} (h : x ≠ y) (l : List UInt8) : prs x y (y :: l) = prs x y l := by
  cases l with
  | nil => rfl
  | cons b l => simp [prs, Ne.symm h]
theorem count_two {x y : UInt8} (h : x ≠ y) : ∀ (n : Nat) (l : List UInt8), l.length ≤ n → Lib.count l [x, y] = prs x y l
  | 0, l, hl => by
    have : l = [] := List.eq_nil_of_length_eq_zero (by omega)
    subst this
    exact Lib.count_miss rfl
  | n + 1, [], hl => Lib.count_miss rfl
  | n + 1, [a], hl => by
    rw [count_cons _ _ _ (by simp), if_neg (by simp [List.isPrefixOf])]
    exact Lib.count_miss rfl
  | n + 1, a :: b :: l, hl => by
    rw [count_cons _ _ _ (by simp)]
    simp only [List.length_cons] at hl
    by_cases e : a = x ∧ b = y
    · obtain ⟨rfl, rfl⟩ := e
      rw [if_pos (by simp [List.isPrefixOf])]
      simp only [List.length_cons, List.length_nil, List.drop_succ_cons, List.drop_zero, prs, and_self, if_true]
      rw [count_two h n l (by omega), prs_skip h]
    · rw [if_neg (by simp [List.isPrefixOf]; intro q; exact fun r => e ⟨q.symm, r.symm⟩), count_two h n (b :: l) (by simp; omega)]
      simp [prs, e]
def chL : List UInt8 → Nat
  | a :: b :: l => (if a = b then 0 else 1) + chL (b :: l)
  | _ => 0
theorem prs_both {x y : UInt8} (h : x ≠ y) : ∀ (l : List UInt8), (∀ b ∈ l, b = x ∨ b = y) → prs x y l + prs y x l = chL l
  | [], _ => rfl
  | [a], _ => rfl
  | a :: b :: l, hl => by
    have ih := prs_both h (b :: l) (fun c hc => hl c (List.mem_cons_of_mem _ hc))
    simp only [prs, chL]
    have h1 := hl a (by simp)
    have h2 := hl b (by simp)
    rcases h1 with rfl | rfl <;> rcases h2 with rfl | rfl <;> simp [h, Ne.symm h] <;> omega
def chF (f : Nat → Int) : Nat → Int
  | 0 => 0
  | k + 1 => chF f k + (if 0 < k ∧ f k ≠ f (k - 1) then 1 else 0)
theorem chTo_F (S : ByteArray) (k : Nat) : chTo S k = chF (bt S) k := by
  induction k with
  | zero => rfl
  | succ k ih => simp only [chTo, chF, ih]
theorem chF_front (f : Nat → Int) (k : Nat) : chF f (k + 2) = (if f 1 ≠ f 0 then 1 else 0) + chF (fun i => f (i + 1)) (k + 1) := by
  induction k with
  | zero => simp [chF]
  | succ k ih =>
    have e1 : chF f (k + 1 + 2) = chF f (k + 2) + (if 0 < k + 2 ∧ f (k + 2) ≠ f (k + 2 - 1) then 1 else 0) := rfl
    have e2 : chF (fun i => f (i + 1)) (k + 1 + 1) = chF (fun i => f (i + 1)) (k + 1) + (if 0 < k + 1 ∧ f (k + 1 + 1) ≠ f (k + 1 - 1 + 1) then 1 else 0) := rfl
    rw [e1, e2, ih]
    have p1 : k + 2 - 1 = k + 1 := rfl
    have p2 : k + 1 - 1 + 1 = k + 1 := rfl
    have p3 : k + 1 + 1 = k + 2 := rfl
    rw [p1, p2, p3, Int.add_assoc]
    congr 2
    simp
theorem chF_list : ∀ (l : List UInt8) (f : Nat → Int), (∀ i, i < l.length → f i = ((l[i]?.getD 0).toNat : Int)) → chF f l.length = (chL l : Int)
  | [], _, _ => rfl
  | [a], f, _ => by simp [chF, chL]
  | a :: b :: l, f, hf => by
    have ih := chF_list (b :: l) (fun i => f (i + 1)) (fun i hi => by
      have := hf (i + 1) (by simp at hi ⊢; omega)
      simpa using this)
    simp only [List.length_cons] at ih ⊢
    rw [show l.length + 1 + 1 = l.length + 2 from rfl, chF_front, ih]
    have h0 := hf 0 (by simp)
    have h1 := hf 1 (by simp)
    simp only [List.getElem?_cons_zero, List.getElem?_cons_succ, Option.getD_some] at h0 h1
    rw [h0, h1]
    simp only [chL]
    by_cases e : a = b
    · subst e; simp
    · have : ¬ ((b.toNat : Int) = (a.toNat : Int)) := fun q => e (UInt8.toNat_inj.1 (by omega))
      simp [e, this]
theorem chTo_list (S : ByteArray) : chTo S S.size = (chL S.data.toList : Int) := by
  rw [chTo_F]
  have e := size_list S
  rw [e]
  refine chF_list _ _ fun i hi => ?_
  obtain ⟨b, hb, q⟩ := bt_at (S := S) (k := i) (by rw [e]; exact hi)
  rw [q, hb]; rfl
/-- UD and DU, together as often as the direction changes. -/
theorem count_changes {S : ByteArray} (h : dirB S = true) : ((Lib.countB S ⟨#[85, 68]⟩ : Nat) : Int) + ((Lib.countB S ⟨#[68, 85]⟩ : Nat) : Int) = chTo S S.size := by
  have h2 : ∀ b ∈ S.data.toList, b = 85 ∨ b = 68 := by
    intro b hb
    obtain ⟨k, hk, e⟩ := bt_mem hb
    rcases (dirB_of h).2 k hk with q | q
    · left; apply UInt8.toNat_inj.1; show b.toNat = 85; omega
    · right; apply UInt8.toNat_inj.1; show b.toNat = 68; omega
  rw [chTo_list]
  have e1 : Lib.countB S ⟨#[85, 68]⟩ = prs 85 68 S.data.toList := count_two (by decide) _ _ (Nat.le_refl _)
  have e2 : Lib.countB S ⟨#[68, 85]⟩ = prs 68 85 S.data.toList := count_two (by decide) _ _ (Nat.le_refl _)
  have := prs_both (x := 85) (y := 68) (by decide) S.data.toList h2
  rw [e1, e2]
  omega
end Go.Proofs.YtilkphehonilbaaDoor
