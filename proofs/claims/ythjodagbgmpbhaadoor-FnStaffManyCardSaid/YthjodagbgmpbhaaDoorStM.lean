/-
  Which of all texts of kinds can be done, and how many, plainly. (What DirL holds too: never together.) No walk.
-/
import Derived.Test.YthjodagbgmpbhaaDoorDirK
namespace Go.Proofs.YthjodagbgmpbhaaDoor
open Go.RowKit

theorem st_facts {a y : Int} {D K : ByteArray} (h : stRun a D K = some y) : (a = 0 ∨ a = 1) ∧ dirB D = true ∧ K.size = D.size ∧ stTo a D K D.size = some y := by
  unfold stRun at h
  by_cases q : (a = 0 ∨ a = 1) ∧ dirB D = true ∧ K.size = D.size
  · rw [if_pos q] at h; exact ⟨q.1, q.2.1, q.2.2, h⟩
  · rw [if_neg q] at h; cases h
theorem stTo_some {a y : Int} {D K : ByteArray} {k n : Nat} (h : stTo a D K n = some y) (hk : k ≤ n) : ∃ x, stTo a D K k = some x := by
  cases e : stTo a D K k with
  | none => rw [stTo_none e hk] at h; cases h
  | some x => exact ⟨x, rfl⟩
/-- Each train goes from where the staff is. -/
theorem st_at {a y : Int} {D K : ByteArray} {k n : Nat} (h : stTo a D K n = some y) (hk : k < n) : stTo a D K k = some (endOf (bt D k)) ∧ (bt K k = 83 ∨ bt K k = 84) ∧ stTo a D K (k + 1) = some (if bt K k = 83 then 1 - endOf (bt D k) else endOf (bt D k)) := by
  obtain ⟨x, hx⟩ := stTo_some h (Nat.le_of_lt hk)
  obtain ⟨z, hz⟩ := stTo_some h (Nat.succ_le_of_lt hk)
  have hz' := hz
  rw [stTo_succ hx] at hz
  unfold stStep at hz
  by_cases q : endOf (bt D k) = x ∧ (bt K k = 83 ∨ bt K k = 84)
  · rw [if_pos q] at hz
    refine ⟨by rw [hx, q.1], q.2, ?_⟩
    rw [hz', ← hz, q.1]
    split <;> rfl
  · rw [if_neg q] at hz; cases hz
theorem st_back {a y : Int} {D K : ByteArray} (h : stRun a D K = some y) {k : Nat} (hk : k + 1 < D.size) : (bt D (k + 1) ≠ bt D k) ↔ bt K k = 83 := by
  obtain ⟨h1, h2, h3, h4⟩ := st_facts h
  obtain ⟨-, q2, q3⟩ := st_at h4 (show k < D.size by omega)
  obtain ⟨r1, -, -⟩ := st_at h4 (show k + 1 < D.size from hk)
  rw [q3] at r1
  have r := Option.some.inj r1
  have d1 := (dirB_of h2).2 k (by omega)
  have d2 := (dirB_of h2).2 (k + 1) hk
  rcases d1 with e1 | e1 <;> rcases d2 with e2 | e2 <;> rcases q2 with e3 | e3 <;> rw [e1, e2, e3] at r <;> simp [endOf] at r <;> rw [e1, e2, e3] <;> simp

/-- The text of kinds that a number's bits say. -/
def kOf (j : Nat) : Nat → ByteArray
  | 0 => ⟨#[]⟩
  | n + 1 => kOf j n ++ (if j / 2 ^ n % 2 = 0 then ⟨#[83]⟩ else ⟨#[84]⟩)
theorem kOf_size (j : Nat) : ∀ n, (kOf j n).size = n
  | 0 => rfl
  | n + 1 => by
    simp only [kOf]
    rw [ByteArray.size_append, kOf_size j n]
    split <;> rfl
theorem kOf_S {j n : Nat} (h : j / 2 ^ n % 2 = 0) : kOf j (n + 1) = kOf j n ++ ⟨#[83]⟩ := by simp [kOf, h]
theorem kOf_T {j n : Nat} (h : j / 2 ^ n % 2 ≠ 0) : kOf j (n + 1) = kOf j n ++ ⟨#[84]⟩ := by simp only [kOf]; rw [if_neg h]
theorem bt_right1 {A : ByteArray} {x : UInt8} : bt (A ++ ⟨#[x]⟩) A.size = (x.toNat : Int) := by
  rw [bt_list', ByteArray.data_append, Array.toList_append, List.getElem?_append_right (by rw [← size_list]; exact Nat.le_refl _), ← size_list, Nat.sub_self]
  rfl
theorem kOf_bt (j : Nat) : ∀ n i, i < n → bt (kOf j n) i = if j / 2 ^ i % 2 = 0 then 83 else 84
  | 0, i, h => by omega
  | n + 1, i, h => by
    have hs := kOf_size j n
    by_cases e : i = n
    · subst e
      by_cases q : j / 2 ^ i % 2 = 0
      · rw [kOf_S q, if_pos q]
        have := bt_right1 (A := kOf j i) (x := 83)
        rw [hs] at this
        exact this
      · rw [kOf_T q, if_neg q]
        have := bt_right1 (A := kOf j i) (x := 84)
        rw [hs] at this
        exact this
    · simp only [kOf]
      rw [bt_left' (by omega : i < (kOf j n).size)]
      exact kOf_bt j n i (by omega)

/-- Can a number's kinds be done? -/
def okK (a : Int) (D : ByteArray) (j : Nat) : Bool := (stRun a D (kOf j D.size)).isSome
/-- How many of the first numbers' kinds can be done. -/
def cnK (a : Int) (D : ByteArray) : Nat → Int
  | 0 => 0
  | j + 1 => if okK a D j = true then cnK a D j + 1 else cnK a D j
theorem cnK_range (a : Int) (D : ByteArray) (j : Nat) : 0 ≤ cnK a D j ∧ cnK a D j ≤ j := by
  induction j with
  | zero => simp [cnK]
  | succ j ih => simp only [cnK]; split <;> omega
theorem cnK_yes {a : Int} {D : ByteArray} {j : Nat} (h : okK a D j = true) : cnK a D (j + 1) = cnK a D j + 1 := by simp [cnK, h]
theorem cnK_no {a : Int} {D : ByteArray} {j : Nat} (h : okK a D j = false) : cnK a D (j + 1) = cnK a D j := by simp [cnK, h]

/-- Done exactly if each one but the last takes the staff along exactly if the next one goes back. -/
theorem okK_iff {a : Int} {D : ByteArray} (ha : a = 0 ∨ a = 1) (hd : dirB D = true) (e : endOf (bt D 0) = a) (j : Nat) :
    okK a D j = true ↔ ∀ i, i + 1 < D.size → (j / 2 ^ i % 2 = 0 ↔ bt D (i + 1) ≠ bt D i) := by
  have hs := kOf_size j D.size
  constructor
  · intro h i hi
    obtain ⟨y, hy⟩ := Option.isSome_iff_exists.1 h
    rw [st_back hy hi, kOf_bt j D.size i (by omega)]
    split <;> simp [*]
  · intro h
    have key : ∀ k, k ≤ D.size → ∃ x, stTo a D (kOf j D.size) k = some x ∧ (k < D.size → x = endOf (bt D k)) := by
      intro k
      induction k with
      | zero => exact fun _ => ⟨a, rfl, fun _ => e.symm⟩
      | succ k ih =>
        intro hk
        obtain ⟨x, h1, h2⟩ := ih (by omega)
        have hx := h2 (by omega)
        subst hx
        rw [stTo_succ h1]
        have hK := kOf_bt j D.size k (by omega)
        obtain ⟨c, hc⟩ : ∃ c, c = bt (kOf j D.size) k := ⟨_, rfl⟩
        rw [← hc] at hK ⊢
        have hcc : c = 83 ∨ c = 84 := by rw [hK]; split <;> simp
        unfold stStep
        rw [if_pos ⟨rfl, hcc⟩]
        have d1 := (dirB_of hd).2 k (by omega)
        by_cases q : k + 1 < D.size
        · have d2 := (dirB_of hd).2 (k + 1) q
          have hh := h k q
          by_cases z : j / 2 ^ k % 2 = 0
          · rw [if_pos z] at hK
            have ne := hh.1 z
            rw [if_pos hK]
            refine ⟨_, rfl, fun _ => ?_⟩
            rcases d1 with e1 | e1 <;> rcases d2 with e2 | e2 <;> rw [e1, e2] at ne <;> rw [e1, e2] <;> first | rfl | exact absurd rfl ne
          · rw [if_neg z] at hK
            have ne : bt D (k + 1) = bt D k := Classical.byContradiction fun n => z (hh.2 n)
            rw [if_neg (by rw [hK]; decide)]
            exact ⟨_, rfl, fun _ => by rw [ne]⟩
        · by_cases z : c = 83
          · rw [if_pos z]; exact ⟨_, rfl, fun n => absurd n q⟩
          · rw [if_neg z]; exact ⟨_, rfl, fun n => absurd n q⟩
    obtain ⟨x, hx, -⟩ := key D.size (Nat.le_refl _)
    unfold okK
    rw [stRun_is ha hd hs, hx]
    rfl

/-- The bits that the directions ask. -/
def cD (D : ByteArray) (i : Nat) : Nat := if bt D (i + 1) ≠ bt D i then 0 else 1
def rD (D : ByteArray) : Nat → Nat
  | 0 => 0
  | m + 1 => if cD D m = 0 then rD D m else rD D m + 2 ^ m
theorem rD_lt (D : ByteArray) (m : Nat) : rD D m < 2 ^ m := by
  induction m with
  | zero => simp [rD]
  | succ m ih => simp only [rD]; rw [Nat.pow_succ]; split <;> omega
theorem cD_two (D : ByteArray) (i : Nat) : cD D i = 0 ∨ cD D i = 1 := by unfold cD; split <;> simp
theorem bits_iff (D : ByteArray) (j : Nat) : ∀ m, (∀ i, i < m → j / 2 ^ i % 2 = cD D i) ↔ j % 2 ^ m = rD D m
  | 0 => by
    refine ⟨fun _ => ?_, fun _ i hi => by omega⟩
    simp [rD, Nat.mod_one]
  | m + 1 => by
    have ih := bits_iff D j m
    have l1 := rD_lt D m
    have l2 := Nat.mod_lt j (Nat.two_pow_pos m)
    have e : j % 2 ^ (m + 1) = j % 2 ^ m + 2 ^ m * (j / 2 ^ m % 2) := Nat.mod_pow_succ
    have b2 : j / 2 ^ m % 2 = 0 ∨ j / 2 ^ m % 2 = 1 := by omega
    have c2 := cD_two D m
    constructor
    · intro h
      have i1 := ih.1 fun i hi => h i (by omega)
      have i2 := h m (by omega)
      rw [e, i1, i2]
      simp only [rD]
      rcases c2 with q | q <;> rw [q] <;> simp
    · intro h
      rw [e] at h
      simp only [rD] at h
      have both : j % 2 ^ m = rD D m ∧ j / 2 ^ m % 2 = cD D m := by
        rcases b2 with q | q <;> rcases c2 with r | r <;> rw [q, r] at h <;> simp at h <;> rw [q, r] <;> refine ⟨by omega, by omega⟩
      intro i hi
      by_cases z : i = m
      · rw [z]; exact both.2
      · exact ih.2 both.1 i (by omega)

theorem cnK_two {a : Int} {D : ByteArray} {r M : Nat} (hr : r < M) (h : ∀ j, j < 2 * M → (okK a D j = true ↔ j = r ∨ j = r + M)) : ∀ N, N ≤ 2 * M → cnK a D N = (if r < N then 1 else 0) + (if r + M < N then 1 else 0)
  | 0, _ => by simp [cnK]
  | N + 1, hN => by
    have ih := cnK_two hr h N (by omega)
    have k := h N (by omega)
    cases e : okK a D N
    · rw [cnK_no e, ih]
      have nk : ¬ (N = r ∨ N = r + M) := fun q => by rw [k.2 q] at e; cases e
      have n1 : (r < N + 1) = (r < N) := propext ⟨fun _ => by omega, fun _ => by omega⟩
      have n2 : (r + M < N + 1) = (r + M < N) := propext ⟨fun _ => by omega, fun _ => by omega⟩
      simp only [n1, n2]
    · rw [cnK_yes e, ih]
      rcases k.1 e with q | q
      · rw [if_neg (by omega), if_neg (by omega), if_pos (by omega), if_neg (by omega)]; rfl
      · rw [if_pos (by omega), if_neg (by omega), if_pos (by omega), if_pos (by omega)]; rfl
theorem cnK_none {a : Int} {D : ByteArray} (h : ∀ j, okK a D j = false) : ∀ N, cnK a D N = 0
  | 0 => rfl
  | N + 1 => by rw [cnK_no (h N), cnK_none h N]

/-- All kinds, counted. -/
theorem cnK_all {a : Int} {D : ByteArray} (h : 0 ≤ smV a D) : cnK a D (2 ^ D.size) = smV a D := by
  have hv : (a = 0 ∨ a = 1) ∧ dirB D = true := Classical.byContradiction fun n => by rw [sm_bad n] at h; omega
  obtain ⟨ha, hd⟩ := hv
  rw [sm_is ⟨ha, hd⟩]
  have hk : skOk a D = decide (D.size = 0 ∨ endOf (bt D 0) = a) := stRun_kd ha hd
  rw [hk]
  rcases Nat.eq_zero_or_pos D.size with z | z
  · rw [decide_eq_true (.inl z), if_pos rfl, if_pos z, z]
    have ok : okK a D 0 = true := by
      unfold okK
      rw [stRun_is ha hd (kOf_size 0 D.size), z]
      rfl
    show cnK a D 1 = 1
    rw [cnK_yes ok]
    rfl
  · by_cases e : endOf (bt D 0) = a
    · rw [decide_eq_true (.inr e), if_pos rfl, if_neg (by omega)]
      obtain ⟨m, hm⟩ : ∃ m, D.size = m + 1 := ⟨D.size - 1, by omega⟩
      rw [hm, Nat.pow_succ, Nat.mul_comm]
      have l1 := rD_lt D m
      have two := cnK_two (a := a) (D := D) l1 (fun j hj => by
        rw [okK_iff ha hd e j]
        have q : (∀ i, i + 1 < D.size → (j / 2 ^ i % 2 = 0 ↔ bt D (i + 1) ≠ bt D i)) ↔ ∀ i, i < m → j / 2 ^ i % 2 = cD D i := by
          constructor
          · intro f i hi
            have := f i (by omega)
            unfold cD
            by_cases z : j / 2 ^ i % 2 = 0
            · rw [if_pos (this.1 z)]; exact z
            · rw [if_neg (fun n => z (this.2 n))]; omega
          · intro f i hi
            have := f i (by omega)
            unfold cD at this
            by_cases z : bt D (i + 1) ≠ bt D i
            · rw [if_pos z] at this; exact ⟨fun _ => z, fun _ => this⟩
            · rw [if_neg z] at this; exact ⟨fun q => by omega, fun q => absurd q z⟩
        rw [q, bits_iff]
        have pm : 0 < 2 ^ m := Nat.two_pow_pos m
        obtain ⟨M, hM⟩ : ∃ M, M = 2 ^ m := ⟨_, rfl⟩
        rw [← hM] at hj pm l1 ⊢
        rcases Nat.lt_or_ge j M with lt | ge
        · rw [Nat.mod_eq_of_lt lt]; omega
        · rw [Nat.mod_eq_sub_mod ge, Nat.mod_eq_of_lt (by omega)]; omega) (2 * 2 ^ m) (Nat.le_refl _)
      rw [two, if_pos (by omega), if_pos (by omega)]
      rfl
    · rw [decide_eq_false (fun q => q.elim (by omega) e), if_neg (by simp)]
      refine cnK_none (fun j => ?_) _
      cases c : okK a D j
      · rfl
      · obtain ⟨y, hy⟩ := Option.isSome_iff_exists.1 c
        have q := (st_at (st_facts hy).2.2.2 z).1
        exact absurd (Option.some.inj q).symm e
theorem sm_le (a : Int) (D : ByteArray) : -1 ≤ smV a D ∧ smV a D ≤ 2 := by
  unfold smV
  split
  · split
    · split <;> omega
    · omega
  · omega
end Go.Proofs.YthjodagbgmpbhaaDoor
