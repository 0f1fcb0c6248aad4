/-
  Tokens and their events, directions and staffs, plainly. No walk.
-/
import Derived.Test.YtilkphehonilbaaDoorBlockP
namespace Go.Proofs.YtilkphehonilbaaDoor

/-- Tokens at A, at B, and which one is out. -/
abbrev Tk := Int × Int × Int
def nt : Tk := (0, 0, 0)
def tkOk (t : Tk) : Bool := decide ((0 ≤ t.1 ∧ t.1 ≤ 12) ∧ (0 ≤ t.2.1 ∧ t.2.1 ≤ 12) ∧ (0 ≤ t.2.2 ∧ t.2.2 ≤ 2) ∧ t.1 + t.2.1 + min 1 t.2.2 ≤ 12)
theorem tkOk_of {t : Tk} (h : tkOk t = true) : (0 ≤ t.1 ∧ t.1 ≤ 12) ∧ (0 ≤ t.2.1 ∧ t.2.1 ≤ 12) ∧ (0 ≤ t.2.2 ∧ t.2.2 ≤ 2) ∧ t.1 + t.2.1 + min 1 t.2.2 ≤ 12 := of_decide_eq_true h
theorem tkOk_three {t : Tk} (h : tkOk t = true) : t.2.2 = 0 ∨ t.2.2 = 1 ∨ t.2.2 = 2 := by have := tkOk_of h; omega

/-- The state behind an event. -/
def tkStep (t : Tk) (c : Int) : Option Tk :=
  if c = 97 ∧ t.2.2 = 0 ∧ 0 < t.1 then some (t.1 - 1, t.2.1, 1)
  else if c = 98 ∧ t.2.2 = 0 ∧ 0 < t.2.1 then some (t.1, t.2.1 - 1, 2)
  else if (c = 112 ∧ t.2.2 = 1) ∨ (c = 113 ∧ t.2.2 = 2) then some (t.1, t.2.1 + 1, 0)
  else if (c = 112 ∧ t.2.2 = 2) ∨ (c = 113 ∧ t.2.2 = 1) then some (t.1 + 1, t.2.1, 0)
  else none
theorem tkStep_cases {t t' : Tk} {c : Int} (h : tkStep t c = some t') :
    (c = 97 ∧ t.2.2 = 0 ∧ 0 < t.1 ∧ t' = (t.1 - 1, t.2.1, 1)) ∨ (c = 98 ∧ t.2.2 = 0 ∧ 0 < t.2.1 ∧ t' = (t.1, t.2.1 - 1, 2)) ∨
    (((c = 112 ∧ t.2.2 = 1) ∨ (c = 113 ∧ t.2.2 = 2)) ∧ t' = (t.1, t.2.1 + 1, 0)) ∨ (((c = 112 ∧ t.2.2 = 2) ∨ (c = 113 ∧ t.2.2 = 1)) ∧ t' = (t.1 + 1, t.2.1, 0)) := by
  unfold tkStep at h
  split at h
  · rename_i q; cases h; exact .inl ⟨q.1, q.2.1, q.2.2, rfl⟩
  · split at h
    · rename_i q; cases h; exact .inr (.inl ⟨q.1, q.2.1, q.2.2, rfl⟩)
    · split at h
      · rename_i q; cases h; exact .inr (.inr (.inl ⟨q, rfl⟩))
      · split at h
        · rename_i q; cases h; exact .inr (.inr (.inr ⟨q, rfl⟩))
        · cases h
theorem tkStep_ok {t t' : Tk} {c : Int} (ht : tkOk t = true) (h : tkStep t c = some t') : tkOk t' = true := by
  have q := tkOk_of ht
  apply decide_eq_true
  rcases tkStep_cases h with ⟨_, _, _, rfl⟩ | ⟨_, _, _, rfl⟩ | ⟨_, rfl⟩ | ⟨_, rfl⟩ <;> simp only <;> omega
theorem tkStep_other {t : Tk} {c : Int} (h : c ≠ 97 ∧ c ≠ 98 ∧ c ≠ 112 ∧ c ≠ 113) : tkStep t c = none := by
  obtain ⟨h1, h2, h3, h4⟩ := h
  simp [tkStep, *]

/-- The state behind the first k events. -/
def tkTo (t : Tk) (S : ByteArray) : Nat → Option Tk
  | 0 => some t
  | k + 1 => (tkTo t S k).bind fun x => tkStep x (bt S k)
theorem tkTo_succ {t x : Tk} {S : ByteArray} {k : Nat} (h : tkTo t S k = some x) : tkTo t S (k + 1) = tkStep x (bt S k) := by simp [tkTo, h]
theorem tkTo_ok {t x : Tk} {S : ByteArray} {k : Nat} (ht : tkOk t = true) (h : tkTo t S k = some x) : tkOk x = true := by
  induction k generalizing x with
  | zero => simp only [tkTo, Option.some.injEq] at h; rw [← h]; exact ht
  | succ k ih =>
    simp only [tkTo] at h
    cases e : tkTo t S k with
    | none => simp [e] at h
    | some y => simp only [e, Option.bind_some] at h; exact tkStep_ok (ih e) h
theorem tkTo_none {t : Tk} {S : ByteArray} {k n : Nat} (h : tkTo t S k = none) (hn : k ≤ n) : tkTo t S n = none := by
  induction n with
  | zero => have : k = 0 := by omega
            subst this; exact h
  | succ n ih =>
    by_cases e : k = n + 1
    · rw [← e]; exact h
    · simp [tkTo, ih (by omega)]
def tkRun (t : Tk) (S : ByteArray) : Option Tk := if tkOk t = true ∧ S.size ≤ 30 then tkTo t S S.size else none
theorem tkRun_not {t : Tk} {S : ByteArray} (h : tkOk t = false) : tkRun t S = none := by simp [tkRun, h]
theorem tkRun_long {t : Tk} {S : ByteArray} (h : 30 < (S.size : Int)) : tkRun t S = none := by
  unfold tkRun
  rw [if_neg (fun q => by omega)]
theorem tkRun_is {t : Tk} {S : ByteArray} (h : tkOk t = true) (hl : (S.size : Int) ≤ 30) : tkRun t S = tkTo t S S.size := by
  unfold tkRun
  rw [if_pos ⟨h, by omega⟩]
theorem tkRun_none {t : Tk} {S : ByteArray} {k : Nat} (hk : k ≤ S.size) (h : tkTo t S k = none) : tkRun t S = none := by
  unfold tkRun
  split
  · exact tkTo_none h hk
  · rfl
/-- With one letter. -/
def tkOne (t : Tk) (S : ByteArray) : Option Tk := if S.size = 1 then tkRun t S else none
theorem tkOne_no {t : Tk} {S : ByteArray} (h : S.size ≠ 1) : tkOne t S = none := by unfold tkOne; rw [if_neg h]
theorem tkOne_yes {t : Tk} {S : ByteArray} (h : S.size = 1) : tkOne t S = tkRun t S := by unfold tkOne; rw [if_pos h]
theorem tkOne_is {t : Tk} {S : ByteArray} (ht : tkOk t = true) (h : S.size = 1) : tkOne t S = tkStep t (bt S 0) := by
  rw [tkOne_yes h, tkRun_is ht (by omega), h]; rfl
theorem tkOne_not {t : Tk} {S : ByteArray} (ht : tkOk t = false) : tkOne t S = none := by
  unfold tkOne; split
  · exact tkRun_not ht
  · rfl

/-- As values. -/
def tkV (t : Tk) : Value := .agg #[.int .i64 t.1, .int .i64 t.2.1, .int .i64 t.2.2]
def tkR (o : Option Tk) : Value := .tuple #[tkV (o.getD nt), .bool o.isSome]

/-! ### Directions -/

/-- Has a text only two letters? -/
def onlyB (x y : Int) (S : ByteArray) : Bool := decide (∀ j, j < S.size → bt S j = x ∨ bt S j = y)
theorem onlyB_of {x y : Int} {S : ByteArray} (h : onlyB x y S = true) : ∀ j, j < S.size → bt S j = x ∨ bt S j = y := of_decide_eq_true h
theorem onlyB_no {x y : Int} {S : ByteArray} {k : Nat} (hk : k < S.size) (h : ¬ (bt S k = x ∨ bt S k = y)) : onlyB x y S = false := decide_eq_false fun q => h (q k hk)
theorem onlyB_yes {x y : Int} {S : ByteArray} (h : ∀ j, j < S.size → bt S j = x ∨ bt S j = y) : onlyB x y S = true := decide_eq_true h
def dirB (S : ByteArray) : Bool := decide (S.size ≤ 30) && onlyB 85 68 S
theorem dirB_of {S : ByteArray} (h : dirB S = true) : S.size ≤ 30 ∧ ∀ j, j < S.size → bt S j = 85 ∨ bt S j = 68 := by
  unfold dirB at h
  simp only [Bool.and_eq_true, decide_eq_true_eq] at h
  exact ⟨h.1, onlyB_of h.2⟩

/-- How many more trains have gone to B than to A. -/
def bal (S : ByteArray) : Nat → Int
  | 0 => 0
  | k + 1 => bal S k + (if bt S k = 85 then 1 else -1)
def needA (S : ByteArray) : Nat → Int
  | 0 => 0
  | k + 1 => max (needA S k) (bal S (k + 1))
def needB (S : ByteArray) : Nat → Int
  | 0 => 0
  | k + 1 => max (needB S k) (- bal S (k + 1))
theorem bal_range (S : ByteArray) (k : Nat) : -(k : Int) ≤ bal S k ∧ bal S k ≤ (k : Int) := by
  induction k with
  | zero => simp [bal]
  | succ k ih => simp only [bal]; split <;> omega
theorem needA_range (S : ByteArray) (k : Nat) : 0 ≤ needA S k ∧ needA S k ≤ (k : Int) := by
  induction k with
  | zero => simp [needA]
  | succ k ih => have := bal_range S (k + 1); simp only [needA]; omega
theorem needB_range (S : ByteArray) (k : Nat) : 0 ≤ needB S k ∧ needB S k ≤ (k : Int) := by
  induction k with
  | zero => simp [needB]
  | succ k ih => have := bal_range S (k + 1); simp only [needB]; omega

/-- How often the direction changes. -/
def chTo (S : ByteArray) : Nat → Int
  | 0 => 0
  | k + 1 => chTo S k + (if 0 < k ∧ bt S k ≠ bt S (k - 1) then 1 else 0)
def chN (S : ByteArray) : Int := if dirB S then chTo S S.size else -1
theorem chTo_range (S : ByteArray) (k : Nat) : 0 ≤ chTo S k ∧ chTo S k ≤ (k : Int) := by
  induction k with
  | zero => simp [chTo]
  | succ k ih => simp only [chTo]; split <;> omega

/-! ### The staff -/

/-- The end from which a train goes. -/
def endOf (c : Int) : Int := if c = 85 then 0 else 1
theorem endOf_U : endOf 85 = 0 := rfl
theorem endOf_no {c : Int} (h : c ≠ 85) : endOf c = 1 := by simp [endOf, h]
theorem endOf_two (c : Int) : endOf c = 0 ∨ endOf c = 1 := by unfold endOf; split <;> simp
/-- Where the staff is behind the first k trains. -/
def stStep (a d c : Int) : Option Int := if endOf d = a ∧ (c = 83 ∨ c = 84) then (if c = 83 then some (1 - a) else some a) else none
def stTo (a : Int) (D K : ByteArray) : Nat → Option Int
  | 0 => some a
  | k + 1 => (stTo a D K k).bind fun x => stStep x (bt D k) (bt K k)
theorem stTo_succ {a x : Int} {D K : ByteArray} {k : Nat} (h : stTo a D K k = some x) : stTo a D K (k + 1) = stStep x (bt D k) (bt K k) := by simp [stTo, h]
theorem stStep_two {a d c x : Int} (ha : a = 0 ∨ a = 1) (h : stStep a d c = some x) : x = 0 ∨ x = 1 := by
  unfold stStep at h
  split at h
  · split at h
    · cases h; omega
    · cases h; exact ha
  · cases h
theorem stTo_none {a : Int} {D K : ByteArray} {k n : Nat} (h : stTo a D K k = none) (hn : k ≤ n) : stTo a D K n = none := by
  induction n with
  | zero => have : k = 0 := by omega
            subst this; exact h
  | succ n ih =>
    by_cases e : k = n + 1
    · rw [← e]; exact h
    · simp [stTo, ih (by omega)]
theorem stTo_bad {a : Int} {D K : ByteArray} {j n : Nat} (hj : j < n) (h : ¬ (bt K j = 83 ∨ bt K j = 84)) : stTo a D K n = none := by
  refine stTo_none (k := j + 1) ?_ hj
  cases e : stTo a D K j with
  | none => simp [stTo, e]
  | some x => rw [stTo_succ e]; unfold stStep; rw [if_neg (fun q => h q.2)]
def stRun (a : Int) (D K : ByteArray) : Option Int := if (a = 0 ∨ a = 1) ∧ dirB D = true ∧ K.size = D.size then stTo a D K D.size else none
theorem stRun_is {a : Int} {D K : ByteArray} (ha : a = 0 ∨ a = 1) (hd : dirB D = true) (hk : K.size = D.size) : stRun a D K = stTo a D K D.size := by
  unfold stRun; rw [if_pos ⟨ha, hd, hk⟩]
theorem stRun_no {a : Int} {D K : ByteArray} (h : ¬ ((a = 0 ∨ a = 1) ∧ dirB D = true ∧ K.size = D.size)) : stRun a D K = none := by
  unfold stRun; rw [if_neg h]
theorem stRun_none {a : Int} {D K : ByteArray} {k : Nat} (hk : k ≤ D.size) (h : stTo a D K k = none) : stRun a D K = none := by
  unfold stRun; split
  · exact stTo_none h hk
  · rfl
/-- The kinds with as few S as possible. -/
def kdB (D : ByteArray) (k : Nat) : UInt8 := if k + 1 < D.size ∧ bt D (k + 1) ≠ bt D k then 83 else 84
def kdTo (D : ByteArray) (k : Nat) : List UInt8 := (List.range k).map (kdB D)
def kdS (D : ByteArray) : ByteArray := ⟨(kdTo D D.size).toArray⟩
theorem kdTo_succ (D : ByteArray) (k : Nat) : kdTo D (k + 1) = kdTo D k ++ [kdB D k] := by simp [kdTo, List.range_succ]
theorem kdTo_length (D : ByteArray) (k : Nat) : (kdTo D k).length = k := by simp [kdTo]
theorem kdS_size (D : ByteArray) : (kdS D).size = D.size := by
  show (kdTo D D.size).toArray.size = D.size
  rw [List.size_toArray, kdTo_length]
theorem bt_list (l : List UInt8) (k : Nat) : bt ⟨l.toArray⟩ k = ((l[k]?.getD 0).toNat : Int) := by
  unfold bt
  by_cases hk : k < l.length
  · have hs : k < (ByteArray.mk l.toArray).size := by show k < l.toArray.size; rw [List.size_toArray]; exact hk
    rw [getElem?_pos _ k hs]
    simp [hk]
    rfl
  · have hs : ¬ k < (ByteArray.mk l.toArray).size := by show ¬ k < l.toArray.size; rw [List.size_toArray]; exact hk
    rw [getElem?_neg _ k hs]
    simp [hk]
theorem bt_kdS {D : ByteArray} {k : Nat} (h : k < D.size) : bt (kdS D) k = if k + 1 < D.size ∧ bt D (k + 1) ≠ bt D k then 83 else 84 := by
  unfold kdS
  rw [bt_list]
  simp only [kdTo, List.getElem?_map, List.getElem?_range h, Option.map_some, Option.getD_some, kdB]
  split <;> rfl
/-- With these kinds the staff is where the next train goes. -/
theorem stTo_kd {a : Int} {D : ByteArray} (hd : ∀ j, j < D.size → bt D j = 85 ∨ bt D j = 68) (ha : endOf (bt D 0) = a) (k : Nat) (hk : k < D.size) : stTo a D (kdS D) k = some (endOf (bt D k)) := by
  induction k with
  | zero => simp [stTo, ha]
  | succ k ih =>
    rw [stTo_succ (ih (by omega))]
    have e := bt_kdS (D := D) (k := k) (by omega)
    rcases hd k (by omega) with h1 | h1 <;> rcases hd (k + 1) hk with h2 | h2 <;> simp [stStep, e, h1, h2, hk, endOf]
theorem stTo_all {a : Int} {D : ByteArray} (hd : ∀ j, j < D.size → bt D j = 85 ∨ bt D j = 68) (ha : endOf (bt D 0) = a) (h0 : 0 < D.size) : stTo a D (kdS D) D.size = some (endOf (bt D (D.size - 1))) := by
  obtain ⟨n, hn⟩ : ∃ n, D.size = n + 1 := ⟨D.size - 1, by omega⟩
  have e := bt_kdS (D := D) (k := n) (by omega)
  rw [if_neg (by omega)] at e
  have q := stTo_succ (stTo_kd hd ha n (by omega))
  rw [e] at q
  rw [hn, q]
  unfold stStep
  rw [if_pos ⟨rfl, by omega⟩, if_neg (by omega)]
  rfl
/-- They are there exactly if the first train goes from that end. -/
theorem stRun_kd {a : Int} {D : ByteArray} (ha : a = 0 ∨ a = 1) (hd : dirB D = true) : (stRun a D (kdS D)).isSome = decide (D.size = 0 ∨ endOf (bt D 0) = a) := by
  rw [stRun_is ha hd (kdS_size D)]
  rcases Nat.eq_zero_or_pos D.size with h | h
  · rw [h]; simp [stTo]
  · by_cases e : endOf (bt D 0) = a
    · rw [stTo_all (dirB_of hd).2 e h]; simp [e]
    · have q : stTo a D (kdS D) 1 = none := by rw [stTo_succ (x := a) rfl]; unfold stStep; rw [if_neg (fun q => e q.1)]
      rw [stTo_none q h]
      simp [e]
      intro h0; rw [h0] at h; exact absurd h (by decide)
end Go.Proofs.YtilkphehonilbaaDoor
