/-
  Single lines and orders of their trains, plainly. No walk.
-/
import Derived.Test.YtlcmkocbpnekhaaGreatDoorTokP
namespace Go.Proofs.YtlcmkocbpnekhaaGreatDoor

/-- A single line: the ready times at both ends, the run, the head. -/
structure Sg where
  A : List Int
  B : List Int
  run : Int
  head : Int

def prevT (xs : List Int) (i : Nat) : Int := if i = 0 then 0 else xs.getD (i - 1) 0
theorem prevT_zero (xs : List Int) : prevT xs 0 = 0 := rfl
theorem prevT_succ (xs : List Int) (i : Nat) : prevT xs (i + 1) = xs.getD i 0 := by simp [prevT]
def RiseT (xs : List Int) (k : Nat) : Prop := ∀ i, i < k → prevT xs i ≤ xs.getD i 0 ∧ xs.getD i 0 ≤ 2000
def qB (xs : List Int) : Bool := decide (xs.length ≤ 6 ∧ ∀ i, i < xs.length → prevT xs i ≤ xs.getD i 0 ∧ xs.getD i 0 ≤ 2000)
theorem qB_of {xs : List Int} (h : qB xs = true) : xs.length ≤ 6 ∧ RiseT xs xs.length := by
  have q : xs.length ≤ 6 ∧ ∀ i, i < xs.length → prevT xs i ≤ xs.getD i 0 ∧ xs.getD i 0 ≤ 2000 := of_decide_eq_true h
  exact q
theorem qB_yes {xs : List Int} (h : xs.length ≤ 6) (hr : RiseT xs xs.length) : qB xs = true := by
  have q : xs.length ≤ 6 ∧ ∀ i, i < xs.length → prevT xs i ≤ xs.getD i 0 ∧ xs.getD i 0 ≤ 2000 := ⟨h, hr⟩
  exact decide_eq_true q
theorem qB_long {xs : List Int} (h : 6 < (xs.length : Int)) : qB xs = false := decide_eq_false fun q => by have := q.1; omega
theorem qB_no {xs : List Int} {i : Nat} (hi : i < xs.length) (h : ¬ (prevT xs i ≤ xs.getD i 0 ∧ xs.getD i 0 ≤ 2000)) : qB xs = false := decide_eq_false fun q => h (q.2 i hi)
theorem RiseT.succ {xs : List Int} {k : Nat} (h : RiseT xs k) (e : prevT xs k ≤ xs.getD k 0 ∧ xs.getD k 0 ≤ 2000) : RiseT xs (k + 1) := by
  intro i hi
  by_cases q : i = k
  · subst q; exact e
  · exact h i (by omega)
theorem RiseT.nonneg {xs : List Int} {k : Nat} (h : RiseT xs k) : ∀ i, i < k → 0 ≤ xs.getD i 0 := by
  intro i
  induction i with
  | zero => intro hi; have := h 0 hi; rw [prevT_zero] at this; omega
  | succ i ih => intro hi; have := h (i + 1) hi; rw [prevT_succ] at this; have := ih (by omega); omega
theorem RiseT.mono {xs : List Int} {k j : Nat} (h : RiseT xs k) (hj : j ≤ k) : RiseT xs j := fun i hi => h i (by omega)
/-- What is rising at neighbours rises. -/
theorem RiseT.le {xs : List Int} {k : Nat} (h : RiseT xs k) {i j : Nat} (hij : i ≤ j) (hj : j < k) : xs.getD i 0 ≤ xs.getD j 0 := by
  induction j with
  | zero => have : i = 0 := by omega
            subst this; exact Int.le_refl _
  | succ j ih =>
    by_cases e : i = j + 1
    · subst e; exact Int.le_refl _
    · have h1 := ih (by omega) (by omega)
      have h2 := (h (j + 1) hj).1
      rw [prevT_succ] at h2
      omega
theorem qB_val {xs : List Int} (h : qB xs = true) {i : Nat} (hi : i < xs.length) : 0 ≤ xs.getD i 0 ∧ xs.getD i 0 ≤ 2000 := ⟨(qB_of h).2.nonneg i hi, ((qB_of h).2 i hi).2⟩

def sgB (s : Sg) : Bool := qB s.A && qB s.B && decide (1 ≤ s.run ∧ s.run ≤ 100) && decide (1 ≤ s.head ∧ s.head ≤ s.run)
structure SgOk (s : Sg) : Prop where
  a : qB s.A = true
  b : qB s.B = true
  run1 : 1 ≤ s.run
  run2 : s.run ≤ 100
  head1 : 1 ≤ s.head
  head2 : s.head ≤ s.run
theorem sgB_of {s : Sg} (h : sgB s = true) : SgOk s := by
  unfold sgB at h
  simp only [Bool.and_eq_true, decide_eq_true_eq] at h
  obtain ⟨⟨⟨h1, h2⟩, h3, h4⟩, h5, h6⟩ := h
  exact ⟨h1, h2, h3, h4, h5, h6⟩
theorem sgB_yes {s : Sg} (h : SgOk s) : sgB s = true := by
  obtain ⟨h1, h2, h3, h4, h5, h6⟩ := h
  simp [sgB, *]
theorem SgOk.lenA {s : Sg} (h : SgOk s) : s.A.length ≤ 6 := (qB_of h.a).1
theorem SgOk.lenB {s : Sg} (h : SgOk s) : s.B.length ≤ 6 := (qB_of h.b).1

/-! ### Orders -/

/-- How many of the first k trains come from A. -/
def upTo (S : ByteArray) : Nat → Nat
  | 0 => 0
  | k + 1 => upTo S k + (if bt S k = 85 then 1 else 0)
theorem upTo_le (S : ByteArray) (k : Nat) : upTo S k ≤ k := by
  induction k with
  | zero => exact Nat.le_refl _
  | succ k ih => simp only [upTo]; split <;> omega
theorem upTo_mono (S : ByteArray) {j k : Nat} (h : j ≤ k) : upTo S j ≤ upTo S k := by
  induction k with
  | zero => have : j = 0 := by omega
            subst this; exact Nat.le_refl _
  | succ k ih =>
    by_cases e : j = k + 1
    · subst e; exact Nat.le_refl _
    · have := ih (by omega); simp only [upTo]; omega
theorem downTo_mono (S : ByteArray) {j k : Nat} (h : j ≤ k) : j - upTo S j ≤ k - upTo S k := by
  induction k with
  | zero => have : j = 0 := by omega
            subst this; exact Nat.le_refl _
  | succ k ih =>
    by_cases e : j = k + 1
    · subst e; exact Nat.le_refl _
    · have := ih (by omega)
      have h1 := upTo_le S k
      have h2 := upTo_le S j
      simp only [upTo]; split <;> omega
theorem upTo_U {S : ByteArray} {k : Nat} (h : bt S k = 85) : upTo S (k + 1) = upTo S k + 1 := by simp [upTo, h]
theorem upTo_D {S : ByteArray} {k : Nat} (h : bt S k ≠ 85) : upTo S (k + 1) = upTo S k := by simp [upTo, h]

/-- Is a text an order of so many trains? -/
def ordB (u d : Nat) (S : ByteArray) : Bool := onlyB 85 68 S && decide (upTo S S.size = u ∧ S.size = u + d)
structure OrdOk (u d : Nat) (S : ByteArray) : Prop where
  only : ∀ j, j < S.size → bt S j = 85 ∨ bt S j = 68
  ups : upTo S S.size = u
  size : S.size = u + d
theorem ordB_of {u d : Nat} {S : ByteArray} (h : ordB u d S = true) : OrdOk u d S := by
  unfold ordB at h
  simp only [Bool.and_eq_true, decide_eq_true_eq] at h
  exact ⟨onlyB_of h.1, h.2.1, h.2.2⟩
theorem ordB_yes {u d : Nat} {S : ByteArray} (h : OrdOk u d S) : ordB u d S = true := by
  unfold ordB
  rw [onlyB_yes h.only, decide_eq_true ⟨h.ups, h.size⟩]; rfl
theorem OrdOk.upAt {u d : Nat} {S : ByteArray} (h : OrdOk u d S) {k : Nat} (hk : k < S.size) (e : bt S k = 85) : upTo S k < u := by
  have h1 := upTo_mono S (j := k + 1) (k := S.size) (by omega)
  rw [upTo_U e, h.ups] at h1
  omega
theorem OrdOk.downAt {u d : Nat} {S : ByteArray} (h : OrdOk u d S) {k : Nat} (hk : k < S.size) (e : bt S k ≠ 85) : k - upTo S k < d := by
  have h1 := downTo_mono S (j := k + 1) (k := S.size) (by omega)
  have h2 := upTo_le S k
  rw [upTo_D e, h.ups, h.size] at h1
  omega
def sgO (s : Sg) (S : ByteArray) : Bool := sgB s && ordB s.A.length s.B.length S
theorem sgO_of {s : Sg} {S : ByteArray} (h : sgO s S = true) : SgOk s ∧ OrdOk s.A.length s.B.length S := by
  unfold sgO at h
  simp only [Bool.and_eq_true] at h
  exact ⟨sgB_of h.1, ordB_of h.2⟩
theorem sgO_bad {s : Sg} {S : ByteArray} (h : sgB s = false) : sgO s S = false := by simp [sgO, h]
theorem sgO_not {s : Sg} {S : ByteArray} (h : ordB s.A.length s.B.length S = false) : sgO s S = false := by simp [sgO, h]
theorem sgO_yes {s : Sg} {S : ByteArray} (h : sgB s = true) (h2 : ordB s.A.length s.B.length S = true) : sgO s S = true := by simp [sgO, h, h2]
theorem sgO_size {s : Sg} {S : ByteArray} (h : sgO s S = true) : S.size ≤ 12 := by
  obtain ⟨h1, h2⟩ := sgO_of h
  have := h1.lenA
  have := h1.lenB
  have := h2.size
  omega

/-- When the train at a place of an order is ready. -/
def rdy (s : Sg) (S : ByteArray) (k : Nat) : Int := if bt S k = 85 then s.A.getD (upTo S k) 0 else s.B.getD (k - upTo S k) 0
theorem rdy_U {s : Sg} {S : ByteArray} {k : Nat} (h : bt S k = 85) : rdy s S k = s.A.getD (upTo S k) 0 := by simp [rdy, h]
theorem rdy_D {s : Sg} {S : ByteArray} {k : Nat} (h : bt S k ≠ 85) : rdy s S k = s.B.getD (k - upTo S k) 0 := by simp [rdy, h]
/-- How long after the one ahead. -/
def gap (s : Sg) (S : ByteArray) (k : Nat) : Int := if bt S k = bt S (k - 1) then s.head else s.run
/-- The start of the train at a place. -/
def stA (s : Sg) (S : ByteArray) : Nat → Int
  | 0 => rdy s S 0
  | k + 1 => max (rdy s S (k + 1)) (stA s S k + gap s S (k + 1))
def rdL (s : Sg) (S : ByteArray) (k : Nat) : List Int := (List.range k).map (rdy s S)
def stL (s : Sg) (S : ByteArray) (k : Nat) : List Int := (List.range k).map (stA s S)
theorem rdL_len (s : Sg) (S : ByteArray) (k : Nat) : (rdL s S k).length = k := by simp [rdL]
theorem stL_len (s : Sg) (S : ByteArray) (k : Nat) : (stL s S k).length = k := by simp [stL]
theorem rdL_succ (s : Sg) (S : ByteArray) (k : Nat) : rdL s S (k + 1) = rdL s S k ++ [rdy s S k] := by simp [rdL, List.range_succ]
theorem stL_succ (s : Sg) (S : ByteArray) (k : Nat) : stL s S (k + 1) = stL s S k ++ [stA s S k] := by simp [stL, List.range_succ]
theorem rdL_at {s : Sg} {S : ByteArray} {n k : Nat} (h : k < n) : (rdL s S n).getD k 0 = rdy s S k := by simp [rdL, h]
theorem stL_at {s : Sg} {S : ByteArray} {n k : Nat} (h : k < n) : (stL s S n).getD k 0 = stA s S k := by simp [stL, h]
theorem rdy_range {s : Sg} {S : ByteArray} (h : sgO s S = true) {k : Nat} (hk : k < S.size) : 0 ≤ rdy s S k ∧ rdy s S k ≤ 2000 := by
  obtain ⟨h1, h2⟩ := sgO_of h
  unfold rdy
  split
  · rename_i e; exact qB_val h1.a (h2.upAt hk e)
  · rename_i e; exact qB_val h1.b (h2.downAt hk e)
theorem gap_range {s : Sg} (h : SgOk s) (S : ByteArray) (k : Nat) : 1 ≤ gap s S k ∧ gap s S k ≤ 100 := by
  have := h.run1; have := h.run2; have := h.head1; have := h.head2
  unfold gap; split <;> omega
theorem stA_range {s : Sg} {S : ByteArray} (h : sgO s S = true) {k : Nat} (hk : k < S.size) : rdy s S k ≤ stA s S k ∧ stA s S k ≤ 2000 + 100 * (k : Int) := by
  induction k with
  | zero => have := rdy_range h hk; simp only [stA]; omega
  | succ k ih =>
    have h1 := ih (by omega)
    have h2 := rdy_range h hk
    have h3 := gap_range (sgO_of h).1 S (k + 1)
    simp only [stA]
    omega
theorem stA_nonneg {s : Sg} {S : ByteArray} (h : sgO s S = true) {k : Nat} (hk : k < S.size) : 0 ≤ stA s S k ∧ stA s S k ≤ 3200 := by
  have h1 := stA_range h hk
  have h2 := rdy_range h hk
  have h3 := sgO_size h
  omega

/-- Sums of waits. -/
def wtTo (s : Sg) (S : ByteArray) : Nat → Int
  | 0 => 0
  | k + 1 => wtTo s S k + (stA s S k - rdy s S k)
theorem wtTo_range {s : Sg} {S : ByteArray} (h : sgO s S = true) {k : Nat} (hk : k ≤ S.size) : 0 ≤ wtTo s S k ∧ wtTo s S k ≤ 3200 * (k : Int) := by
  induction k with
  | zero => simp [wtTo]
  | succ k ih =>
    have h1 := ih (by omega)
    have h2 := stA_range h (k := k) (by omega)
    have h3 := rdy_range h (k := k) (by omega)
    have h4 := stA_nonneg h (k := k) (by omega)
    simp only [wtTo]
    omega
def waitV (s : Sg) (S : ByteArray) : Int := if sgO s S then wtTo s S S.size else -1
def endV (s : Sg) (S : ByteArray) : Int := if sgO s S then (if S.size = 0 then 0 else stA s S (S.size - 1) + s.run) else -1
def stV (s : Sg) (S : ByteArray) : List Int := if sgO s S then stL s S S.size else []
theorem waitV_yes {s : Sg} {S : ByteArray} (h : sgO s S = true) : waitV s S = wtTo s S S.size := by simp [waitV, h]
theorem waitV_no {s : Sg} {S : ByteArray} (h : sgO s S = false) : waitV s S = -1 := by simp [waitV, h]
theorem endV_no {s : Sg} {S : ByteArray} (h : sgO s S = false) : endV s S = -1 := by simp [endV, h]
theorem endV_nil {s : Sg} {S : ByteArray} (h : sgO s S = true) (h0 : S.size = 0) : endV s S = 0 := by simp [endV, h, h0]
theorem endV_yes {s : Sg} {S : ByteArray} {k : Nat} (h : sgO s S = true) (h0 : S.size = k + 1) : endV s S = stA s S k + s.run := by simp [endV, h, h0]
theorem stV_yes {s : Sg} {S : ByteArray} (h : sgO s S = true) : stV s S = stL s S S.size := by simp [stV, h]
theorem stV_no {s : Sg} {S : ByteArray} (h : sgO s S = false) : stV s S = [] := by simp [stV, h]

end Go.Proofs.YtlcmkocbpnekhaaGreatDoor
