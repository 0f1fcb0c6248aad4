/-
  Blocks and their events, plainly. No walk.
-/
import Derived.Test.YtpofkfcjnhoamaaRows
import Derived.WalkKit
namespace Go.Proofs.Ytpofkfcjnhoamaa

/-- A block: its needle, is a train inside, is one offered. -/
abbrev Blk := Int × Bool × Bool
def nb : Blk := (0, false, false)
def bkPos (b : Blk) : Bool := decide ((0 ≤ b.1 ∧ b.1 ≤ 2) ∧ (b.2.1 = true → b.1 = 2) ∧ (b.2.2 = true → b.1 = 0))
theorem bkPos_five {b : Blk} (h : bkPos b = true) : b = (0, false, false) ∨ b = (0, false, true) ∨ b = (1, false, false) ∨ b = (2, true, false) ∨ b = (2, false, false) := by
  obtain ⟨n, i, o⟩ := b
  have h := of_decide_eq_true h
  simp only at h
  obtain ⟨⟨h0, h2⟩, hi, ho⟩ := h
  have hn : n = 0 ∨ n = 1 ∨ n = 2 := by omega
  rcases hn with rfl | rfl | rfl <;> cases i <;> cases o <;> simp at hi ho ⊢
theorem bkPos_nb : bkPos nb = true := rfl

/-- The block behind an event. -/
def bkStep (b : Blk) (c : Int) : Option Blk :=
  if c = 111 ∧ b = (0, false, false) then some (0, false, true)
  else if c = 114 ∧ b = (0, false, true) then some (0, false, false)
  else if c = 97 ∧ b = (0, false, true) then some (1, false, false)
  else if c = 99 ∧ b = (1, false, false) then some (0, false, false)
  else if c = 101 ∧ b = (1, false, false) then some (2, true, false)
  else if c = 108 ∧ b = (2, true, false) then some (2, false, false)
  else if c = 102 ∧ b = (2, false, false) then some (0, false, false)
  else none
/-- A letter and a block of each event. -/
theorem bkStep_cases {b b' : Blk} {c : Int} (h : bkStep b c = some b') :
    (c = 111 ∧ b = (0, false, false) ∧ b' = (0, false, true)) ∨ (c = 114 ∧ b = (0, false, true) ∧ b' = (0, false, false)) ∨ (c = 97 ∧ b = (0, false, true) ∧ b' = (1, false, false)) ∨
    (c = 99 ∧ b = (1, false, false) ∧ b' = (0, false, false)) ∨ (c = 101 ∧ b = (1, false, false) ∧ b' = (2, true, false)) ∨ (c = 108 ∧ b = (2, true, false) ∧ b' = (2, false, false)) ∨ (c = 102 ∧ b = (2, false, false) ∧ b' = (0, false, false)) := by
  unfold bkStep at h
  repeat' split at h
  all_goals cases h
  all_goals (rename_i q; obtain ⟨rfl, rfl⟩ := q; simp)
theorem bkStep_pos {b b' : Blk} {c : Int} (h : bkStep b c = some b') : bkPos b = true ∧ bkPos b' = true := by
  rcases bkStep_cases h with ⟨_, rfl, rfl⟩ | ⟨_, rfl, rfl⟩ | ⟨_, rfl, rfl⟩ | ⟨_, rfl, rfl⟩ | ⟨_, rfl, rfl⟩ | ⟨_, rfl, rfl⟩ | ⟨_, rfl, rfl⟩ <;> exact ⟨rfl, rfl⟩
theorem bkStep_twice {b b' : Blk} {c : Int} (h : bkStep b c = some b') : bkStep b' c = none := by
  rcases bkStep_cases h with ⟨rfl, rfl, rfl⟩ | ⟨rfl, rfl, rfl⟩ | ⟨rfl, rfl, rfl⟩ | ⟨rfl, rfl, rfl⟩ | ⟨rfl, rfl, rfl⟩ | ⟨rfl, rfl, rfl⟩ | ⟨rfl, rfl, rfl⟩ <;> decide
theorem bkStep_not {b : Blk} (h : bkPos b = false) (c : Int) : bkStep b c = none := by
  cases e : bkStep b c
  · rfl
  · exact absurd (bkStep_pos e).1 (by simp [h])

/-- The byte at a place of a string. -/
def bt (S : ByteArray) (k : Nat) : Int := ((S[k]?.getD 0).toNat : Int)
theorem bt_get {S : ByteArray} {k : Nat} (h : k < S.size) : (((S[k]'h).toNat : Nat) : Int) = bt S k := by
  unfold bt
  rw [getElem?_pos S k h]
  rfl
theorem bt_range (S : ByteArray) (k : Nat) : 0 ≤ bt S k ∧ bt S k ≤ 255 := by
  unfold bt
  have := (S[k]?.getD 0).toNat_lt
  omega

/-- The block behind the first k events. -/
def bkTo (b : Blk) (S : ByteArray) : Nat → Option Blk
  | 0 => some b
  | k + 1 => (bkTo b S k).bind fun x => bkStep x (bt S k)
theorem bkTo_succ {b x : Blk} {S : ByteArray} {k : Nat} (h : bkTo b S k = some x) : bkTo b S (k + 1) = bkStep x (bt S k) := by simp [bkTo, h]
theorem bkTo_pos {b x : Blk} {S : ByteArray} {k : Nat} (hb : bkPos b = true) (h : bkTo b S k = some x) : bkPos x = true := by
  cases k with
  | zero => simp only [bkTo, Option.some.injEq] at h; rw [← h]; exact hb
  | succ k =>
    simp only [bkTo] at h
    cases e : bkTo b S k with
    | none => simp [e] at h
    | some y => simp only [e, Option.bind_some] at h; exact (bkStep_pos h).2
theorem bkTo_none {b : Blk} {S : ByteArray} {k n : Nat} (h : bkTo b S k = none) (hn : k ≤ n) : bkTo b S n = none := by
  induction n with
  | zero => have : k = 0 := by omega
            subst this; exact h
  | succ n ih =>
    by_cases e : k = n + 1
    · rw [← e]; exact h
    · simp [bkTo, ih (by omega)]
/-- What the program hands back for a block and a text. -/
def bkRun (b : Blk) (S : ByteArray) : Option Blk := if bkPos b = true ∧ S.size ≤ 30 then bkTo b S S.size else none
def bkLegal (S : ByteArray) : Bool := (bkRun nb S).isSome
theorem bkRun_not {b : Blk} {S : ByteArray} (h : bkPos b = false) : bkRun b S = none := by simp [bkRun, h]
theorem bkRun_long {b : Blk} {S : ByteArray} (h : 30 < (S.size : Int)) : bkRun b S = none := by
  unfold bkRun
  rw [if_neg (fun q => by omega)]
theorem bkRun_is {b : Blk} {S : ByteArray} (h : bkPos b = true) (hl : (S.size : Int) ≤ 30) : bkRun b S = bkTo b S S.size := by
  unfold bkRun
  rw [if_pos ⟨h, by omega⟩]
theorem bkRun_one {b : Blk} {S : ByteArray} (hl : S.size = 1) : bkRun b S = bkStep b (bt S 0) := by
  cases h : bkPos b
  · rw [bkRun_not h, bkStep_not h]
  · rw [bkRun_is h (by omega), hl]; rfl
theorem bkRun_none {b : Blk} {S : ByteArray} {k : Nat} (hk : k ≤ S.size) (h : bkTo b S k = none) : bkRun b S = none := by
  unfold bkRun
  split
  · exact bkTo_none h hk
  · rfl
/-- What the functions that take a letter hand back. -/
def bkOne (b : Blk) (S : ByteArray) : Option Blk := if S.size = 1 then bkStep b (bt S 0) else none
theorem bkOne_no {b : Blk} {S : ByteArray} (h : S.size ≠ 1) : bkOne b S = none := by unfold bkOne; rw [if_neg h]
theorem bkOne_yes {b : Blk} {S : ByteArray} (h : S.size = 1) : bkOne b S = bkStep b (bt S 0) := by unfold bkOne; rw [if_pos h]

/-- As values. -/
def bkV (b : Blk) : Value := .agg #[.int .i64 b.1, .bool b.2.1, .bool b.2.2]
def bkR (o : Option Blk) : Value := .tuple #[bkV (o.getD nb), .bool o.isSome]

/-- The letters of all events. -/
def ltr (k : Nat) : Int := [97, 99, 101, 102, 108, 111, 114].getD k 0
def ltB (k : Nat) : UInt8 := [97, 99, 101, 102, 108, 111, 114].getD k 0
def ltS (k : Nat) : ByteArray := ⟨#[ltB k]⟩
theorem ltS_size (k : Nat) : (ltS k).size = 1 := rfl
theorem ltr_bt (k : Nat) : bt (ltS k) 0 = ltr k := by
  match k with
  | 0 | 1 | 2 | 3 | 4 | 5 | 6 => rfl
  | k + 7 => rfl
theorem bkOne_ltS (b : Blk) (k : Nat) : bkOne b (ltS k) = bkStep b (ltr k) := by rw [bkOne_yes (ltS_size k), ltr_bt]
/-- The first k of those that can be done. -/
def nxTo (b : Blk) : Nat → List UInt8
  | 0 => []
  | k + 1 => if (bkStep b (ltr k)).isSome then nxTo b k ++ [ltB k] else nxTo b k
def nxS (b : Blk) : ByteArray := ⟨(nxTo b 7).toArray⟩
theorem nxTo_length (b : Blk) (k : Nat) : (nxTo b k).length ≤ k := by
  induction k with
  | zero => simp [nxTo]
  | succ k ih => simp only [nxTo]; split <;> first | omega | (simp; omega)
theorem nxTo_yes {b b' : Blk} {k : Nat} (h : bkStep b (ltr k) = some b') : nxTo b (k + 1) = nxTo b k ++ [ltB k] := by simp [nxTo, h]
theorem nxTo_no {b : Blk} {k : Nat} (h : bkStep b (ltr k) = none) : nxTo b (k + 1) = nxTo b k := by simp [nxTo, h]
end Go.Proofs.Ytpofkfcjnhoamaa
