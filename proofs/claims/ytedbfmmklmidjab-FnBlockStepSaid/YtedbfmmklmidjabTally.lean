/-
  Texts of events counted, plainly: from the end, and from the beginning. No walk.
-/
import Derived.Test.YtedbfmmklmidjabBlockP
namespace Go.Proofs.Ytedbfmmklmidjab

/-! ### The five possible blocks, and the events of each -/
def bkAt (i : Nat) : Blk := ([(0, false, false), (0, false, true), (1, false, false), (2, false, false), (2, true, false)] : List Blk).getD i nb
def bkIx (b : Blk) : Nat := if b = (0, false, false) then 0 else if b = (0, false, true) then 1 else if b = (1, false, false) then 2 else if b = (2, false, false) then 3 else 4
theorem bkAt_ix {b : Blk} (h : bkPos b = true) : bkIx b < 5 ∧ bkAt (bkIx b) = b := by
  rcases bkPos_five h with rfl | rfl | rfl | rfl | rfl <;> decide
theorem bkIx_at {i : Nat} (h : i < 5) : bkPos (bkAt i) = true ∧ bkIx (bkAt i) = i := by
  match i, h with
  | 0, _ | 1, _ | 2, _ | 3, _ | 4, _ => decide
/-- How many events can be done, the letter of the q-th, and where it leads. -/
def nl (i : Nat) : Nat := (nxTo (bkAt i) 7).length
def lb (i q : Nat) : UInt8 := (nxTo (bkAt i) 7).getD q 0
def tg (i q : Nat) : Nat := bkIx ((bkStep (bkAt i) (lb i q).toNat).getD nb)
theorem nl_le {i : Nat} (h : i < 5) : 1 ≤ nl i ∧ nl i ≤ 2 := by
  match i, h with
  | 0, _ | 1, _ | 2, _ | 3, _ | 4, _ => decide
theorem tg_is {i q : Nat} (h : i < 5) (hq : q < nl i) : tg i q < 5 ∧ bkStep (bkAt i) (lb i q).toNat = some (bkAt (tg i q)) := by
  have := nl_le h
  have hq' : q = 0 ∨ q = 1 := by omega
  match i, h with
  | 0, _ | 1, _ | 2, _ | 3, _ | 4, _ => rcases hq' with rfl | rfl <;> first | decide | (exact absurd hq (by decide))

/-! ### Counted from the end (the model) -/
def to1 (v : List Int) (i : Nat) : Nat → Int
  | 0 => 0
  | q + 1 => to1 v i q + v.getD (tg i q) 0
def bwStep (v : List Int) : List Int := (List.range 5).map fun i => to1 v i (nl i)
def bw : Nat → List Int
  | 0 => [1, 1, 1, 1, 1]
  | k + 1 => bwStep (bw k)
theorem bw_length (k : Nat) : (bw k).length = 5 := by
  cases k <;> simp [bw, bwStep]
theorem bw_small : ∀ k, k ≤ 30 → ∀ i, i < 5 → 0 ≤ (bw k).getD i 0 ∧ (bw k).getD i 0 ≤ 1000000000 := by
  decide +kernel

/-! ### Counted from the beginning (the program) -/
abbrev Tx := Nat → Option Int
/-- What i leads to at x by its first q events, if m texts lead to i. -/
def ct (i : Nat) (m : Int) (x : Nat) : Nat → Int
  | 0 => 0
  | q + 1 => ct i m x q + if tg i q = x then m else 0
def pt (i x : Nat) : Nat → Bool
  | 0 => false
  | q + 1 => pt i x q || decide (tg i q = x)
theorem ct_zero {i x : Nat} {m : Int} : ∀ n, pt i x n = false → ct i m x n = 0 := by
  intro n
  induction n with
  | zero => intro _; rfl
  | succ n ih =>
    intro hn
    simp only [pt, Bool.or_eq_false_iff, decide_eq_false_iff_not] at hn
    simp [ct, ih hn.1, hn.2]
def part (f : Tx) (S : Nat → Bool) (i x : Nat) : Int := if S i then ct i ((f i).getD 0) x (nl i) else 0
def here (S : Nat → Bool) (i x : Nat) : Bool := S i && pt i x (nl i)
def vl (f : Tx) (S : Nat → Bool) (x : Nat) : Int := part f S 0 x + part f S 1 x + part f S 2 x + part f S 3 x + part f S 4 x
def pr (S : Nat → Bool) (x : Nat) : Bool := here S 0 x || here S 1 x || here S 2 x || here S 3 x || here S 4 x
def cont (f : Tx) (S : Nat → Bool) : Tx := fun x => if pr S x then some (vl f S x) else none
/-- One entry more. -/
def addE (g : Tx) (y : Nat) (m : Int) : Tx := fun x => if x = y then some ((g x).getD 0 + m) else g x
def addTo (g : Tx) (i : Nat) (m : Int) : Nat → Tx
  | 0 => g
  | q + 1 => addE (addTo g i m q) (tg i q) m
def with1 (S : Nat → Bool) (i : Nat) : Nat → Bool := fun j => S j || decide (j = i)
theorem vl_of_not {f : Tx} {S : Nat → Bool} {x : Nat} (h : pr S x = false) : vl f S x = 0 := by
  simp only [pr, Bool.or_eq_false_iff] at h
  obtain ⟨⟨⟨⟨h0, h1⟩, h2⟩, h3⟩, h4⟩ := h
  have z : ∀ i, here S i x = false → part f S i x = 0 := by
    intro i hi
    unfold part
    split
    · rename_i hs
      simp only [here, hs, Bool.true_and] at hi
      exact ct_zero _ hi
    · rfl
  simp [vl, z _ h0, z _ h1, z _ h2, z _ h3, z _ h4]
/-- The events of i, one by one. -/
theorem addTo_is {g : Tx} {i x : Nat} {m : Int} (q : Nat) : addTo g i m q x = if pt i x q then some ((g x).getD 0 + ct i m x q) else g x := by
  induction q with
  | zero => simp [addTo, pt]
  | succ q ih =>
    simp only [addTo, addE, pt, ct, ih]
    by_cases e : x = tg i q
    · have e' : tg i q = x := e.symm
      by_cases hp : pt i x q = true
      · simp [hp, e']; omega
      · have hp' : pt i x q = false := by simpa using hp
        simp [hp', e', ct_zero q hp']
    · have e' : ¬ tg i q = x := fun h => e h.symm
      simp [e, e']
theorem vl_with {f : Tx} {S : Nat → Bool} {i x : Nat} {m : Int} (hi : i < 5) (hs : S i = false) (hm : f i = some m) : vl f (with1 S i) x = vl f S x + ct i m x (nl i) := by
  have hp : part f (with1 S i) i x = ct i m x (nl i) := by simp [part, with1, hm]
  have h0 : part f S i x = 0 := by simp [part, hs]
  have ho : ∀ j, j ≠ i → part f (with1 S i) j x = part f S j x := by intro j hj; simp [part, with1, hj]
  unfold vl
  match i, hi with
  | 0, _ => rw [hp, h0, ho 1 (by decide), ho 2 (by decide), ho 3 (by decide), ho 4 (by decide)]; omega
  | 1, _ => rw [hp, h0, ho 0 (by decide), ho 2 (by decide), ho 3 (by decide), ho 4 (by decide)]; omega
  | 2, _ => rw [hp, h0, ho 1 (by decide), ho 0 (by decide), ho 3 (by decide), ho 4 (by decide)]; omega
  | 3, _ => rw [hp, h0, ho 1 (by decide), ho 2 (by decide), ho 0 (by decide), ho 4 (by decide)]; omega
  | 4, _ => rw [hp, h0, ho 1 (by decide), ho 2 (by decide), ho 3 (by decide), ho 0 (by decide)]; omega
theorem pr_with {S : Nat → Bool} {i x : Nat} (hi : i < 5) (hs : S i = false) : pr (with1 S i) x = (pr S x || pt i x (nl i)) := by
  have hp : here (with1 S i) i x = pt i x (nl i) := by simp [here, with1]
  have h0 : here S i x = false := by simp [here, hs]
  have ho : ∀ j, j ≠ i → here (with1 S i) j x = here S j x := by intro j hj; simp [here, with1, hj]
  unfold pr
  match i, hi with
  | 0, _ => rw [hp, h0, ho 1 (by decide), ho 2 (by decide), ho 3 (by decide), ho 4 (by decide)]; cases pt 0 x (nl 0) <;> simp
  | 1, _ => rw [hp, h0, ho 0 (by decide), ho 2 (by decide), ho 3 (by decide), ho 4 (by decide)]; cases pt 1 x (nl 1) <;> simp
  | 2, _ => rw [hp, h0, ho 1 (by decide), ho 0 (by decide), ho 3 (by decide), ho 4 (by decide)]; cases pt 2 x (nl 2) <;> simp
  | 3, _ => rw [hp, h0, ho 1 (by decide), ho 2 (by decide), ho 0 (by decide), ho 4 (by decide)]; cases pt 3 x (nl 3) <;> simp
  | 4, _ => rw [hp, h0, ho 1 (by decide), ho 2 (by decide), ho 3 (by decide), ho 0 (by decide)]; cases pt 4 x (nl 4) <;> simp
theorem cont_with {f : Tx} {S : Nat → Bool} {i : Nat} {m : Int} (hi : i < 5) (hs : S i = false) (hm : f i = some m) : addTo (cont f S) i m (nl i) = cont f (with1 S i) := by
  funext x
  rw [addTo_is]
  unfold cont
  rw [pr_with hi hs, vl_with hi hs hm]
  cases hp : pr S x
  · cases hq : pt i x (nl i)
    · simp
    · simp [vl_of_not hp]
  · cases hq : pt i x (nl i)
    · simp [ct_zero _ hq]
    · simp
def fwStep (f : Tx) : Tx := cont f (fun i => (f i).isSome)
/-- The content as a table. -/
def tab (f : Tx) : List (Option Int) := (List.range 5).map f
def fwT (b : Nat) : Nat → List (Option Int)
  | 0 => (List.range 5).map fun x => if x = b then some 1 else none
  | k + 1 => (List.range 5).map (fwStep (fun i => (fwT b k).getD i none))
def fw (b k : Nat) : Tx := fun i => (fwT b k).getD i none
theorem fw_succ {b k x : Nat} (h : x < 5) : fw b (k + 1) x = fwStep (fw b k) x := by
  unfold fw
  simp only [fwT]
  rw [List.getD_eq_getElem?_getD, List.getElem?_map, List.getElem?_range h]
  rfl
def total (f : Tx) : Int := (f 0).getD 0 + (f 1).getD 0 + (f 2).getD 0 + (f 3).getD 0 + (f 4).getD 0
theorem fw_small : ∀ k, k ≤ 30 → ∀ b, b < 5 → ∀ i, i < 5 → 0 ≤ (fw b k i).getD 0 ∧ (fw b k i).getD 0 ≤ 1000000000 := by
  decide +kernel
theorem total_is : ∀ k, k ≤ 30 → ∀ b, b < 5 → total (fw b k) = (bw k).getD b 0 := by
  decide +kernel
end Go.Proofs.Ytedbfmmklmidjab
