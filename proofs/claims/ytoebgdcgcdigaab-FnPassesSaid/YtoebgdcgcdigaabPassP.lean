/-
  How often trains pass one another, plainly: two orders of one sum. No walk.
-/
import Derived.Test.YtoebgdcgcdigaabPathP
namespace Go.Proofs.Ytoebgdcgcdigaab

def addTo (f : Nat → Int) : Nat → Int
  | 0 => 0
  | n + 1 => addTo f n + f n
theorem addTo_zero (n : Nat) : addTo (fun _ => 0) n = 0 := by
  induction n with
  | zero => rfl
  | succ n ih => simp [addTo, ih]
theorem addTo_add (f g : Nat → Int) (n : Nat) : addTo (fun i => f i + g i) n = addTo f n + addTo g n := by
  induction n with
  | zero => rfl
  | succ n ih => simp only [addTo, ih]; omega
theorem addTo_congr {f g : Nat → Int} {n : Nat} (h : ∀ i, i < n → f i = g i) : addTo f n = addTo g n := by
  induction n with
  | zero => rfl
  | succ n ih => simp only [addTo]; rw [ih (fun i hi => h i (by omega)), h n (by omega)]
theorem addTo_swap (f : Nat → Nat → Int) (n m : Nat) : addTo (fun i => addTo (f i) m) n = addTo (fun k => addTo (fun i => f i k) n) m := by
  induction m with
  | zero => simp only [addTo]; exact addTo_zero n
  | succ m ih => simp only [addTo]; rw [addTo_add, ih]
theorem addTo_bounds {f : Nat → Int} {c : Int} {n : Nat} (h : ∀ i, i < n → 0 ≤ f i ∧ f i ≤ c) : 0 ≤ addTo f n ∧ addTo f n ≤ c * n := by
  induction n with
  | zero => simp [addTo]
  | succ n ih =>
    have h1 := ih (fun i hi => h i (by omega))
    have h2 := h n (by omega)
    simp only [addTo]
    rw [show c * ((n + 1 : Nat) : Int) = c * n + c by rw [Int.natCast_succ, Int.mul_add, Int.mul_one]]
    omega

/-- Is path i ahead of path j in section k? -/
def aheadB (ps : List (List Int × List Int)) (i j k : Nat) : Bool := decide ((ps.getD i noPath).1.getD k 0 < (ps.getD j noPath).1.getD k 0)
/-- They pass at the box behind section k. -/
def passAt (ps : List (List Int × List Int)) (i j k : Nat) : Int := if aheadB ps i j k != aheadB ps i j (k + 1) then 1 else 0
theorem passAt_bounds (ps : List (List Int × List Int)) (i j k : Nat) : 0 ≤ passAt ps i j k ∧ passAt ps i j k ≤ 1 := by unfold passAt; split <;> omega

/-- By paths first, as the model counts. -/
def passS3 (ps : List (List Int × List Int)) (i j k : Nat) : Int := addTo (passAt ps i j) k
def passS2 (ps : List (List Int × List Int)) (m i j : Nat) : Int := addTo (fun j => passS3 ps i j m) j
def passS1 (ps : List (List Int × List Int)) (m i : Nat) : Int := addTo (fun i => passS2 ps m i i) i
/-- By boxes first, as the program counts. -/
def passI3 (ps : List (List Int × List Int)) (k i j : Nat) : Int := addTo (fun j => passAt ps i j k) j
def passI2 (ps : List (List Int × List Int)) (k i : Nat) : Int := addTo (fun i => passI3 ps k i i) i
def passI1 (ps : List (List Int × List Int)) (k : Nat) : Int := addTo (fun k => passI2 ps k ps.length) k
theorem pass_same (ps : List (List Int × List Int)) (m : Nat) : passS1 ps m ps.length = passI1 ps m := by
  unfold passS1 passI1 passI2 passS2 passI3 passS3
  rw [← addTo_swap]
  exact addTo_congr (fun i _ => addTo_swap _ _ _)

def passesOf (n : Int) (ps : List (List Int × List Int)) : Int := if pathsB n ps then passI1 ps (n - 1).toNat else -1
theorem passesOf_no {n : Int} {ps : List (List Int × List Int)} (h : pathsB n ps = false) : passesOf n ps = -1 := by unfold passesOf; rw [h]; rfl
theorem passesOf_yes {n : Int} {ps : List (List Int × List Int)} (h : pathsB n ps = true) : passesOf n ps = passI1 ps (n - 1).toNat := by unfold passesOf; rw [h]; rfl

theorem passS3_bounds (ps : List (List Int × List Int)) (i j k : Nat) : 0 ≤ passS3 ps i j k ∧ passS3 ps i j k ≤ k := by
  have := addTo_bounds (c := 1) (n := k) (fun q _ => passAt_bounds ps i j q)
  unfold passS3
  omega
theorem passS2_bounds (ps : List (List Int × List Int)) {m : Nat} (hm : m ≤ 5) (i j : Nat) : 0 ≤ passS2 ps m i j ∧ passS2 ps m i j ≤ 5 * j :=
  addTo_bounds (c := 5) (fun q _ => by have := passS3_bounds ps i q m; omega)
theorem passS1_bounds (ps : List (List Int × List Int)) {m i : Nat} (hm : m ≤ 5) (hi : i ≤ 8) : 0 ≤ passS1 ps m i ∧ passS1 ps m i ≤ 40 * i :=
  addTo_bounds (c := 40) (fun q hq => by have := passS2_bounds ps hm q q; omega)
theorem passI3_bounds (ps : List (List Int × List Int)) (k i j : Nat) : 0 ≤ passI3 ps k i j ∧ passI3 ps k i j ≤ j := by
  have := addTo_bounds (c := 1) (n := j) (fun q _ => passAt_bounds ps i q k)
  unfold passI3
  omega
theorem passI2_bounds (ps : List (List Int × List Int)) (k : Nat) {i : Nat} (hi : i ≤ 8) : 0 ≤ passI2 ps k i ∧ passI2 ps k i ≤ 8 * i :=
  addTo_bounds (c := 8) (fun q hq => by have := passI3_bounds ps k q q; omega)
theorem passI1_bounds (ps : List (List Int × List Int)) (h : ps.length ≤ 8) (k : Nat) : 0 ≤ passI1 ps k ∧ passI1 ps k ≤ 64 * k :=
  addTo_bounds (c := 64) (fun q _ => by have := passI2_bounds ps q h; omega)

end Go.Proofs.Ytoebgdcgcdigaab
