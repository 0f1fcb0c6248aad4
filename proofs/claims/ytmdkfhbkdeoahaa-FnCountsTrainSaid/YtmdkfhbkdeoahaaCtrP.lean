/-
  Counters of axles, plainly: counts, pulses, net numbers, trains. No walk.
-/
import Derived.Test.YtmdkfhbkdeoahaaRows
import Derived.WalkKit
namespace Go.Proofs.Ytmdkfhbkdeoahaa

theorem getD_map_range {f : Nat → Int} {n i : Nat} (h : i < n) : ((List.range n).map f).getD i 0 = f i := by simp [h]
theorem list_eq {xs ys : List Int} (hl : xs.length = ys.length) (h : ∀ i, i < xs.length → xs.getD i 0 = ys.getD i 0) : xs = ys := by
  apply List.ext_getElem hl
  intro i h1 h2
  have := h i h1
  simpa [h1, h2] using this
theorem getD_set {xs : List Int} {i j : Nat} {x : Int} (hi : i < xs.length) (hj : j < xs.length) : (xs.set i x).getD j 0 = if j = i then x else xs.getD j 0 := by
  by_cases e : j = i
  · subst e; simp [hj]
  · rw [if_neg e]
    have e' : ¬ i = j := fun q => e q.symm
    simp [hj, e']

/-! ### Counts -/
def axB (cs : List Int) : Bool := decide (∀ i, i < cs.length → 0 ≤ cs.getD i 0 ∧ cs.getD i 0 ≤ 50)
theorem axB_of {cs : List Int} (h : axB cs = true) : ∀ i, i < cs.length → 0 ≤ cs.getD i 0 ∧ cs.getD i 0 ≤ 50 := of_decide_eq_true h
theorem axB_yes {cs : List Int} (h : ∀ i, i < cs.length → 0 ≤ cs.getD i 0 ∧ cs.getD i 0 ≤ 50) : axB cs = true := decide_eq_true h
theorem axB_no {cs : List Int} {k : Nat} (hk : k < cs.length) (h : ¬ (0 ≤ cs.getD k 0 ∧ cs.getD k 0 ≤ 50)) : axB cs = false := decide_eq_false fun q => h (q k hk)
def cntB (cs : List Int) : Bool := decide (1 ≤ cs.length ∧ cs.length ≤ 8) && axB cs
theorem cntB_of {cs : List Int} (h : cntB cs = true) : (1 ≤ cs.length ∧ cs.length ≤ 8) ∧ ∀ i, i < cs.length → 0 ≤ cs.getD i 0 ∧ cs.getD i 0 ≤ 50 := by
  unfold cntB at h
  simp only [Bool.and_eq_true, decide_eq_true_eq] at h
  exact ⟨h.1, axB_of h.2⟩
theorem cntB_long {cs : List Int} (h : cs.length < 1 ∨ 8 < cs.length) : cntB cs = false := by unfold cntB; rw [decide_eq_false (by omega), Bool.false_and]
theorem cntB_is {cs : List Int} (h : 1 ≤ cs.length ∧ cs.length ≤ 8) : cntB cs = axB cs := by unfold cntB; rw [decide_eq_true h, Bool.true_and]
theorem cntB_not {cs : List Int} (h : axB cs = false) : cntB cs = false := by unfold cntB; rw [h, Bool.and_false]
theorem cntB_end {cs : List Int} (h : ∀ i, i < cs.length → 0 ≤ cs.getD i 0 ∧ cs.getD i 0 ≤ 50) : cntB cs = decide (1 ≤ (cs.length : Int) ∧ (cs.length : Int) ≤ 8) := by
  unfold cntB
  rw [axB_yes h, Bool.and_true]
  exact decide_eq_decide.2 ⟨fun h => by omega, fun h => by omega⟩

/-! ### Pulses -/
def pc (p : Int) : Nat := (if p < 0 then -1 - p else p).toNat
def sg (p : Int) : Int := if p < 0 then -1 else 1
theorem pc_neg {p : Int} (h : p < 0) : (pc p : Int) = -1 - p := by unfold pc; rw [if_pos h]; omega
theorem pc_pos {p : Int} (h : 0 ≤ p) : (pc p : Int) = p := by unfold pc; rw [if_neg (by omega)]; omega
theorem sg_neg {p : Int} (h : p < 0) : sg p = -1 := by unfold sg; rw [if_pos h]
theorem sg_pos {p : Int} (h : 0 ≤ p) : sg p = 1 := by unfold sg; rw [if_neg (by omega)]
theorem sg_two (p : Int) : sg p = -1 ∨ sg p = 1 := by unfold sg; split <;> simp
/-- The counts behind an axle that goes past a counter. -/
def moved (cs : List Int) (c : Nat) (s : Int) : List Int := (List.range cs.length).map fun k => cs.getD k 0 + (if k = c then s else 0) - (if k + 1 = c then s else 0)
theorem moved_length (cs : List Int) (c : Nat) (s : Int) : (moved cs c s).length = cs.length := by simp [moved]
theorem moved_getD {cs : List Int} {c k : Nat} {s : Int} (h : k < cs.length) : (moved cs c s).getD k 0 = cs.getD k 0 + (if k = c then s else 0) - (if k + 1 = c then s else 0) := getD_map_range h
/-- Both sides, one after the other, in either order. -/
theorem moved_first {cs : List Int} {s : Int} (h : 0 < cs.length) : cs.set 0 (cs.getD 0 0 + s) = moved cs 0 s := by
  refine list_eq (by rw [List.length_set, moved_length]) (fun i hi => ?_)
  rw [List.length_set] at hi
  rw [getD_set h hi, moved_getD hi]
  by_cases e : i = 0
  · subst e; simp
  · rw [if_neg e, if_neg e, if_neg (by omega)]; omega
theorem moved_last {cs : List Int} {s : Int} {c : Nat} (h : c + 1 = cs.length) : cs.set c (cs.getD c 0 - s) = moved cs cs.length s := by
  refine list_eq (by rw [List.length_set, moved_length]) (fun i hi => ?_)
  rw [List.length_set] at hi
  rw [getD_set (by omega) hi, moved_getD hi]
  by_cases e : i = c
  · subst e; rw [if_pos rfl, if_neg (by omega), if_pos h]; omega
  · rw [if_neg e, if_neg (by omega), if_neg (by omega)]; omega
theorem moved_left {cs : List Int} {s : Int} {c : Nat} (h : c + 1 < cs.length) : (cs.set c (cs.getD c 0 - s)).set (c + 1) (cs.getD (c + 1) 0 + s) = moved cs (c + 1) s := by
  refine list_eq (by rw [List.length_set, List.length_set, moved_length]) (fun i hi => ?_)
  rw [List.length_set, List.length_set] at hi
  rw [getD_set (by rw [List.length_set]; omega) (by rw [List.length_set]; omega), getD_set (by omega) hi, moved_getD hi]
  by_cases e : i = c + 1
  · subst e; rw [if_pos rfl, if_pos rfl, if_neg (by omega)]; omega
  · rw [if_neg e, if_neg e]
    by_cases e2 : i = c
    · subst e2; rw [if_pos rfl, if_pos rfl]; omega
    · rw [if_neg e2, if_neg (by omega)]; omega
theorem moved_right {cs : List Int} {s : Int} {c : Nat} (h : c + 1 < cs.length) : (cs.set (c + 1) (cs.getD (c + 1) 0 + s)).set c (cs.getD c 0 - s) = moved cs (c + 1) s := by
  rw [← moved_left h]
  rw [List.set_comm _ _ (by omega)]
def pul (cs : List Int) (p : Int) : Option (List Int) := if pc p ≤ cs.length ∧ cntB (moved cs (pc p) (sg p)) = true then some (moved cs (pc p) (sg p)) else none
theorem pul_far {cs : List Int} {p : Int} (h : cs.length < pc p) : pul cs p = none := by unfold pul; rw [if_neg (fun q => by omega)]
theorem pul_bad {cs : List Int} {p : Int} (h : cntB (moved cs (pc p) (sg p)) = false) : pul cs p = none := by unfold pul; rw [if_neg (fun q => by rw [h] at q; cases q.2)]
theorem pul_yes {cs : List Int} {p : Int} (h : pc p ≤ cs.length) (h2 : cntB (moved cs (pc p) (sg p)) = true) : pul cs p = some (moved cs (pc p) (sg p)) := by unfold pul; rw [if_pos ⟨h, h2⟩]
theorem pul_ok {cs ds : List Int} {p : Int} (h : pul cs p = some ds) : cntB ds = true ∧ ds.length = cs.length ∧ pc p ≤ cs.length ∧ ds = moved cs (pc p) (sg p) := by
  unfold pul at h
  split at h
  · rename_i q
    cases h
    exact ⟨q.2, moved_length _ _ _, q.1, rfl⟩
  · cases h
/-- The counts behind the first k pulses. -/
def runTo (cs ps : List Int) : Nat → Option (List Int)
  | 0 => some cs
  | k + 1 => (runTo cs ps k).bind fun x => pul x (ps.getD k 0)
theorem runTo_succ {cs ps x : List Int} {k : Nat} (h : runTo cs ps k = some x) : runTo cs ps (k + 1) = pul x (ps.getD k 0) := by simp [runTo, h]
theorem runTo_none {cs ps : List Int} {k n : Nat} (h : runTo cs ps k = none) (hn : k ≤ n) : runTo cs ps n = none := by
  induction n with
  | zero => have : k = 0 := by omega
            subst this; exact h
  | succ n ih =>
    by_cases e : k = n + 1
    · rw [← e]; exact h
    · simp [runTo, ih (by omega)]
theorem runTo_ok {cs ps x : List Int} {k : Nat} (hc : cntB cs = true) (h : runTo cs ps k = some x) : cntB x = true ∧ x.length = cs.length := by
  induction k generalizing x with
  | zero => simp only [runTo, Option.some.injEq] at h; rw [← h]; exact ⟨hc, rfl⟩
  | succ k ih =>
    simp only [runTo] at h
    cases e : runTo cs ps k with
    | none => simp [e] at h
    | some y =>
      simp only [e, Option.bind_some] at h
      have := pul_ok h
      exact ⟨this.1, this.2.1.trans (ih e).2⟩
def runC (cs ps : List Int) : Option (List Int) := if cntB cs = true then runTo cs ps ps.length else none
theorem runC_not {cs ps : List Int} (h : cntB cs = false) : runC cs ps = none := by unfold runC; rw [h]; rfl
theorem runC_is {cs ps : List Int} (h : cntB cs = true) : runC cs ps = runTo cs ps ps.length := by unfold runC; rw [h]; rfl
theorem runC_none {cs ps : List Int} {k : Nat} (hk : k ≤ ps.length) (h : runTo cs ps k = none) : runC cs ps = none := by
  unfold runC
  split
  · exact runTo_none h hk
  · rfl
theorem runC_len {cs ps : List Int} : ((runC cs ps).getD []).length ≤ 8 := by
  cases h : runC cs ps with
  | none => exact Nat.zero_le _
  | some x =>
    cases hc : cntB cs
    · rw [runC_not hc] at h; cases h
    · rw [runC_is hc] at h
      have := (cntB_of (runTo_ok hc h).1).1.2
      exact this
def pulC (cs : List Int) (p : Int) : Option (List Int) := if cntB cs = true then pul cs p else none
theorem pulC_run (cs : List Int) (p : Int) : runC cs [p] = pulC cs p := by unfold runC pulC; rfl

/-! ### Sections without axles -/
def clTo (cs : List Int) : Nat → List Int
  | 0 => []
  | k + 1 => if cs.getD k 0 = 0 then clTo cs k ++ [(k : Int)] else clTo cs k
def clL (cs : List Int) : List Int := if cntB cs then clTo cs cs.length else []
theorem clTo_yes {cs : List Int} {k : Nat} (h : cs.getD k 0 = 0) : clTo cs (k + 1) = clTo cs k ++ [(k : Int)] := by simp only [clTo]; rw [if_pos h]
theorem clTo_no {cs : List Int} {k : Nat} (h : cs.getD k 0 ≠ 0) : clTo cs (k + 1) = clTo cs k := by simp only [clTo]; rw [if_neg h]
theorem clTo_length (cs : List Int) (k : Nat) : (clTo cs k).length ≤ k := by
  induction k with
  | zero => exact Nat.le_refl _
  | succ k ih => simp only [clTo]; split <;> first | omega | (simp only [List.length_append, List.length_cons, List.length_nil]; omega)
theorem clL_length (cs : List Int) : (clL cs).length ≤ 8 := by
  unfold clL
  split
  · rename_i h
    have := clTo_length cs cs.length
    have := (cntB_of h).1.2
    omega
  · exact Nat.zero_le _
theorem clL_is {cs : List Int} (h : cntB cs = true) : clL cs = clTo cs cs.length := by unfold clL; rw [h]; rfl
theorem clL_not {cs : List Int} (h : cntB cs = false) : clL cs = [] := by unfold clL; rw [h]; rfl

/-! ### Net numbers -/
def netF (ps : List Int) (c : Nat) : Nat → Int
  | 0 => 0
  | k + 1 => netF ps c k + (if pc (ps.getD k 0) = c then sg (ps.getD k 0) else 0)
theorem netF_range (ps : List Int) (c k : Nat) : -(k : Int) ≤ netF ps c k ∧ netF ps c k ≤ (k : Int) := by
  induction k with
  | zero => simp [netF]
  | succ k ih =>
    have := sg_two (ps.getD k 0)
    simp only [netF]
    split <;> omega
def netL (n : Nat) (ps : List Int) (k : Nat) : List Int := (List.range (n + 1)).map fun c => netF ps c k
theorem netL_length (n : Nat) (ps : List Int) (k : Nat) : (netL n ps k).length = n + 1 := by simp [netL]
theorem netL_getD {n : Nat} {ps : List Int} {k c : Nat} (h : c ≤ n) : (netL n ps k).getD c 0 = netF ps c k := getD_map_range (by omega)
theorem netL_zero (n : Nat) (ps : List Int) : netL n ps 0 = List.replicate (n + 1) 0 := by
  refine list_eq (by rw [netL_length, List.length_replicate]) (fun i hi => ?_)
  rw [netL_length] at hi
  rw [netL_getD (by omega)]
  simp [netF, hi]
theorem netL_succ {n : Nat} {ps : List Int} {k c : Nat} {s : Int} (hc : c ≤ n) (h : pc (ps.getD k 0) = c) (hs : sg (ps.getD k 0) = s) : (netL n ps k).set c (netF ps c k + s) = netL n ps (k + 1) := by
  refine list_eq (by rw [List.length_set, netL_length, netL_length]) (fun i hi => ?_)
  rw [List.length_set, netL_length] at hi
  rw [getD_set (by rw [netL_length]; omega) (by rw [netL_length]; omega), netL_getD (by omega), netL_getD (by omega)]
  simp only [netF]
  by_cases e : i = c
  · subst e; rw [if_pos rfl, if_pos h, hs]
  · rw [if_neg e, if_neg (by omega)]; omega
def netOk (n : Int) (ps : List Int) : Bool := decide ((1 ≤ n ∧ n ≤ 8) ∧ ∀ j, j < ps.length → (pc (ps.getD j 0) : Int) ≤ n)
theorem netOk_far {n : Int} {ps : List Int} {k : Nat} (hk : k < ps.length) (h : n < (pc (ps.getD k 0) : Int)) : netOk n ps = false := decide_eq_false fun q => by have := q.2 k hk; omega
theorem netOk_n {n : Int} {ps : List Int} (h : n < 1 ∨ 8 < n) : netOk n ps = false := decide_eq_false fun q => by have := q.1; omega
theorem netOk_yes {n : Int} {ps : List Int} (h : 1 ≤ n ∧ n ≤ 8) (h2 : ∀ j, j < ps.length → (pc (ps.getD j 0) : Int) ≤ n) : netOk n ps = true := decide_eq_true ⟨h, h2⟩
theorem netOk_of {n : Int} {ps : List Int} (h : netOk n ps = true) : (1 ≤ n ∧ n ≤ 8) ∧ ∀ j, j < ps.length → (pc (ps.getD j 0) : Int) ≤ n := of_decide_eq_true h
def netV (n : Int) (ps : List Int) : List Int := if netOk n ps then netL n.toNat ps ps.length else []
theorem netV_length (n : Int) (ps : List Int) : (netV n ps).length ≤ 9 := by
  unfold netV
  split
  · rename_i h
    have := (netOk_of h).1
    rw [netL_length]
    omega
  · exact Nat.zero_le _
theorem netV_no {n : Int} {ps : List Int} (h : netOk n ps = false) : netV n ps = [] := by unfold netV; rw [h]; rfl
theorem netV_yes {n : Int} {ps : List Int} (h : netOk n ps = true) : netV n ps = netL n.toNat ps ps.length := by unfold netV; rw [h]; rfl

/-! ### Trains -/
def tnOk (n a : Int) : Bool := decide ((1 ≤ n ∧ n ≤ 8) ∧ (1 ≤ a ∧ a ≤ 50))
def tnL (a m : Nat) : List Int := (List.range m).map fun i => ((i / a : Nat) : Int)
theorem tnL_length (a m : Nat) : (tnL a m).length = m := by simp [tnL]
theorem tnL_getD {a m i : Nat} (h : i < m) : (tnL a m).getD i 0 = ((i / a : Nat) : Int) := getD_map_range h
theorem tnL_succ {a k j : Nat} (h : j < a) : tnL a (k * a + j) ++ [(k : Int)] = tnL a (k * a + (j + 1)) := by
  unfold tnL
  rw [← Nat.add_assoc, List.range_succ, List.map_append, List.map_cons, List.map_nil]
  congr 3
  rw [Nat.mul_comm, Nat.mul_add_div (by omega), Nat.div_eq_of_lt h]
  omega
theorem tnL_add {a k : Nat} (h : 0 < a) : ∀ j, j ≤ a → tnL a (k * a) ++ List.replicate j (k : Int) = tnL a (k * a + j)
  | 0, _ => by simp
  | j + 1, hj => by
    rw [List.replicate_succ', ← List.append_assoc, tnL_add h j (by omega), tnL_succ (by omega)]
theorem tnL_next {a k : Nat} (h : 0 < a) : tnL a (k * a) ++ List.replicate a (k : Int) = tnL a ((k + 1) * a) := by
  rw [tnL_add h a (Nat.le_refl _), Nat.succ_mul]
def tnV (n a : Int) : List Int := if tnOk n a then tnL a.toNat ((n.toNat + 1) * a.toNat) else []
theorem tnOk_of {n a : Int} (h : tnOk n a = true) : (1 ≤ n ∧ n ≤ 8) ∧ (1 ≤ a ∧ a ≤ 50) := of_decide_eq_true h
theorem tnV_length (n a : Int) : (tnV n a).length ≤ 450 := by
  unfold tnV
  split
  · rename_i h
    have := tnOk_of h
    rw [tnL_length]
    have h1 : n.toNat + 1 ≤ 9 := by omega
    have h2 : a.toNat ≤ 50 := by omega
    calc (n.toNat + 1) * a.toNat ≤ 9 * 50 := Nat.mul_le_mul h1 h2
      _ = 450 := rfl
  · exact Nat.zero_le _
theorem tnV_no {n a : Int} (h : tnOk n a = false) : tnV n a = [] := by unfold tnV; rw [h]; rfl
theorem tnV_yes {n a : Int} (h : tnOk n a = true) : tnV n a = tnL a.toNat ((n.toNat + 1) * a.toNat) := by unfold tnV; rw [h]; rfl

end Go.Proofs.Ytmdkfhbkdeoahaa
