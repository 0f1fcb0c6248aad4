/-
  A train runs through a line of circuits, plainly. No walk.
-/
import Derived.Test.YtmdkfhbkdeoahaaCtrS
namespace Go.Proofs.Ytmdkfhbkdeoahaa

/-- The axles that have passed counting point c behind j pulses. -/
def cl (a c j : Nat) : Nat := min (j - c * a) a
theorem div_is {a c j : Nat} (ha : 1 ≤ a) : j / a = c ↔ c * a ≤ j ∧ j < c * a + a := by
  constructor
  · rintro rfl
    have h1 := Nat.div_mul_le_self j a
    have h2 := Nat.lt_div_mul_add (a := j) (b := a) (by omega)
    exact ⟨h1, h2⟩
  · rintro ⟨h1, h2⟩
    exact Nat.div_eq_of_lt_le h1 (by rw [Nat.add_mul, Nat.one_mul]; exact h2)
theorem cl_succ {a c j : Nat} (ha : 1 ≤ a) : (cl a c (j + 1) : Int) = cl a c j + (if j / a = c then 1 else 0) := by
  have h := div_is (c := c) (j := j) ha
  unfold cl
  by_cases q : j / a = c
  · rw [if_pos q]
    have := h.1 q
    omega
  · rw [if_neg q]
    have : ¬ (c * a ≤ j ∧ j < c * a + a) := fun e => q (h.2 e)
    omega
theorem cl_step {a c j : Nat} : cl a (c + 1) j ≤ cl a c j ∧ cl a c j ≤ a := by
  unfold cl
  rw [Nat.add_mul, Nat.one_mul]
  omega
theorem cl_zero (a c : Nat) : cl a c 0 = 0 := by unfold cl; omega
theorem cl_all {a c j : Nat} (h : c + 1 ≤ j) : cl a c (j * a) = a := by
  unfold cl
  have := Nat.mul_le_mul_right a h
  rw [Nat.add_mul, Nat.one_mul] at this
  omega
theorem cl_none {a c j : Nat} (h : j ≤ c) : cl a c (j * a) = 0 := by
  unfold cl
  have := Nat.mul_le_mul_right a h
  omega
/-- The counts behind j pulses. -/
def stL (n a j : Nat) : List Int := (List.range n).map fun i => (cl a i j : Int) - cl a (i + 1) j
theorem stL_length (n a j : Nat) : (stL n a j).length = n := by simp [stL]
theorem stL_getD {n a j i : Nat} (h : i < n) : (stL n a j).getD i 0 = (cl a i j : Int) - cl a (i + 1) j := getD_map_range h
theorem stL_ok {n a j : Nat} (hn : 1 ≤ n ∧ n ≤ 8) (ha : a ≤ 50) : cntB (stL n a j) = true := by
  rw [cntB_is (by rw [stL_length]; exact hn)]
  refine axB_yes fun i hi => ?_
  rw [stL_length] at hi
  rw [stL_getD hi]
  have := cl_step (a := a) (c := i) (j := j)
  omega
theorem stL_sum {n a j : Nat} : ∀ m, m ≤ n → smTo (stL n a j) m = (cl a 0 j : Int) - cl a m j := by
  intro m
  induction m with
  | zero => intro _; simp [smTo]
  | succ m ih => intro hm; simp only [smTo]; rw [ih (by omega), stL_getD (by omega)]; omega
theorem stL_rest {n a : Nat} {j : Nat} (h : ∀ i, i < n → cl a i j = cl a (i + 1) j) : stL n a j = List.replicate n 0 := by
  refine list_eq (by rw [stL_length, List.length_replicate]) fun i hi => ?_
  rw [stL_length] at hi
  rw [stL_getD hi, h i hi]
  simp [hi]
theorem pc_nat (k : Nat) : pc (k : Int) = k := by have := pc_pos (p := (k : Int)) (by omega); omega
theorem sg_nat (k : Nat) : sg (k : Int) = 1 := sg_pos (by omega)
theorem train_run {n a : Nat} (hn : 1 ≤ n ∧ n ≤ 8) (ha : 1 ≤ a ∧ a ≤ 50) : ∀ j, j ≤ (n + 1) * a → runTo (List.replicate n 0) (tnL a ((n + 1) * a)) j = some (stL n a j) := by
  intro j
  induction j with
  | zero =>
    intro _
    rw [stL_rest (fun i _ => by rw [cl_zero, cl_zero])]
    rfl
  | succ j ih =>
    intro hj
    have hq : j / a < n + 1 := Nat.div_lt_of_lt_mul (by rw [Nat.mul_comm]; omega)
    have e : moved (stL n a j) (j / a) 1 = stL n a (j + 1) := by
      refine list_eq (by rw [moved_length, stL_length, stL_length]) fun i hi => ?_
      rw [moved_length, stL_length] at hi
      rw [moved_getD (by rw [stL_length]; exact hi), stL_getD hi, stL_getD hi, cl_succ ha.1, cl_succ ha.1]
      generalize j / a = c
      repeat' split
      all_goals omega
    rw [runTo_succ (ih (by omega)), tnL_getD (by omega)]
    have := pul_yes (cs := stL n a j) (p := ((j / a : Nat) : Int)) (by rw [pc_nat, stL_length]; omega) (by rw [pc_nat, sg_nat, e]; exact stL_ok hn ha.2)
    rw [this, pc_nat, sg_nat, e]
theorem train_net {n a : Nat} (ha : 1 ≤ a) (c : Nat) : ∀ j, j ≤ (n + 1) * a → netF (tnL a ((n + 1) * a)) c j = cl a c j := by
  intro j
  induction j with
  | zero => intro _; rw [cl_zero]; rfl
  | succ j ih =>
    intro hj
    rw [netF_succ, ih (by omega), tnL_getD (by omega), cl_succ ha, pc_nat, sg_nat]
theorem train_facts {n a : Nat} (hn : 1 ≤ n ∧ n ≤ 8) (ha : 1 ≤ a ∧ a ≤ 50) :
    runC (List.replicate n 0) (tnL a ((n + 1) * a)) = some (List.replicate n 0) ∧ netOk n (tnL a ((n + 1) * a)) = true ∧
    (netV n (tnL a ((n + 1) * a))).length = n + 1 ∧ (∀ i, i < n + 1 → (netV n (tnL a ((n + 1) * a))).getD i 0 = a) ∧
    ∀ k, k < n → a * (k + 1) ≤ (n + 1) * a ∧ ∃ y, runC (List.replicate n 0) ((tnL a ((n + 1) * a)).take (a * (k + 1))) = some y ∧ y.length = n ∧ y.getD k 0 = a ∧ smTo y n = a ∧ ∀ i, i < n → 0 ≤ y.getD i 0 ∧ y.getD i 0 ≤ 50 := by
  have hz : cntB (List.replicate n (0 : Int)) = true := by
    have := stL_ok (n := n) (a := a) (j := 0) hn ha.2
    rw [stL_rest (fun i _ => by rw [cl_zero, cl_zero])] at this
    exact this
  have ok : netOk n (tnL a ((n + 1) * a)) = true := netOk_yes (by omega) (fun j hj => by
    rw [tnL_length] at hj
    rw [tnL_getD hj, pc_nat]
    have : j / a < n + 1 := Nat.div_lt_of_lt_mul (by rw [Nat.mul_comm]; exact hj)
    omega)
  refine ⟨?_, ok, ?_, ?_, ?_⟩
  · rw [runC_is hz, tnL_length, train_run hn ha _ (Nat.le_refl _), stL_rest (fun i hi => by rw [cl_all (by omega), cl_all (by omega)])]
  · rw [netV_yes ok, Int.toNat_natCast, netL_length]
  · intro i hi
    rw [netV_yes ok, Int.toNat_natCast, netL_getD (by omega), tnL_length, train_net ha.1 i _ (Nat.le_refl _), cl_all (by omega)]
  · intro k hk
    have hle : a * (k + 1) ≤ (n + 1) * a := by rw [Nat.mul_comm]; exact Nat.mul_le_mul_right a (by omega)
    refine ⟨hle, stL n a (a * (k + 1)), ?_, stL_length _ _ _, ?_, ?_, ?_⟩
    · rw [runC_is hz, List.length_take, tnL_length, Nat.min_eq_left hle, runTo_take _ (Nat.le_refl _), train_run hn ha _ hle]
    · rw [stL_getD hk, Nat.mul_comm, cl_all (by omega), cl_none (by omega)]
      simp
    · rw [stL_sum _ (Nat.le_refl _), Nat.mul_comm, cl_all (by omega), cl_none (by omega)]
      simp
    · intro i hi
      rw [stL_getD hi]
      have := cl_step (a := a) (c := i) (j := a * (k + 1))
      omega

end Go.Proofs.Ytmdkfhbkdeoahaa
