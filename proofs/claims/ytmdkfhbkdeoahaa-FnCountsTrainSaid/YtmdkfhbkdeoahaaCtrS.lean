/-
  A run of pulses: its net, and its parts. Parts of a list. No walk.
-/
import Derived.Test.YtmdkfhbkdeoahaaCtrR
import Derived.Test.YtmdkfhbkdeoahaaDrwC
namespace Go.Proofs.Ytmdkfhbkdeoahaa
open Go.RowKit Go.Sort

theorem runTo_facts {cs ps : List Int} (hc : cntB cs = true) : ∀ k x, runTo cs ps k = some x → x.length = cs.length ∧ cntB x = true ∧ (∀ j, j < k → pc (ps.getD j 0) ≤ cs.length) ∧
    ∀ i, i < cs.length → x.getD i 0 = cs.getD i 0 + netF ps i k - netF ps (i + 1) k := by
  intro k
  induction k with
  | zero =>
    intro x h
    simp only [runTo, Option.some.injEq] at h
    subst h
    exact ⟨rfl, hc, fun j hj => by omega, fun i _ => by simp [netF]⟩
  | succ k ih =>
    intro x h
    cases e : runTo cs ps k with
    | none => rw [runTo_none e (Nat.le_succ k)] at h; cases h
    | some y =>
      rw [runTo_succ e] at h
      obtain ⟨q1, q2, q3, q4⟩ := ih y e
      obtain ⟨r1, r2, r3, r4⟩ := pul_ok h
      refine ⟨by omega, r1, fun j hj => ?_, fun i hi => ?_⟩
      · by_cases e2 : j = k
        · subst e2; omega
        · exact q3 j (by omega)
      · rw [r4, moved_getD (by omega), q4 i hi, netF_succ, netF_succ]
        generalize pc (ps.getD k 0) = c
        generalize sg (ps.getD k 0) = s
        repeat' split
        all_goals omega
theorem runTo_take {cs ps : List Int} {m : Nat} : ∀ k, k ≤ m → runTo cs (ps.take m) k = runTo cs ps k := by
  intro k
  induction k with
  | zero => intro _; rfl
  | succ k ih =>
    intro hk
    simp only [runTo]
    rw [ih (by omega)]
    have : (ps.take m).getD k 0 = ps.getD k 0 := by simp [List.getD_eq_getElem?_getD, show k < m by omega]
    rw [this]
theorem runTo_drop {cs ps x : List Int} {m : Nat} (h : runTo cs ps m = some x) : ∀ k, runTo x (ps.drop m) k = runTo cs ps (m + k) := by
  intro k
  induction k with
  | zero => rw [Nat.add_zero, h]; rfl
  | succ k ih =>
    rw [← Nat.add_assoc]
    simp only [runTo]
    rw [ih]
    have : (ps.drop m).getD k 0 = ps.getD (m + k) 0 := by simp [List.getD_eq_getElem?_getD, List.getElem?_drop]
    rw [this]
theorem run_facts {cs ps ds : List Int} (h : runC cs ps = some ds) : cntB cs = true ∧ cntB ds = true ∧ ds.length = cs.length ∧ netOk cs.length ps = true ∧ (netV cs.length ps).length = cs.length + 1 ∧
    (∀ i, i < cs.length → ds.getD i 0 - cs.getD i 0 = (netV cs.length ps).getD i 0 - (netV cs.length ps).getD (i + 1) 0) ∧
    ∀ m, m ≤ ps.length → ∃ x, runC cs (ps.take m) = some x ∧ runC x (ps.drop m) = some ds := by
  have hc : cntB cs = true := by
    cases e : cntB cs
    · rw [runC_not e] at h; cases h
    · rfl
  rw [runC_is hc] at h
  obtain ⟨q1, q2, q3, q4⟩ := runTo_facts hc _ _ h
  have hl := (cntB_of hc).1
  have ok : netOk cs.length ps = true := netOk_yes (by omega) (fun j hj => by have := q3 j hj; omega)
  refine ⟨hc, q2, q1, ok, ?_, ?_, ?_⟩
  · rw [netV_yes ok, Int.toNat_natCast, netL_length]
  · intro i hi
    rw [netV_yes ok, Int.toNat_natCast, netL_getD (by omega), netL_getD (by omega), q4 i hi]
    omega
  · intro m hm
    cases e : runTo cs ps m with
    | none => rw [runTo_none e hm] at h; cases h
    | some x =>
      obtain ⟨r1, r2⟩ := runTo_ok hc e
      refine ⟨x, ?_, ?_⟩
      · rw [runC_is hc, List.length_take, Nat.min_eq_left hm, runTo_take _ (Nat.le_refl _), e]
      · rw [runC_is r1, List.length_drop, runTo_drop e, show m + (ps.length - m) = ps.length by omega, h]

/-! ### Parts of a list -/
theorem add_at (a o j : Nat) : (⟨a, o, none⟩ : Addr).add j = ⟨a, o + j, none⟩ := by
  unfold Addr.add
  split
  · next h => rw [h]; rfl
  · rfl
theorem elem_ints : Try.prog.elem 23 = 3 := by kernel_rfl
theorem size_ints (w : World) : (sizeOf 3).run Try.prog w = .ok 1 w := by kernel_rfl
/-- The first m of a list. -/
theorem part_head {a : Option Addr} {c : Nat} {xs : List Int} {m : Nat} (hm : m ≤ xs.length) (hc : xs.length ≤ c) :
    ∃ u, (∀ w : World, (Instr.slice 23 (.slice a xs.length c) none (some (.int .i64 m)) none).run Try.prog w = .ok u w) ∧ ∀ w, Ints w (.slice a xs.length c) xs → Ints w u (xs.take m) := by
  have hu := Try.underlying23
  refine ⟨sliced a 0 m c 1, fun w => ?_, fun w h => ?_⟩
  · rw [run_slice_h (P := Try.prog) w 23 a xs.length c (by rw [elem_ints]; exact hu) .i64 m (by omega) (by omega), elem_ints, size_ints]
    rfl
  · obtain ⟨a', c', e, ⟨h1, h2⟩, h3⟩ := h
    simp only [Value.slice.injEq, true_and] at e
    obtain ⟨rfl, rfl⟩ := e
    have hl : (xs.take m).length = m := by rw [List.length_take, Nat.min_eq_left hm]
    unfold sliced
    refine ⟨(if c = 0 then a else a.map (·.add (0 * 1))), c - 0, by rw [hl, Nat.sub_zero], ⟨by omega, by omega⟩, ?_⟩
    rcases h3 with rfl | ⟨b, o, rfl, hb, hcell⟩
    · exact .inl (by simp)
    · refine .inr ⟨b, o, ?_, hb, fun i hi => ?_⟩
      · split
        · rfl
        · simp [add_at]
      · rw [hcell i (by omega)]
        have : (xs.take m).getD i 0 = xs.getD i 0 := by simp [List.getD_eq_getElem?_getD, show i < m by omega]
        rw [this]
/-- What is left of a list. -/
theorem part_tail {a : Option Addr} {c : Nat} {xs : List Int} {m : Nat} (hm : m ≤ xs.length) (hc : xs.length ≤ c) :
    ∃ u, (∀ w : World, (Instr.slice 23 (.slice a xs.length c) (some (.int .i64 m)) none none).run Try.prog w = .ok u w) ∧ ∀ w, Ints w (.slice a xs.length c) xs → Ints w u (xs.drop m) := by
  have hu := Try.underlying23
  refine ⟨sliced a m xs.length c 1, fun w => ?_, fun w h => ?_⟩
  · rw [run_slice_l (P := Try.prog) w 23 a xs.length c (by rw [elem_ints]; exact hu) .i64 m (by omega) (by omega), elem_ints, size_ints]
    rfl
  · obtain ⟨a', c', e, ⟨h1, h2⟩, h3⟩ := h
    simp only [Value.slice.injEq, true_and] at e
    obtain ⟨rfl, rfl⟩ := e
    have hl : (xs.drop m).length = xs.length - m := List.length_drop
    unfold sliced
    refine ⟨(if c = m then a else a.map (·.add (m * 1))), c - m, by rw [hl], ⟨by omega, by omega⟩, ?_⟩
    rcases h3 with rfl | ⟨b, o, rfl, hb, hcell⟩
    · exact .inl (by simp)
    · by_cases e : m = xs.length
      · exact .inl (List.eq_nil_of_length_eq_zero (by omega))
      · refine .inr ⟨b, o + m, ?_, hb, fun i hi => ?_⟩
        · rw [if_neg (by omega)]
          simp [add_at]
        · rw [Nat.add_assoc, hcell (m + i) (by omega)]
          have : (xs.drop m).getD i 0 = xs.getD (m + i) 0 := by simp [List.getD_eq_getElem?_getD, List.getElem?_drop]
          rw [this]

end Go.Proofs.Ytmdkfhbkdeoahaa
