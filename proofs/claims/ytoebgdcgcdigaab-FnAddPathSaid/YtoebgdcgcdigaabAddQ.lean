/-
  The orders and the busy minutes of sections when a path is added, plainly. No walk.
-/
import Derived.Test.YtoebgdcgcdigaabPathP
namespace Go.Proofs.Ytoebgdcgcdigaab

theorem insI_congr {f g : Int → Int} {x : Int} {ys : List Int} (hx : f x = g x) (h : ∀ y, y ∈ ys → f y = g y) : insI f x ys = insI g x ys := by
  induction ys with
  | nil => rfl
  | cons y ys ih =>
    unfold insI
    rw [hx, h y (by simp), ih fun z hz => h z (by simp [hz])]
theorem ordTo_congr {f g : Int → Int} : ∀ (i : Nat), (∀ j : Nat, j < i → f j = g j) → ordTo f i = ordTo g i := by
  intro i
  induction i with
  | zero => intro _; rfl
  | succ i ih =>
    intro h
    show insI f i (ordTo f i) = insI g i (ordTo g i)
    rw [ih fun j hj => h j (by omega)]
    refine insI_congr (h i (by omega)) fun y hy => ?_
    obtain ⟨j, hj, rfl⟩ := ordTo_mem.1 hy
    exact h j (by omega)
/-- Without the number that was put in, the list is what it was. -/
theorem insI_without {f : Int → Int} {x : Int} {ys : List Int} (h : x ∉ ys) : (insI f x ys).filter (fun y => y != x) = ys := by
  have all : ∀ zs : List Int, x ∉ zs → zs.filter (fun y => y != x) = zs := fun zs hz => List.filter_eq_self.2 fun a ha => by
    have : a ≠ x := fun e => hz (e ▸ ha)
    simpa using this
  induction ys with
  | nil => simp [insI]
  | cons y ys ih =>
    have h1 : x ∉ ys := fun e => h (by simp [e])
    have h2 : (y != x) = true := by
      have : y ≠ x := fun e => h (by simp [e])
      simpa using this
    unfold insI
    split
    · rw [List.filter_cons, if_pos h2, ih h1]
    · rw [List.filter_cons, if_neg (by simp), all _ h]
theorem add_order (ps : List (List Int × List Int)) (p : List Int × List Int) (k : Nat) : (orderOf (ps ++ [p]) k).filter (fun y => y != (ps.length : Int)) = orderOf ps k := by
  unfold orderOf
  rw [List.length_append]
  show (insI (inF (ps ++ [p]) k) ps.length (ordTo (inF (ps ++ [p]) k) ps.length)).filter _ = _
  rw [insI_without fun h => by
    obtain ⟨j, hj, e⟩ := ordTo_mem.1 h
    omega]
  refine ordTo_congr _ fun j hj => ?_
  unfold inF inAt
  rw [Int.toNat_natCast, add_getD _ _ hj]
theorem add_busyTo (ps : List (List Int × List Int)) (p : List Int × List Int) (k : Nat) : ∀ i, i ≤ ps.length → busyTo (ps ++ [p]) k i = busyTo ps k i := by
  intro i
  induction i with
  | zero => intro _; rfl
  | succ i ih =>
    intro hi
    simp only [busyTo]
    rw [ih (by omega), add_getD _ _ (by omega)]
theorem add_busy (ps : List (List Int × List Int)) (p : List Int × List Int) (k : Nat) : busyTo (ps ++ [p]) k (ps ++ [p]).length = busyTo ps k ps.length + (p.2.getD k 0 - p.1.getD k 0) := by
  rw [List.length_append]
  show busyTo (ps ++ [p]) k ps.length + _ = _
  rw [add_busyTo ps p k _ (Nat.le_refl _), add_last]

end Go.Proofs.Ytoebgdcgcdigaab
