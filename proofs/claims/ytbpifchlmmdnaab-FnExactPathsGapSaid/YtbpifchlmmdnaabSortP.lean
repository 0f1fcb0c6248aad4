/-
  The one order of the numbers of trains, plainly; rows of numbers below a bound that the library sorts. No walk.
-/
import Derived.Test.YtbpifchlmmdnaabOrdP
import Derived.Test.YtbpifchlmmdnaabShelf
import Derived.Sort.OwnSortedInts
namespace Go.Proofs.Ytbpifchlmmdnaab
open Go.RowKit Go.Sort

theorem insI_perm (f : Int → Int) (x : Int) (ys : List Int) : (insI f x ys).Perm (x :: ys) := by
  induction ys with
  | nil => exact List.Perm.refl _
  | cons y ys ih =>
    unfold insI
    split
    · exact ((List.Perm.cons y ih).trans (List.Perm.swap x y ys))
    · exact List.Perm.refl _
/-- The numbers below i. -/
def upTo (i : Nat) : List Int := (List.range i).map fun (j : Nat) => (j : Int)
theorem upTo_succ (i : Nat) : upTo (i + 1) = upTo i ++ [(i : Int)] := by simp [upTo, List.range_succ]
theorem ordTo_perm (f : Int → Int) (i : Nat) : (ordTo f i).Perm (upTo i) := by
  induction i with
  | zero => exact List.Perm.refl _
  | succ i ih =>
    rw [upTo_succ]
    refine (insI_perm f i (ordTo f i)).trans ((List.Perm.cons (i : Int) ih).trans ?_)
    exact (List.perm_append_singleton (i : Int) (upTo i)).symm
/-- A list of these numbers, none ahead of a lesser one, is the order. -/
theorem order_one {f : Int → Int} {i : Nat} {L : List Int} (hp : L.Perm (upTo i)) (hs : L.Pairwise (fun a b => f a ≤ f b)) (hf : ∀ a, a ∈ upTo i → ∀ b, b ∈ upTo i → f a = f b → a = b) : L = ordTo f i := by
  refine List.Perm.eq_of_pairwise (le := fun a b => f a ≤ f b) (fun a b ha hb h1 h2 => ?_) hs ((ordTo_pairs f i).imp fun h => h.2) (hp.trans (ordTo_perm f i).symm)
  exact hf a (hp.mem_iff.1 ha) b ((ordTo_perm f i).mem_iff.1 hb) (Int.le_antisymm h1 h2)
theorem upTo_mem {i : Nat} {a : Int} : a ∈ upTo i ↔ ∃ j : Nat, j < i ∧ a = j := by
  simp only [upTo, List.mem_map, List.mem_range]
  constructor
  · rintro ⟨j, h, e⟩; exact ⟨j, h, e.symm⟩
  · rintro ⟨j, h, e⟩; exact ⟨j, h, e.symm⟩

/-! ### Numbers below a bound, as values -/

def encF (m : Nat) (i : Fin (m + 1)) : Value := .int .i64 ((i.val : Nat) : Int)
def asI {m : Nat} (i : Fin (m + 1)) : Int := ((i.val : Nat) : Int)
theorem putRowF (m : Nat) (w : World) (blk : Nat) (d : Array (Fin (m + 1))) : putRow (encF m) w blk 0 d = putRow (Value.int .i64) w blk 0 (d.map asI) := by
  unfold putRow
  congr 1
  funext c
  unfold putCells
  apply Array.ext_getElem?
  intro k
  simp only [Array.getElem?_mapIdx, Array.size_map]
  cases c[k]? with
  | none => rfl
  | some x =>
    simp only [Option.map_some, Nat.zero_add, Nat.zero_le, true_and, Nat.sub_zero]
    by_cases h : k < d.size
    · rw [if_pos h, if_pos h]
      simp [encF, asI, h]
    · rw [if_neg h, if_neg h]
/-- All of them, ascending. -/
def allF (m : Nat) : Array (Fin (m + 1)) := Array.ofFn (fun i : Fin (m + 1) => i)
theorem allF_size (m : Nat) : (allF m).size = m + 1 := by simp [allF]
theorem allF_asI (m : Nat) : ((allF m).map asI).toList = upTo (m + 1) := by
  apply List.ext_getElem
  · simp [allF, upTo]
  · intro i h1 h2
    simp only [Array.getElem_toList, Array.getElem_map, allF, Array.getElem_ofFn, asI, upTo, List.getElem_map, List.getElem_range]
theorem holdsF {m : Nat} {w : World} {g : Nat} (h : Holds (Value.int .i64) w g 0 ((allF m).map asI)) : Holds (encF m) w g 0 (allF m) := by
  intro j hj
  have := h j (by simpa using hj)
  simpa [encF, asI, hj] using this
/-- What the library hands back, as numbers. -/
theorem sorted_is {m : Nat} {f : Int → Int} {cf : Fin (m + 1) → Fin (m + 1) → Int} (hcf : ∀ x y, cf x y = f (asI x) - f (asI y)) (hf : ∀ a, a ∈ upTo (m + 1) → ∀ b, b ∈ upTo (m + 1) → f a = f b → a = b)
    {d' : Array (Fin (m + 1))} (hp : PermIn 0 (allF m).size (allF m) d') (hs : SortedIn (ltOf cf) 0 (allF m).size d') : (d'.map asI).toList = ordTo f (m + 1) := by
  obtain ⟨h1, _, h3⟩ := hp
  rw [Array.extract_size] at h3
  rw [← h1, Array.extract_size] at h3
  refine order_one ?_ ?_ hf
  · rw [← allF_asI, Array.toList_map, Array.toList_map]
    exact h3.map asI
  · rw [List.pairwise_iff_getElem]
    intro i j hi hj hij
    have hi' : i < d'.size := by simpa using hi
    have hj' : j < d'.size := by simpa using hj
    have q := hs i j (Nat.zero_le _) hij (by rw [← h1]; exact hj')
    unfold ltOf at q
    have q := of_decide_eq_false q
    rw [hcf] at q
    simp only [Array.getElem_toList, Array.getElem_map]
    simp only [getElem!_pos d' i hi', getElem!_pos d' j hj'] at q
    omega
/-- The difference of two numbers is a weak order. -/
theorem swoF {m : Nat} {f : Int → Int} {cf : Fin (m + 1) → Fin (m + 1) → Int} (hcf : ∀ x y, cf x y = f (asI x) - f (asI y)) : SWO (ltOf cf) := by
  constructor
  · intro x; unfold ltOf; rw [hcf]; exact decide_eq_false (by omega)
  · intro x y z h1 h2
    unfold ltOf at *
    have h1 := of_decide_eq_true h1
    have h2 := of_decide_eq_true h2
    rw [hcf] at h1 h2 ⊢
    exact decide_eq_true (by omega)
  · intro x y z h1 h2
    unfold ltOf at *
    have h1 := of_decide_eq_false h1
    have h2 := of_decide_eq_false h2
    rw [hcf] at h1 h2 ⊢
    exact decide_eq_false (by omega)
/-- In the worlds that the sort passes through, what lies elsewhere. -/
theorem cell_sortWorld {α : Type} [Inhabited α] (enc : α → Value) {w : World} {blk m : Nat} {dk : Array α} {os : Array Obj} {a : Addr} {v : Value} (h : w.cell? a = some v) (hb : a.block ≠ blk) : (sortWorld enc w blk 0 m dk os).cell? a = some v := by
  have hlt := block_lt_of_cell h
  unfold sortWorld
  rw [cell?_grow _ _ _ (by simpa [putRow, mapBlock] using hlt), cell?_putRow_other _ _ _ _ _ _ (.inl hb), cell?_ahead]
  exact h
end Go.Proofs.Ytbpifchlmmdnaab
