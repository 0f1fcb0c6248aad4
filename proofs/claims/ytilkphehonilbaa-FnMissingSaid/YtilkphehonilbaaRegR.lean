/-
  RegisterTrains, by the program and by the model. For lists of at most 1048576 notes.
-/
import Derived.Test.YtilkphehonilbaaRegB
import Derived.Test.YtilkphehonilbaaStepA
namespace Go.Proofs.Ytilkphehonilbaa
open Go.RowKit Go.Sort

theorem lit_e (S : ByteArray) : (S.toList == [(101 : UInt8)]) = decide (S = ltS 2) := by
  have e : (ltS 2).toList = [(101 : UInt8)] := by rw [ByteArray.toList_eq]; rfl
  by_cases h : S = ltS 2
  · rw [decide_eq_true h, ← e]; exact str_eq h
  · rw [decide_eq_false h, ← e]; exact str_ne h
theorem lit_l (S : ByteArray) : (S.toList == [(108 : UInt8)]) = decide (S = ltS 4) := by
  have e : (ltS 4).toList = [(108 : UInt8)] := by rw [ByteArray.toList_eq]; rfl
  by_cases h : S = ltS 4
  · rw [decide_eq_true h, ← e]; exact str_eq h
  · rw [decide_eq_false h, ← e]; exact str_ne h
theorem ints_more {w : World} {base : Nat} {v : Value} {xs : List Int} {x : Int} (h : w.ownsRow base 3 1 v (xs.length + 1) (xs.map (Value.int .i64) ++ [.int .i64 x])) : OwnI w base v (xs ++ [x]) := by
  unfold OwnI
  rw [List.length_append, List.map_append]
  exact h

theorem own_not_entry {w : World} {base n size : Nat} {t : TypeId} {v : Value} {xs : List Value} (h : w.ownsRow base t size v n xs) (ht : t ≠ 65) : ∀ b, v.ownBlock = some b → ∀ c0 c1 c2, w.heap[b]? ≠ some (.cells #[c0, c1, c2] 65) := by
  intro b e c0 c1 c2 q
  rcases h.2 with ⟨rfl, _⟩ | ⟨g, cap, cur, rfl, hb, hg, _⟩
  · cases e
  · simp only [Value.ownBlock, Option.some.injEq] at e
    subst e
    rw [q] at hg
    simp only [Option.some.injEq, Obj.cells.injEq] at hg
    exact ht hg.2.1.symm
theorem Chain.drew {w : World} {p : Value} {ns : List Mv} (h : Chain w p ns) : Chain w.drew p ns := h.below (Below.refl _ _).drew

theorem trL_len (ns : List Mv) : (trL ns).length ≤ 1048576 := by
  unfold trL
  split
  · rename_i h
    have := trT_length ns ns.length
    have := (regB_is (sound_is h).1).1
    omega
  · simp
theorem trT_next {ns : List Mv} {i : Nat} (h : (ns.getD i noMv).2 ≠ ltS 4) : trT ns (i + 1) = trT ns i := by
  cases i with
  | zero => rfl
  | succ i => exact trT_no h

end Go.Proofs.Ytilkphehonilbaa
