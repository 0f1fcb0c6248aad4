/-
  Steps of texts and steps of tracks are the same; a list of tracks plainly. No walk.
-/
import Derived.Test.YtilkphehonilbaaDoorTrkW
import Derived.Test.YtilkphehonilbaaDoorTrkX
import Derived.Test.YtilkphehonilbaaDoorEls
namespace Go.Proofs.YtilkphehonilbaaDoor
open Go.RowKit Go.Sort

theorem isB_iff {S T : ByteArray} : ∀ k, isB S T k = true ↔ ∃ i : Nat, i < k ∧ spB S i = true ∧ spS S i = T := by
  intro k
  induction k with
  | zero => simp [isB]
  | succ k ih =>
    simp only [isB, Bool.or_eq_true, Bool.and_eq_true, decide_eq_true_eq]
    rw [ih]
    constructor
    · rintro (⟨i, h1, h2, h3⟩ | ⟨h2, h3⟩)
      · exact ⟨i, by omega, h2, h3⟩
      · exact ⟨k, by omega, h2, h3⟩
    · rintro ⟨i, h1, h2, h3⟩
      by_cases e : i = k
      · subst e; exact .inr ⟨h2, h3⟩
      · exact .inl ⟨i, by omega, h2, h3⟩
theorem isB_is {S T : ByteArray} (hS : trB S = true) (hT : trB T = true) : isB S T S.size = (decide (S.size = T.size) && isSt S.size (oc S) (oc T)) := by
  have ho := (oc_lt2 hS).1
  cases hb : isB S T S.size with
  | true =>
    obtain ⟨i, hi, h2, h3⟩ := (isB_iff _).1 hb
    have hc : can S.size (oc S) i = true := by rw [← spB_in hS hi]; exact h2
    have e : spS S i = trS S.size (fl (oc S) i) := by rw [spS_yes h2, Int.toNat_natCast]
    have hz : S.size = T.size := by rw [← h3, e, trS_size]
    have hf : fl (oc S) i = oc T := by rw [← h3, e, oc_of (fl_lt hi ho)]
    rw [decide_eq_true hz, isSt_of hi hc hf]
    rfl
  | false =>
    cases hr : (decide (S.size = T.size) && isSt S.size (oc S) (oc T)) with
    | false => rfl
    | true =>
      simp only [Bool.and_eq_true, decide_eq_true_eq] at hr
      obtain ⟨i, hi, hc, hf⟩ := isSt_is hr.2
      have h2 : spB S i = true := by rw [spB_in hS hi]; exact hc
      have h3 : spS S i = T := by rw [spS_yes h2, Int.toNat_natCast, hf, tr_is hT, hr.1, oc_of (oc_lt2 hT).1]
      have := (isB_iff (S := S) (T := T) S.size).2 ⟨i, hi, h2, h3⟩
      rw [hb] at this
      cases this
/-- The cells of a list of tracks. -/
def tkF (xs : List ByteArray) (q : Nat) : Value := if q % 2 = 0 then .int .u64 (oc (xs.getD (q / 2) ⟨#[]⟩) : Nat) else .int .i64 ((xs.getD (q / 2) ⟨#[]⟩).size : Nat)
theorem tkF_even (xs : List ByteArray) (i : Nat) : tkF xs (i * 2) = .int .u64 (oc (xs.getD i ⟨#[]⟩) : Nat) := by
  unfold tkF
  rw [if_pos (by omega), show i * 2 / 2 = i by omega]
theorem tkF_odd (xs : List ByteArray) (i : Nat) : tkF xs (i * 2 + 1) = .int .i64 ((xs.getD i ⟨#[]⟩).size : Nat) := by
  unfold tkF
  rw [if_neg (by omega), show (i * 2 + 1) / 2 = i by omega]
theorem tkF_more (xs : List ByteArray) (k : Nat) : (List.range (k * 2)).map (tkF xs) ++ [.int .u64 (oc (xs.getD k ⟨#[]⟩) : Nat), .int .i64 ((xs.getD k ⟨#[]⟩).size : Nat)] = (List.range ((k + 1) * 2)).map (tkF xs) := by
  rw [show (k + 1) * 2 = k * 2 + 1 + 1 by omega, List.range_succ, List.range_succ, List.map_append, List.map_append]
  simp only [List.map_cons, List.map_nil, List.append_assoc, List.cons_append, List.nil_append]
  rw [tkF_even, tkF_odd]

end Go.Proofs.YtilkphehonilbaaDoor
