/-
  What the methods of a string of digits return: its beats, its list, its text; for lists of at most 1048576 groups.
-/
import Derived.Test.YtcfnklpbiodhjaaGroups
import Derived.Test.YtcfnklpbiodhjaaLaws
namespace Go.Proofs.Ytcfnklpbiodhjaa
open Go.RowKit

/-- The string S holds the groups xs as digits. -/
def IsDg (S : ByteArray) (xs : List Int) : Prop := S = ⟨(dg xs).toArray⟩ ∧ okGroups xs = true ∧ xs.length ≤ 1048576

theorem IsDg.size {S : ByteArray} {xs : List Int} (h : IsDg S xs) : S.size = xs.length := by
  rw [h.1]
  show (dg xs).toArray.size = _
  simp [dg]

theorem IsDg.next {P : Program} {S : ByteArray} {xs : List Int} (h : IsDg S xs) {k K : Nat} (hk : k < xs.length) {w : World} (hit : w.heap[K]? = some (.stringIter S k)) (ty : TypeId) :
    (Instr.next (.pointer (some ⟨K, 0, none⟩)) true ty).run P w = .ok (.tuple #[.bool true, .int .i64 k, .int .i32 (48 + xs.getD k 0)]) (w.iterAt K S (k + 1)) := by
  have hr := okGroups_get h.2.1 k hk
  have hs := h.size
  have hb : ((S[k]'(by omega)).toNat : Int) = 48 + xs.getD k 0 := by
    have e : S[k]'(by omega) = digit (xs.getD k 0) := by
      obtain ⟨rfl, _⟩ := h
      show (dg xs).toArray[k]'(by simp [dg]; omega) = _
      simp [dg, hk]
    rw [e]
    exact digit_toNat (by omega) (by omega)
  rw [Lib.run_next_ascii_at w K S k ty hit (by omega) (by omega), hb]

theorem IsDg.stop {P : Program} {S : ByteArray} {xs : List Int} (h : IsDg S xs) {K : Nat} {w : World} (hit : w.heap[K]? = some (.stringIter S xs.length)) (ty : TypeId) :
    (Instr.next (.pointer (some ⟨K, 0, none⟩)) true ty).run P w = .ok (.tuple #[.bool false]) w :=
  Lib.run_next_end_at w K S xs.length ty hit (by rw [h.size]; omega)

theorem IsDg.of {xs : List Int} {lo hi : Int} (h : groupsB xs lo hi = true) (hl : xs.length ≤ 1048576) : IsDg ⟨(dg xs).toArray⟩ xs := ⟨rfl, (groupsB_ok h).1, hl⟩

theorem own_not_iter {w : World} {base E : Nat} {v : Value} {n : Nat} {ys : List Value} (h : w.ownsRow base E 1 v n ys) {K : Nat} {S : ByteArray} {p : Nat} (hit : w.heap[K]? = some (.stringIter S p)) : v.ownBlock ≠ some K := by
  rcases h.2 with ⟨rfl, _⟩ | ⟨g, cap, cur, rfl, _, hg, _⟩
  · simp [Value.ownBlock]
  · intro e
    simp [Value.ownBlock] at e
    subst e
    rw [hg] at hit
    cases hit

theorem own_iterAt {w : World} {base E : Nat} {v : Value} {n : Nat} {ys : List Value} (h : w.ownsRow base E 1 v n ys) {K : Nat} {S : ByteArray} {p q : Nat} (hit : w.heap[K]? = some (.stringIter S p)) : (w.iterAt K S q).ownsRow base E 1 v n ys :=
  h.kept (row := some K) ⟨rfl, rfl, rfl, by rw [Lib.iterAt_size]; exact Nat.le_refl _, fun k _ hk => Lib.iterAt_other w K k S q (fun e => hk (by rw [e]))⟩ (.inr (own_not_iter h hit))

end Go.Proofs.Ytcfnklpbiodhjaa
