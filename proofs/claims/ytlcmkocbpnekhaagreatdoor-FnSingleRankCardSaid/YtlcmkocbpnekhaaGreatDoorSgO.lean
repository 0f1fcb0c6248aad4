/-
  The best order and the soonest end: the model's SingleBest and SingleSoon.
-/
import Derived.Test.YtlcmkocbpnekhaaGreatDoorSgN
import Derived.Deep.DeepCutAuto
import Derived.Deep.RegionHeld3
namespace Go.Proofs.YtlcmkocbpnekhaaGreatDoor
open Go.RowKit Go.Sort

theorem allF_pos (n : Nat) : ∀ u d, u + d = n → 0 < (allF n u d).length := by
  induction n with
  | zero => intro u d _; simp [allF]
  | succ n ih =>
    intro u d h
    rw [allF, List.length_append]
    by_cases hd : 0 < d
    · rw [if_pos hd, List.length_map]; have := ih u (d - 1) (by omega); omega
    · rw [if_pos (show 0 < u by omega), List.length_map]; have := ih (u - 1) d (by omega); omega
theorem ords_pos (s : Sg) : 0 < (ords s).length := allF_pos _ _ _ rfl
theorem waitV_nonneg {s : Sg} {o : ByteArray} (h : sgO s o = true) : 0 ≤ waitV s o := by
  rw [waitV_yes h]
  have : ∀ k, k ≤ o.size → 0 ≤ wtTo s o k := by
    intro k
    induction k with
    | zero => intro _; exact Int.le_refl _
    | succ k ih =>
      intro hk
      have h1 := ih (by omega)
      have h2 := (stA_range h (k := k) (by omega)).1
      simp only [wtTo]; omega
  exact this _ (Nat.le_refl _)
theorem endV_nonneg {s : Sg} {o : ByteArray} (h : sgO s o = true) : 0 ≤ endV s o := by
  rcases Nat.eq_zero_or_pos o.size with h0 | h0
  · rw [endV_nil h h0]; exact Int.le_refl _
  · obtain ⟨k, hk⟩ : ∃ k, o.size = k + 1 := ⟨o.size - 1, by omega⟩
    rw [endV_yes h hk]
    have := (stA_nonneg h (k := k) (by omega)).1
    have := (sgO_of h).1.run1
    omega
def JB (f : ByteArray → Int) (L : List ByteArray) (i b : Nat) : Prop := b < L.length ∧ (i = 0 → b = 0) ∧ (0 < i → lsOf f (L.take i) = (L.getD b ⟨#[]⟩, f (L.getD b ⟨#[]⟩)))
theorem JB.yes {f : ByteArray → Int} {L : List ByteArray} {i b : Nat} (h : JB f L i b) (hi : i < L.length) (hl : f (L.getD i ⟨#[]⟩) < f (L.getD b ⟨#[]⟩)) : JB f L (i + 1) i := by
  refine ⟨hi, fun q => absurd q (by omega), fun _ => ?_⟩
  rw [take_next' L hi, lsOf_add]
  rcases Nat.eq_zero_or_pos i with h0 | h0
  · have := h.2.1 h0; rw [h0, this] at hl; exact absurd hl (Int.lt_irrefl _)
  · rw [h.2.2 h0]; unfold lsStep; rw [if_pos (.inr hl)]
theorem JB.no {f : ByteArray → Int} {L : List ByteArray} {i b : Nat} (h : JB f L i b) (hn : ∀ o ∈ L, 0 ≤ f o) (hi : i < L.length) (hl : ¬ f (L.getD i ⟨#[]⟩) < f (L.getD b ⟨#[]⟩)) : JB f L (i + 1) b := by
  refine ⟨h.1, fun q => absurd q (by omega), fun _ => ?_⟩
  rw [take_next' L hi, lsOf_add]
  rcases Nat.eq_zero_or_pos i with h0 | h0
  · have := h.2.1 h0
    rw [h0, this, List.take_zero]; unfold lsStep lsOf; simp
  · rw [h.2.2 h0]; unfold lsStep
    have := hn _ (getD_in h.1)
    rw [if_neg (fun q => by rcases q with q | q; exact absurd this (Int.not_le.2 q); exact hl q)]
theorem JB.done {f : ByteArray → Int} {L : List ByteArray} {b : Nat} (h : JB f L L.length b) : L.getD b ⟨#[]⟩ = (lsOf f L).1 := by
  have := h.2.2 (by have := h.1; omega)
  rw [List.take_length] at this
  rw [this]
def JS (f : ByteArray → Int) (L : List ByteArray) (i : Nat) (l : Int) : Prop := 0 ≤ l ∧ (i = 0 → l = f (L.getD 0 ⟨#[]⟩)) ∧ (0 < i → (lsOf f (L.take i)).2 = l)
theorem JS.step {f : ByteArray → Int} {L : List ByteArray} {i : Nat} {l : Int} (h : JS f L i l) (hn : ∀ o ∈ L, 0 ≤ f o) (hi : i < L.length) : JS f L (i + 1) (min l (f (L.getD i ⟨#[]⟩))) := by
  have h1 := hn _ (getD_in hi)
  have h2 := h.1
  refine ⟨by omega, fun q => absurd q (by omega), fun _ => ?_⟩
  rw [take_next' L hi, lsOf_add]
  rcases Nat.eq_zero_or_pos i with h0 | h0
  · have := h.2.1 h0
    rw [h0, this, List.take_zero]; unfold lsStep lsOf; simp
  · have e := h.2.2 h0
    unfold lsStep
    rw [e]
    split
    · show f _ = _; omega
    · rw [e]; omega
theorem JS.done {f : ByteArray → Int} {L : List ByteArray} {l : Int} (h : JS f L L.length l) (hp : 0 < L.length) : l = (lsOf f L).2 := by
  have := h.2.2 hp
  rw [List.take_length] at this
  exact this.symm

end Go.Proofs.YtlcmkocbpnekhaaGreatDoor
