/-
  The order of the trains of a section, by the model. For all lists of at most 1048576 paths.
-/
import Derived.Test.YtbpifchlmmdnaabSort
namespace Go.Proofs.Ytbpifchlmmdnaab
open Go.RowKit Go.Sort

set_option maxHeartbeats 2000000 in
theorem specPathsOrder {w : World} {v : Value} {n k : Int} {ps : List (List Int × List Int)} (h : Paths w v ps) :
    Calls Try.prog 11 #[.int .i64 n, v, .int .i64 k] w (MadeIntsB w (ordV n ps k) (hasB n ps k)) := by
  have hh := h
  obtain ⟨a, cap, rfl, hl, -⟩ := h
  have SV := Lib.hid (specPaths (n := n) hh)
  cases hp : pathsB n ps
  · have hb := hasB_paths (k := k) hp
    have HN := Lib.hid (show ordV n ps k = [] by unfold ordV; rw [hb]; rfl)
    have HB := Lib.hid hb
    rw [hp] at SV
    clear hp hh hb
    go_enter Try.func11, Try.ntmps11
    go_wp2_with (go_at_call 25; refine SV.out.mono ?_)
    rintro e w1 ⟨rfl, b1⟩
    go_wp2_with fail
    go_ret2
    exact ⟨_, by rw [HB.out]; rfl, HN.out ▸ (own_empty w1).mono b1.size, b1.alloc b1.size _⟩
  · rw [hp] at SV
    obtain ⟨⟨hn1, hn5⟩, h8, _⟩ := pathsB_is hp
    have hw1 : IntKind.i64.wrap (n - 1) = n - 1 := IntWalk.i64_in _ (by omega)
    by_cases hk : 0 ≤ k ∧ k < n
    · have hb := hasB_yes hp hk
      obtain ⟨k, rfl⟩ : ∃ m : Nat, k = (m : Int) := ⟨k.toNat, by omega⟩
      have HN := Lib.hid (show ordV n ps (k : Int) = orderOf ps k by unfold ordV; rw [hb, if_pos rfl, Int.toNat_natCast])
      have HB := Lib.hid hb
      have hk1 : (k : Int) ≤ n - 1 := by omega
      have hk0 : (0 : Int) ≤ (k : Int) := by omega
      have SO := Lib.hid (fun (X : World) (c : Below w.heap.size w X) => specOrder (hh.below c) hp hk.2)
      clear hp hk hb hh
      go_enter Try.func11, Try.ntmps11
      go_wp2_with (go_at_call 25; refine SV.out.mono ?_)
      rintro e w1 ⟨rfl, b1⟩
      go_wp2_with (first | (go_at_call 26; refine (in_yes _ _ _ _ hk0 hk1).mono ?_; rintro e w' ⟨rfl, rfl⟩) | (go_at_call 27; refine (SO.out _ b1).mono ?_; rintro e w2 ⟨v2, rfl, o2, b2⟩))
      go_ret2
      exact ⟨_, by rw [HB.out]; rfl, HN.out ▸ o2.mono b1.size, b1.trans (b2.mono b1.size)⟩
    · have hb : hasB n ps k = false := by
        cases e : hasB n ps k
        · rfl
        · exact absurd (hasB_is e).2 (fun q => hk ⟨q.1, q.2⟩)
      have HN := Lib.hid (show ordV n ps k = [] by unfold ordV; rw [hb]; rfl)
      have HB := Lib.hid hb
      have hno : k < 0 ∨ n - 1 < k := by omega
      clear hp hk hb hh
      go_enter Try.func11, Try.ntmps11
      go_wp2_with (go_at_call 25; refine SV.out.mono ?_)
      rintro e w1 ⟨rfl, b1⟩
      go_wp2_with (go_at_call 26; refine (in_no _ _ _ _ hno).mono ?_; rintro e w' ⟨rfl, rfl⟩)
      go_ret2
      exact ⟨_, by rw [HB.out]; rfl, HN.out ▸ (own_empty w1).mono b1.size, b1.alloc b1.size _⟩

theorem ordV_length (n : Int) (ps : List (List Int × List Int)) (k : Int) : (ordV n ps k).length ≤ ps.length := by
  unfold ordV
  split
  · rw [order_len]; exact Nat.le_refl _
  · simp

end Go.Proofs.Ytbpifchlmmdnaab
