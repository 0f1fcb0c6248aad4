/-
  The groups of a code in the opposite order, by the model and by the program: for lists of at most 1048576 integers.
-/
import Derived.Test.YtoebgdcgcdigaaaBegins
import Derived.Test.YtoebgdcgcdigaaaResults
import Derived.Sort.OwnSortedInts
namespace Go.Proofs.Ytoebgdcgcdigaaa
open Go.RowKit

theorem reverseInts {w : World} {base : Nat} {v : Value} {xs : List Int} (h : OwnI w base v xs) (hl : xs.length ≤ 1048576) :
    Calls Try.prog 63 #[v] w fun e w' => e = .returned (.tuple #[]) ∧ OwnI w' base v xs.reverse ∧ w.grownBy w' v.ownBlock := by
  have hlen := h.1
  rcases h.2 with ⟨rfl, h0⟩ | ⟨g, cap, cur, rfl, hb, hg, hnc, hcm, hcs, htake⟩
  · have hx : xs = [] := List.eq_nil_of_length_eq_zero h0
    subst hx
    refine (Try.slices_Reverse_int_empty none 0 w).mono ?_
    rintro e w' ⟨rfl, rfl⟩
    exact ⟨rfl, h, World.grownBy.refl _ _⟩
  · refine (Try.slices_Reverse_int g 0 cap xs w (holds_of_blockI hg (by rw [Nat.mul_one] at htake; exact htake)) (by omega)).mono ?_
    rintro e w' ⟨rfl, n, rfl⟩
    refine ⟨rfl, ?_, ?_⟩
    · have := ownsRow_sortedI (os := #[]) (n := n) (ss := xs) (ts := xs.reverse) (by simp) hb hg hnc hcm hcs
      rw [Sort.grow_empty] at this
      unfold OwnI
      rw [List.length_reverse]
      exact this
    · have := grownBy_sortedI (w := w) (g := g) (n := n) (os := #[]) xs.reverse.toArray
      rw [Sort.grow_empty] at this
      exact this

/-- A code in the opposite order, or nothing. -/
def backOf (xs : List Int) : List Int := if groupsB xs 1 5 then xs.reverse else []
theorem rev_succ (xs : List Int) (k : Nat) (h : k < xs.length) : xs.reverse.take (k + 1) = xs.reverse.take k ++ [xs.getD (xs.length - 1 - k) 0] := by
  rw [List.take_succ_eq_append_getElem (by simpa using h)]
  have h1 : xs.length - 1 - k < xs.length := by omega
  simp [h1]

set_option maxHeartbeats 400000 in
theorem implBack {w : World} {v : Value} {xs : List Int} (h : Ints w v xs) :
    Calls Try.prog 19 #[v] w (MadeIntsB w (backOf xs) (groupsB xs 1 5)) := by
  cases hv : groupsB xs 1 5
  · have e1 : backOf xs = [] := by simp [backOf, hv]
    rw [e1]
    clear e1
    go_enter Try.func19, Try.ntmps19
    go_wp2_with (go_at_call 56; refine (codeOf h).mono ?_)
    rintro e w1 ⟨rfl, b1⟩
    go_wp2_with fail
    go_ret2
    exact ⟨_, rfl, World.ownsRow_nil _ _ _ _, b1⟩
  · have e1 : backOf xs = xs.reverse := by simp [backOf, hv]
    have hS : IsDg (codeStr xs) xs := by unfold codeStr; rw [if_pos hv]; exact .of hv h.len
    have HS := Lib.hid hS
    clear hS
    rw [e1]
    clear e1
    go_enter Try.func19, Try.ntmps19
    go_wp2_with (go_at_call 56; refine (codeOf h).mono ?_)
    rintro e w1 ⟨rfl, b1⟩
    go_wp2_with (go_at_call 62; refine (gList HS.out).mono ?_)
    rintro e w2 ⟨u, rfl, o2, b2⟩
    go_wp2_with (go_at_call 63; refine (reverseInts o2 h.len).mono ?_)
    rintro e w3 ⟨rfl, o3, g3⟩
    go_wp2_with fail
    go_ret2
    have b3 : Below w1.heap.size w1 w3 := b2.grown g3 b2.size (fun k hk => (World.ownsRow.lt o2 k hk).1)
    exact ⟨_, rfl, o3.mono b1.size, chain b1 b3⟩

set_option maxHeartbeats 400000 in
theorem specBack {w : World} {v : Value} {xs : List Int} (h : Ints w v xs) :
    Calls Try.prog 20 #[v] w (MadeIntsB w (backOf xs) (groupsB xs 1 5)) := by
  have h0 := h.below ((Below.refl w.heap.size w).alloc (Nat.le_refl _) (.cells #[] 3))
  have k1 := h
  obtain ⟨a, cap, rfl, hl, hc⟩ := k1
  have hl' : (xs.length : Int) ≤ 1048576 := by omega
  have ho := own_empty w
  cases hv : groupsB xs 1 5
  · have e1 : backOf xs = [] := by simp [backOf, hv]
    rw [e1]
    clear e1
    go_enter Try.func20, Try.ntmps20
    go_wp2_with (go_at_call 58; refine (specCodeValid h0).mono ?_)
    rintro e w1 ⟨rfl, rfl⟩
    go_wp2_with fail
    go_ret2
    exact ⟨_, rfl, ho, (Below.refl _ _).alloc (Nat.le_refl _) _⟩
  · have e1 : backOf xs = xs.reverse := by simp [backOf, hv]
    rw [e1]
    clear e1
    obtain ⟨i0, hi, hz0, hz1, hz2⟩ := info_parts info_int
    rcases hc with rfl | ⟨b, o, rfl, hb, hcell⟩
    · simp [groupsB] at hv
    · have HC := Lib.hid hcell
      have ho' : (w.alloc (.cells #[] 3)).ownsRow w.heap.size 3 1 (.slice (some ⟨w.heap.size, 0, none⟩) 0 0) 0 ((xs.reverse.take 0).map (Value.int .i64)) := by rw [List.take_zero]; exact ho
      clear hcell ho
      go_enter Try.func20, Try.ntmps20
      go_wp2_with (go_at_call 58; refine (specCodeValid h0).mono ?_)
      rintro e w1 ⟨rfl, rfl⟩
      go_wp2_with fail
      go_loopw [4, 5] (fun v i wr => ∃ k : Nat, k ≤ xs.length ∧ i = .int .i64 ((xs.length : Int) - 1 - k) ∧ wr.ownsRow w.heap.size 3 1 v k ((xs.reverse.take k).map (Value.int .i64)) ∧ Below w.heap.size w wr) (fun _ i _ => (intOf i + 1).toNat)
      case atStart => exact ⟨0, by omega, by go_num, ho', (Below.refl _ _).alloc (Nat.le_refl _) _⟩
      case round =>
        obtain ⟨k, hk, rfl, hown, hbel⟩ := hrel
        have hsz := hbel.size
        by_cases hlt : k < xs.length
        · obtain ⟨x, hx⟩ : ∃ x, x = xs.getD (xs.length - 1 - k) 0 := ⟨_, rfl⟩
          obtain ⟨j, hj⟩ : ∃ j : Nat, j = xs.length - 1 - k := ⟨_, rfl⟩
          have hc1 : wr.cell? ⟨b, o + j, none⟩ = some (.int .i64 x) := by rw [hx, hj]; exact (hbel.cell (p := ⟨b, o + (xs.length - 1 - k), none⟩) hb).trans (HC.out _ (by omega))
          have hj1 : (xs.length : Int) - 1 - (k : Int) = (j : Int) := by omega
          have hj2 : (j : Int) < (xs.length : Int) := by omega
          have HX := Lib.hid hx
          clear hx hj
          have HJ := Lib.hid hj1
          rw [hj1]
          clear hj1
          go_wp2_with (at_builtin; refine wpList_append_own _ rfl _ _ 23 rfl w.heap.size 3 i0 (.int .i64 0) 1 8 Try.underlying23 hi hz0 hz1 hz2 rfl (by decide) _ _ _ rfl (hown.alloc _) ⟨wr.heap.size, 0, none⟩ 1 1 [.int .i64 x] rfl rfl ?c1 ?c2 ?c3 ?c4 ?c5 ?_)
          case c1 => exact cell_one_new _ _ _
          case c2 => intro u hu; simp at hu; subst hu; rfl
          case c3 => simp only [maxLen]; omega
          case c4 => omega
          case c5 => simp; omega
          intro v' w2 hown' hgrow _
          have HB := Lib.hid ((hbel.alloc (by omega) _).grown hgrow (by simp; omega) (fun g hg => (hown.lt g hg).1))
          have HO := Lib.hid hown'
          clear hown' hgrow hown hbel
          go_wp2_with fail
          go_roundw
          case rel =>
            refine ⟨k + 1, by omega, by have := HJ.out; go_num, ?_, HB.out⟩
            have ho := HO.out
            rw [HX.out, ← List.map_reverse, ← List.map_take] at ho
            rw [rev_succ _ _ hlt, List.map_append]
            exact ho
          case measure => have := HJ.out; simp [intOf] <;> omega
        · obtain rfl : k = xs.length := by omega
          have hneg : (xs.length : Int) - 1 - (xs.length : Int) = -1 := by omega
          rw [hneg]
          clear hneg
          go_wp2_with fail
          go_ret2
          refine ⟨_, rfl, ?_, hbel⟩
          have e : xs.reverse.take xs.length = xs.reverse := List.take_of_length_le (by simp)
          rw [e] at hown
          unfold OwnI
          rw [List.length_reverse]
          exact hown

theorem backOf_length (xs : List Int) : (backOf xs).length ≤ xs.length := by
  unfold backOf
  split <;> simp

end Go.Proofs.Ytoebgdcgcdigaaa
