/-
  How busy a section is, by the model and by the program: 'busyOf', for every number of sections, all lists of at most 1048576 paths, every section.
-/
import Derived.Test.YtoebgdcgcdigaaaPathsI
import Derived.Test.YtoebgdcgcdigaaaPathP
import Derived.Deep.DeepCutAuto
namespace Go.Proofs.Ytoebgdcgcdigaaa
open Go.RowKit Go.Sort

set_option maxHeartbeats 1000000 in
theorem hasSection {w : World} {v : Value} {n k : Int} {ps : List (List Int × List Int)} (h : Paths w v ps) :
    Calls Try.prog 100 #[.int .i64 n, v, .int .i64 k] w fun e w' => e = .returned (.bool (hasB n ps k)) ∧ Below w.heap.size w w' := by
  have SV := Lib.hid (implPaths (n := n) h)
  clear h
  cases hp : pathsB n ps
  · have HN := Lib.hid (hasB_paths (k := k) hp)
    rw [hp] at SV
    clear hp
    go_enter Try.func100, Try.ntmps100
    go_wp2_with (go_at_call 50; refine SV.out.mono ?_)
    rintro e w1 ⟨rfl, b1⟩
    go_wp2_with fail
    go_ret
    exact ⟨ret_bool HN.out.symm, b1⟩
  · rw [hp] at SV
    by_cases h0 : 0 ≤ k
    · by_cases h1 : k < n
      · have HN := Lib.hid (hasB_yes hp ⟨h0, h1⟩)
        clear hp
        go_enter Try.func100, Try.ntmps100
        go_wp2_with (go_at_call 50; refine SV.out.mono ?_)
        rintro e w1 ⟨rfl, b1⟩
        go_wp2_with fail
        go_ret
        exact ⟨ret_bool HN.out.symm, b1⟩
      · have HN := Lib.hid (hasB_sec (n := n) (ps := ps) (fun q => h1 q.2))
        have h1' : decide (k < n) = false := by simpa using h1
        clear hp h1
        go_enter Try.func100, Try.ntmps100
        go_wp2_with (go_at_call 50; refine SV.out.mono ?_)
        rintro e w1 ⟨rfl, b1⟩
        go_wp2_with fail
        go_ret
        exact ⟨ret_bool HN.out.symm, b1⟩
    · have HN := Lib.hid (hasB_sec (n := n) (ps := ps) (fun q => h0 q.1))
      have h0' : decide (0 ≤ k) = false := by simpa using h0
      clear hp h0
      go_enter Try.func100, Try.ntmps100
      go_wp2_with (go_at_call 50; refine SV.out.mono ?_)
      rintro e w1 ⟨rfl, b1⟩
      go_wp2_with fail
      go_ret
      exact ⟨ret_bool HN.out.symm, b1⟩

/-- The cells of path i of a list, in a section. -/
theorem paths_cells {w : World} {b o : Nat} {n : Int} {ps : List (List Int × List Int)} (hat : ∀ j, j < ps.length → PathAt w b (o + j * 2) (ps.getD j noPath)) (h : pathsB n ps = true) {i k : Nat} (hi : i < ps.length) (hk : (k : Int) < n) :
    ∃ (b1 o1 k1 b2 o2 k2 : Nat), w.cell? ⟨b, o + i * 2, none⟩ = some (.slice (some ⟨b1, o1, none⟩) (ps.getD i noPath).1.length k1) ∧ w.cell? ⟨b, o + i * 2 + 1, none⟩ = some (.slice (some ⟨b2, o2, none⟩) (ps.getD i noPath).2.length k2) ∧ b < w.heap.size ∧ b1 < w.heap.size ∧ b2 < w.heap.size ∧
      w.cell? ⟨b1, o1 + k, none⟩ = some (.int .i64 ((ps.getD i noPath).1.getD k 0)) ∧ w.cell? ⟨b2, o2 + k, none⟩ = some (.int .i64 ((ps.getD i noPath).2.getD k 0)) := by
  obtain ⟨b1, o1, k1, b2, o2, k2, c1, c2, hb, hb1, hb2, d1, d2⟩ := (hat i hi).cells (pathsB_at h hi)
  obtain ⟨q1, q2, _⟩ := sec_bounds h hi hk
  exact ⟨b1, o1, k1, b2, o2, k2, c1, c2, hb, hb1, hb2, d1 k q1, d2 k q2⟩

end Go.Proofs.Ytoebgdcgcdigaaa
