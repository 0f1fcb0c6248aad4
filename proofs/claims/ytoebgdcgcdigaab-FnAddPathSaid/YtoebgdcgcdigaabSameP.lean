/-
  Two equal lists of paths are the same, by the laws. For lists of at most 1048576 paths.
-/
import Derived.Test.YtoebgdcgcdigaabDrawS
import Derived.Test.YtoebgdcgcdigaabPathsV
import Derived.Deep.RegionWith
namespace Go.Proofs.Ytoebgdcgcdigaab
open Go.RowKit Go.Sort

set_option maxRecDepth 100000 in
set_option maxHeartbeats 4000000 in
theorem samePathsE {w : World} {u v : Value} {ps : List (List Int × List Int)} (h : Paths w u ps) (h' : Paths w v ps) :
    Calls Try.prog 25 #[u, v] w fun e w' => e = .returned (.bool true) ∧ Below w.heap.size w w' := by
  have hh := h
  have hh' := h'
  obtain ⟨a, c, rfl, hl, -⟩ := h
  obtain ⟨a', c', rfl, hl', -⟩ := h'
  have H1 := Lib.hid (fun (i : Nat) (hi : i < ps.length) => paths_at hh hi)
  have H2 := Lib.hid (fun (i : Nat) (hi : i < ps.length) => paths_at hh' hi)
  have hne : ((ps.length : Int) != (ps.length : Int)) = false := by simp
  clear hh hh'
  go_enter Try.func25, Try.ntmps25
  go_wp2_with fail
  go_loopw [5] (fun iv wr => ∃ i : Nat, i ≤ ps.length ∧ iv = .int .i64 i ∧ Below w.heap.size w wr) (fun iv _ => ps.length - (intOf iv).toNat)
  case atStart => exact ⟨0, by omega, rfl, Below.refl _ _⟩
  case round =>
    obtain ⟨i, hi, rfl, hbel⟩ := hrel
    by_cases hlt : i < ps.length
    · obtain ⟨b, o, rfl, hb, hat⟩ := H1.out i hlt
      obtain ⟨b', o', rfl, hb', hat'⟩ := H2.out i hlt
      obtain ⟨x1, x2, cx1, cx2, vx⟩ := ((hat i hlt).below hbel).pathV
      obtain ⟨y1, y2, cy1, cy2, vy⟩ := ((hat' i hlt).below hbel).pathV
      have hil : (i : Int) < (ps.length : Int) := by omega
      have SP := fun (X : World) (c : Below wr.heap.size wr X) => samePath (vx.below c) (vy.below c)
      rw [decide_eq_true rfl] at SP
      have SP := Lib.hid SP
      have dr : Below wr.heap.size wr wr.drew := (Below.refl _ _).drew
      have BI := Lib.hid hbel
      clear hat hat' vx vy hbel
      go_wp2_with fail
      go_region_with (go_at_call 19; refine (SP.out _ dr).mono ?_; rintro e w2 ⟨rfl, b2⟩; have c2 := Lib.hid (dr.trans (b2.mono dr.size)); clear b2)
      all_goals go_wp2_with fail
      all_goals go_roundw
      all_goals first
        | exact ⟨i + 1, by omega, by go_num, BI.out.trans (c2.out.mono BI.out.size)⟩
        | (simp [intOf]; omega)
    · obtain rfl : i = ps.length := by omega
      have BI := Lib.hid hbel
      clear hbel
      go_wp2_with fail
      go_ret
      exact ⟨rfl, BI.out⟩

end Go.Proofs.Ytoebgdcgcdigaab
