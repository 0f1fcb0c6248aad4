/-
  A copy of a path of a list, by the program.
-/
import Derived.Test.YtoebgdcgcdigaaaOrd
import Derived.Test.YtoebgdcgcdigaaaPathP
import Derived.Test.YtoebgdcgcdigaaaRun
import Derived.Deep.RegionWith
import Derived.Deep.DeepCutAuto
namespace Go.Proofs.Ytoebgdcgcdigaaa
open Go.RowKit Go.Sort

theorem clone_end {w W wz : World} {uA uB : Value} {xs ys : List Int} (sz : W.heap.size = w.heap.size + 1) (q0 : Below w.heap.size w W) (d : Below W.heap.size W wz) (pr : Pair W w.heap.size (.slice none 0 0) (.slice none 0 0) 44)
    (oA : OwnI wz W.heap.size uA xs) (oB : OwnI wz W.heap.size uB ys) (a1 : uA.ownBlock = none ∨ uA.ownBlock ≠ uB.ownBlock) (a2 : uB.ownBlock = none ∨ uB.ownBlock ≠ uA.ownBlock) :
    Pair ((wz.setCell ⟨w.heap.size, 0, none⟩ uA).setCell ⟨w.heap.size, 1, none⟩ uB) w.heap.size uA uB 44 ∧ OwnPath ((wz.setCell ⟨w.heap.size, 0, none⟩ uA).setCell ⟨w.heap.size, 1, none⟩ uB) (w.heap.size + 1) (.agg #[uA, uB]) (xs, ys) ∧ Below w.heap.size w ((wz.setCell ⟨w.heap.size, 0, none⟩ uA).setCell ⟨w.heap.size, 1, none⟩ uB) := by
  have hlt : w.heap.size < W.heap.size := by omega
  rw [← sz]
  exact ⟨stored_pair (pr.below d), ⟨uA, uB, rfl, (oA.setBelow (a := ⟨w.heap.size, 0, none⟩) hlt uA).setBelow (a := ⟨w.heap.size, 1, none⟩) hlt uB, (oB.setBelow (a := ⟨w.heap.size, 0, none⟩) hlt uA).setBelow (a := ⟨w.heap.size, 1, none⟩) hlt uB, a1, a2⟩, ((q0.trans (d.mono q0.size)).setCell (p := ⟨w.heap.size, 0, none⟩) (Nat.le_refl _) uA).setCell (p := ⟨w.heap.size, 1, none⟩) (Nat.le_refl _) uB⟩

end Go.Proofs.Ytoebgdcgcdigaaa
