/-
  A fitted path behind all others, by the program.
-/
import Derived.Test.YtoebgdcgcdigaaaAddI
import Derived.Test.YtoebgdcgcdigaaaGrowP
import Derived.Test.YtoebgdcgcdigaaaFit
namespace Go.Proofs.Ytoebgdcgcdigaaa
open Go.RowKit Go.Sort

def addB (n : Int) (ps : List (List Int × List Int)) (s : Int) (rs : List Int) : Bool := fitB n ps s rs && decide (ps.length < 8)
def addV (n : Int) (ps : List (List Int × List Int)) (s : Int) (rs : List Int) : List (List Int × List Int) := if addB n ps s rs then ps ++ [fitPath n ps s rs rs.length] else []
def MadeAdd (w : World) (ps : List (List Int × List Int)) (b : Bool) (e : Ending) (w' : World) : Prop := ∃ x, e = .returned (.tuple #[x, .bool b]) ∧ GrowP w' w.heap.size x ps ∧ Below w.heap.size w w'
theorem addV_no {n : Int} {ps : List (List Int × List Int)} {s : Int} {rs : List Int} (h : addB n ps s rs = false) : addV n ps s rs = [] := by unfold addV; rw [h]; rfl
theorem addV_yes {n : Int} {ps : List (List Int × List Int)} {s : Int} {rs : List Int} (h : addB n ps s rs = true) : addV n ps s rs = ps ++ [fitPath n ps s rs rs.length] := by unfold addV; rw [h]; rfl
theorem made_add {w w' : World} {x : Value} {ps qs : List (List Int × List Int)} {b b' : Bool} (h : GrowP w' w.heap.size x qs) (hb : Below w.heap.size w w') (e : qs = ps) (eb : b = b') : MadeAdd w ps b' (.returned (.tuple #[x, .bool b])) w' := by
  subst e
  subst eb
  exact ⟨_, rfl, h, hb⟩
theorem GrowP.nil (w : World) (base : Nat) : GrowP w base (.slice none 0 0) [] :=
  ⟨[], World.ownsRow_nil _ _ _ _, fun i hi => by simp at hi, fun i j _ hj => by simp at hj, fun i hi => by simp at hi⟩
theorem cell_two_new (w : World) (x y : Value) (t : TypeId) : ∀ j u, [x, y][j]? = some u → (w.alloc (.cells #[x, y] t)).cell? ((⟨w.heap.size, 0, none⟩ : Addr).add j) = some u := by
  intro j u hu
  have b := box_cells w x y t
  match j, hu with
  | 0, hu => simp at hu; subst hu; simp [Addr.add, b.1]
  | 1, hu => simp at hu; subst hu; simp [Addr.add, b.2.1]
  | j + 2, hu => simp at hu

end Go.Proofs.Ytoebgdcgcdigaaa
