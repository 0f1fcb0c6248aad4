/-
  The table of math/bits, read off what the row lists. (The list begins with the two tables, in this order.)
-/
import Derived.Test.YtilkphehonilbaaDoorRows
import Derived.Test.YtilkphehonilbaaDoorTrkX
import Derived.OpenShut
import Derived.ChangeArms
import Derived.FnData
import Derived.MakeChecks
namespace Go.Proofs.YtilkphehonilbaaDoor
open Go.RowKit

/-- What an array of bytes reads as tells its cells. -/
theorem cells_of_array {w : World} {t e : TypeId} {n fuel : Nat} {cs : List Value} {ks : List Nat} {p : List MemPlace} (ht : Tryd.prog.underlying t = some (.array n e)) (he : Tryd.prog.underlying e = some (.int .u8)) (hc : Tryd.prog.cellsOf e = 1)
    (h : DataW.trod (fun _ : TypeId × Value => ()) Tryd.prog w 0 (fun _ => true) false fuel t cs = some (.agg (ks.map fun k => .lit (.int .u8 (k : Nat))), p)) :
    ∀ j, j < ks.length → cs[j]? = some (.int .u8 (ks.getD j 0 : Nat)) := by
  obtain ⟨xs, m, _, hx, _, hl, hel⟩ := DataW.trod_array ht h
  simp only [Prod.mk.injEq, DataW.agg.injEq] at hx
  have hks : ks.length = n := by
    have := congrArg List.length hx.1
    simpa [hl] using this
  intro j hj
  have hE := hel j (by omega)
  rw [hc, Nat.mul_one] at hE
  have hxj : (xs.map (·.1))[j]? = some (.lit (.int .u8 (ks.getD j 0 : Nat))) := by
    rw [← hx.1]
    simp [hj]
  rw [List.getElem?_map] at hxj
  cases hy : xs[j]? with
  | none => rw [hy] at hxj; cases hxj
  | some y =>
    rw [hy] at hE hxj
    simp only [Option.map_some, Option.some.injEq] at hxj
    obtain ⟨k, hk, hyk, _⟩ := DataW.trod_int he hE
    rw [hyk] at hxj
    simp only [DataW.lit.injEq, Lit.int.injEq, true_and] at hxj
    have h0 : (cs.drop j)[0]? = some (.int .u8 k) := by
      have h1 := congrArg (fun l : List Value => l[0]?) hk
      simpa [List.getElem?_take] using h1
    rw [List.getElem?_drop, Nat.add_zero] at h0
    rw [h0, hxj]

theorem tab_data : (Rows.laid_math_bits_deBruijn64tab : DataW Unit) = .agg (Lib.deBruijn64tab.map fun k => .lit (.int .u8 (k : Nat))) := by rfl
set_option maxRecDepth 100000 in
theorem tab_of {w : World} {r : List (String × DataW Unit)} (hp : ((("math/bits.deBruijn32tab", Rows.laid_math_bits_deBruijn32tab) :: ("math/bits.deBruijn64tab", Rows.laid_math_bits_deBruijn64tab) :: r).all fun x => x.2.handleName?.isNone) = true)
    (h : laidMetH Tryd.prog (("math/bits.deBruijn32tab", Rows.laid_math_bits_deBruijn32tab) :: ("math/bits.deBruijn64tab", Rows.laid_math_bits_deBruijn64tab) :: r) w) : TabW w := by
  rw [MakeChecks.laidMetH_plain _ _ _ hp] at h
  obtain ⟨ps, hv, _⟩ := h
  obtain ⟨g, t, cs, fuel, p, q, _, _, _, _, hrest, _⟩ := hv
  obtain ⟨g2, t2, cs2, fuel2, p2, q2, hg2, ht2, hcs2, htr2, _, _⟩ := hrest
  have e1 : Tryd.prog.globalNamed "math/bits.deBruijn64tab" = some 1 := by kernel_rfl
  obtain rfl : g2 = 1 := Option.some.inj (hg2.symm.trans e1)
  have e2 : (Tryd.prog.globals[1]?).map (·.type) = some 100 := by kernel_rfl
  obtain rfl : t2 = 100 := Option.some.inj (ht2.symm.trans e2)
  rw [tab_data] at htr2
  have hc := cells_of_array Tryd.underlying100 Tryd.underlying5 (by kernel_rfl) htr2
  intro j hj
  rw [World.var?_cell e1 hcs2 j]
  have := hc j hj
  rw [Array.getElem?_toList] at this
  exact this

end Go.Proofs.YtilkphehonilbaaDoor
