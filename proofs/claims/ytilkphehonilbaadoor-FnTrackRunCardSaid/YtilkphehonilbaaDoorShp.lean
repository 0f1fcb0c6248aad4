/-
  A law whose row lists tied variables, out of a contract that may also lean on the shape of the world; the variable MaxLen holds a number. No condition.
-/
import Derived.Test.YtilkphehonilbaaDoorRows
import Derived.ProofKit
import Derived.LaidMore
import Derived.Lay
import Derived.Stop.Joined
namespace Go.Proofs.YtilkphehonilbaaDoor
open Go

section
variable {H : Type} {enc : TypeId × Value → H}

/-- As the guide's law on contracts beside a condition, the contract being told the world's shape. -/
theorem returns_shaped {a : Assume} {C : Checked} {os : Os} {f : FuncId} {fn : Func} {s : ChangeSpec} {conds : List PathCond} {apart fresh handsOn again : Bool} {X : World → Array Value → Prop}
    (hX : ∀ (w w' : World) (args : Array Value), w.heap = w'.heap → X w args → X w' args)
    (own : ownKnob C.prog.godebug = none) (started : os.Started) (noInit : C.prog.inits.idxOf? f = none) (hfn : C.prog.funcs[f]? = some fn)
    (witness : ∃ (w : World) (tape : Tape) (i : Input), w.os = os ∧ (w.forCall tape i).Shaped C.prog ∧ i.vars = [] ∧ Input.okWide C.prog (w.forCall tape i) .any w.heap.size f i ∧
      ((s.pre enc C.prog fn conds apart (w.forCall tape i).memory i.args ∧ X (w.forCall tape i).memory i.args) ∧ sizedMet enc C.prog fn (OpenSpec.ofChange s) apart (w.forCall tape i).memory i.args) ∧ a.holds C.prog (lone (Frame.enter C.prog f i.args .normal) [] (w.forCall tape i)))
    (contract : ∀ (W : World) (base : Nat) (args : Array Value) (ds gs : List (DataW H)) (before : List MemPlace), W.ShapedOpen C.prog →
      (∀ (j : Nat) t v, fn.params[j]? = some t → args[j]? = some v → Value.okWide C.prog W .any base t v) →
      DataW.Whole enc C.prog fn.params.toList s.vars apart W args.toList ds gs before →
      conds.all (PathCond.test C.prog ⟨fn.params.toList, ds, s.plain.varTypes C.prog, gs⟩) = true →
      (DataW.weightsEach C.prog (fn.params.toList ++ s.plain.varTypes C.prog) (ds ++ gs)).all (· ≤ reachBytes) = true → X W args →
      a.holds C.prog (lone (Frame.enter C.prog f args .normal) [] W) →
      Calls C.prog f args W fun e W' => ∃ v, e = .returned v ∧ s.post enc C.prog fn apart fresh handsOn again W args v W') :
    ReturnsInHanded a C os f .any (fun w args => (s.pre enc C.prog fn conds apart w args ∧ X w args) ∧ sizedMet enc C.prog fn (OpenSpec.ofChange s) apart w args) (s.post enc C.prog fn apart fresh handsOn again) := by
  refine returnsInHanded_of_calls own started noInit witness ?_
  intro w tape i _ hsh _ hok hpre hholds
  obtain ⟨_, _, _, fn', hfn', _, _, _, _, hval⟩ := hok
  have e : fn' = fn := Option.some.inj (hfn'.symm.trans hfn)
  subst e
  obtain ⟨⟨⟨ds, gs, before, hw, hc⟩, hx⟩, hz⟩ := hpre
  have hw' := DataW.Whole.of_heap (w' := w.forCall tape i) (by rfl) hw
  refine (contract (w.forCall tape i) w.heap.size i.args ds gs before hsh hval hw' hc (hz.weights hw) (hX _ _ _ (by rfl) hx) hholds).mono fun e W' ⟨v, he, hp⟩ => ?_
  subst he
  exact ChangeSpec.post_blind hp

end

/-- The block of the variable MaxLen. -/
abbrev maxLenG : Nat := 4
theorem maxlen_row : ((begin Tryd.prog (fun _ _ => 0) default).world.heap[maxLenG]?).bind Obj.row? = some (#[.int .i64 0], 3) := by kernel_rfl
theorem maxlen_lt : maxLenG < Tryd.prog.globals.size := of_decide_eq_true (by kernel_rfl)
theorem maxlen_types : Tryd.prog.cellTypes Tryd.prog.depth 3 = some [3] := by kernel_rfl
theorem maxlen_build : Tryd.prog.buildable 3 = true := by kernel_rfl
set_option maxRecDepth 100000 in
theorem int_of_ok {w : World} {r : Reach} {b : Nat} {x : Value} (h : Cell.ok Tryd.prog w r b 3 x) : ∃ n, x = .int .i64 n := by
  have hu := Tryd.underlying3
  unfold Cell.ok at h
  simp only [hu] at h
  cases x with
  | int k n => obtain ⟨rfl, _⟩ := h; exact ⟨n, rfl⟩
  | _ => cases h
set_option maxRecDepth 100000 in
theorem maxlen_cell {W : World} (h : W.ShapedOpen Tryd.prog) : ∃ m : Int, W.cell? ⟨maxLenG, 0, none⟩ = some (.int .i64 m) := by
  obtain ⟨cs, hcs, hsz, hok⟩ := h.1 maxLenG _ _ maxlen_lt maxlen_row
  obtain ⟨ts, hts, _, hat⟩ := hok maxlen_build
  rw [maxlen_types] at hts
  obtain rfl := Option.some.inj hts
  have hsz' : cs.size = 1 := hsz
  obtain ⟨x, hx⟩ : ∃ x, cs[0]? = some x := ⟨cs[0], Array.getElem?_eq_getElem (by omega)⟩
  obtain ⟨u, hu, hc⟩ := hat 0 x hx
  have hu' : u = 3 := (Option.some.inj hu).symm
  subst hu'
  have hcell : W.cell? ⟨maxLenG, 0, none⟩ = some x := by
    simp only [World.cell?, hcs]
    exact hx
  have hi := int_of_ok hc
  obtain ⟨n, rfl⟩ := hi
  exact ⟨n, hcell⟩

end Go.Proofs.YtilkphehonilbaaDoor
