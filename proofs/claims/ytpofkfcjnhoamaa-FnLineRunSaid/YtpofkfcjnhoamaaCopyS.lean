/-
  A copy onto an empty list of the call's own, as one step of a region that draws its order. For at most 1000 elements.
-/
import Derived.Test.YtpofkfcjnhoamaaLineI
import Derived.Deep.RegionLaw
import Derived.Deep.AppendSrc
import Derived.ArgAppend
namespace Go.Proofs.Ytpofkfcjnhoamaa
open Go.RowKit

theorem bel_alloc {w x : World} (h : Below w.heap.size w x) (o : Obj) : Below w.heap.size w (x.alloc o) := h.alloc h.size o
theorem bel_drew {w x : World} (h : Below w.heap.size w x) : Below w.heap.size w x.drew := h.drew
theorem blk_alloc {w : World} {N : Nat} {x : Obj} (h : w.heap[N]? = some x) (o : Obj) : (w.alloc o).heap[N]? = some x := (Go.Deep.blk_alloc_lt _ _ _ (Array.getElem?_eq_some_iff.1 h).1).trans h
theorem blk_below {w w' : World} {N : Nat} {x : Obj} (h : w.heap[N]? = some x) (b : Below w.heap.size w w') : w'.heap[N]? = some x := (b.block _ (Array.getElem?_eq_some_iff.1 h).1).trans h
theorem blk_drew {w : World} {N : Nat} {x : Obj} (h : w.heap[N]? = some x) : w.drew.heap[N]? = some x := h
theorem rd_below {w w' : World} {v : Value} {n k : Nat} {F : Nat → Value} (h : Rd w v n k F) (hb : Below w.heap.size w w') : Rd w' v n k F := h.below hb

theorem run_copyB {X : World} {base N : Nat} {u : Value} {bs : List Blk} (hr : Blks X u bs) (h5 : bs.length ≤ 1000) (hN : X.heap[N]? = some (.cells #[] 33 (0, 0))) (hb : base ≤ N) (ty : TypeId) :
    ∃ v' w', (Builtin.append_ #[23, 23] ty #[.slice (some ⟨N, 0, none⟩) 0 0, u]).run Try.prog X = .ok v' w' ∧ OwnB w' base v' bs ∧ Below X.heap.size X w' := by
  have hNl := (Array.getElem?_eq_some_iff.1 hN).1
  obtain ⟨i0, hi, hz0, hz1, hz2⟩ := info_parts info_block
  obtain ⟨a, c, rfl, hl, hc⟩ := hr
  rcases Nat.eq_zero_or_pos bs.length with h0 | h0
  · have hsrc : Go.Src Try.prog i0.size 23 (.slice a bs.length c) bs.length [] X := by
      rw [h0]
      cases a with
      | none => exact Go.Src.ofNil X Try.underlying23 c
      | some a => exact Go.Src.ofSlice X Try.underlying23 a 0 c [] (by simp) (fun j u hu => by simp at hu) (fun u hu => by cases hu)
    have hr := Go.run_append_room_src (w := X) 23 23 ty 33 i0 Try.underlying23 hi N 0 0 0 _ bs.length [] hsrc (by omega) (fun j hj => by simp at hj) (fun j hj => by simp at hj)
    refine ⟨_, _, hr, ?_, ?_⟩
    · rw [h0]
      unfold OwnB Ow
      rw [h0]
      refine ⟨by simp, .inr ⟨N, 0, #[], rfl, hb, ?_, Nat.le_refl _, by simp [maxLen], rfl, by simp⟩⟩
      exact hN
    · exact Below.refl _ _
  · rcases hc with hc | ⟨b, o, rfl, hb', hcell⟩
    · omega
    · obtain ⟨v', w', hr, ho, hg⟩ := run_append_arg_grows (P := Try.prog) (w := X) 23 ty 33 i0 (.agg #[.int .i64 0, .bool false, .bool false]) 3 16 Try.underlying23 hi hz0 hz1 hz2 rfl (by decide) ⟨N, 0, none⟩ 0 0 [] rfl (fun j u hu => by simp at hu) ⟨b, o, none⟩ bs.length c ((List.range (bs.length * 3)).map (bkF bs)) (by simp) (rd_news hcell) (by omega) (by unfold maxLen; omega) (by omega)
      refine ⟨v', w', hr, ?_, ⟨hg.os, hg.tape, hg.output, hg.size, fun j hj => hg.block j hj (by simp)⟩⟩
      have : Ow w' X.heap.size 33 3 v' bs.length (bkF bs) := by
        unfold Ow
        simpa using ho
      exact this.mono (by omega)
theorem run_copyI {X : World} {base N : Nat} {u : Value} {ts : List Int} (hr : Ints X u ts) (h5 : ts.length ≤ 1000) (hN : X.heap[N]? = some (.cells #[] 3 (0, 0))) (hb : base ≤ N) (ty : TypeId) :
    ∃ v' w', (Builtin.append_ #[24, 24] ty #[.slice (some ⟨N, 0, none⟩) 0 0, u]).run Try.prog X = .ok v' w' ∧ OwnI w' base v' ts ∧ Below X.heap.size X w' := by
  have hNl := (Array.getElem?_eq_some_iff.1 hN).1
  obtain ⟨i0, hi, hz0, hz1, hz2⟩ := info_parts info_int
  obtain ⟨a, c, rfl, hl, hc⟩ := hr
  rcases Nat.eq_zero_or_pos ts.length with h0 | h0
  · have hsrc : Go.Src Try.prog i0.size 24 (.slice a ts.length c) ts.length [] X := by
      rw [h0]
      cases a with
      | none => exact Go.Src.ofNil X Try.underlying24 c
      | some a => exact Go.Src.ofSlice X Try.underlying24 a 0 c [] (by simp) (fun j u hu => by simp at hu) (fun u hu => by cases hu)
    have hr := Go.run_append_room_src (w := X) 24 24 ty 3 i0 Try.underlying24 hi N 0 0 0 _ ts.length [] hsrc (by omega) (fun j hj => by simp at hj) (fun j hj => by simp at hj)
    refine ⟨_, _, hr, ?_, ?_⟩
    · obtain rfl : ts = [] := List.eq_nil_of_length_eq_zero h0
      refine ⟨by simp, .inr ⟨N, 0, #[], rfl, hb, ?_, Nat.le_refl _, by simp [maxLen], rfl, by simp⟩⟩
      exact hN
    · exact Below.refl _ _
  · rcases hc with hc | ⟨b, o, rfl, hb', hcell⟩
    · rw [hc] at h0; simp at h0
    · obtain ⟨v', w', hr, ho, hg⟩ := run_append_arg_grows (P := Try.prog) (w := X) 24 ty 3 i0 (.int .i64 0) 1 8 Try.underlying24 hi hz0 hz1 hz2 rfl (by decide) ⟨N, 0, none⟩ 0 0 [] rfl (fun j u hu => by simp at hu) ⟨b, o, none⟩ ts.length c (ts.map (Value.int .i64)) (by simp) (fun j u hu => by
        rw [List.getElem?_map] at hu
        cases e : ts[j]? with
        | none => rw [e] at hu; simp at hu
        | some x =>
          rw [e] at hu
          simp only [Option.map_some, Option.some.injEq] at hu
          subst hu
          have hlt : j < ts.length := (List.getElem?_eq_some_iff.1 e).1
          have q := hcell j hlt
          rw [List.getD_eq_getElem?_getD, e] at q
          rw [Addr.add_lit]
          exact q) (by omega) (by unfold maxLen; omega) (by omega)
      refine ⟨v', w', hr, ?_, ⟨hg.os, hg.tape, hg.output, hg.size, fun j hj => hg.block j hj (by simp)⟩⟩
      have : OwnI w' X.heap.size v' ts := by
        unfold OwnI
        simpa using ho
      exact this.mono (by omega)

theorem step_copyB {ops : Array Oper} {o : Oper} {a : Act} {w : World} {K : Act → World → Prop} {Q : Exit → Act → World → Prop} {E : Prop} (hgd : o.guard = none) (s x : Operand)
    (ho : o.op = .call { callee := .builtin .append, args := #[s, x], argTypes := #[23, 23] })
    {base N : Nat} {u : Value} {bs : List Blk} (hs : a.eval s = .slice (some ⟨N, 0, none⟩) 0 0) (hx : a.eval x = u) (hr : Blks w u bs) (h5 : bs.length ≤ 1000) (hN : w.heap[N]? = some (.cells #[] 33 (0, 0))) (hb : base ≤ N)
    (h : ∀ v' w', OwnB w' base v' bs → Below w.heap.size w w' → K (a.put o.dst v') w') :
    if Region.wanted o (yielded ops a.tmps) = true then Oper.wp Try.prog o a w K Q else E := by
  have hw : Region.wanted o (yielded ops a.tmps) = true := by simp [Region.wanted, hgd]
  rw [if_pos hw]
  obtain ⟨v', w', hr, h2, h3⟩ := run_copyB hr h5 hN hb o.type
  unfold Oper.wp execOp
  simp only [ho, resolve, invoke, builtin, Sem.run_bind, Sem.run_pure, Result.andThen_ok, List.map_toArray, List.map_cons, List.map_nil, hs, hx, hr]
  exact h v' w' h2 h3
theorem step_copyI {ops : Array Oper} {o : Oper} {a : Act} {w : World} {K : Act → World → Prop} {Q : Exit → Act → World → Prop} {E : Prop} (hgd : o.guard = none) (s x : Operand)
    (ho : o.op = .call { callee := .builtin .append, args := #[s, x], argTypes := #[24, 24] })
    {base N : Nat} {u : Value} {ts : List Int} (hs : a.eval s = .slice (some ⟨N, 0, none⟩) 0 0) (hx : a.eval x = u) (hr : Ints w u ts) (h5 : ts.length ≤ 1000) (hN : w.heap[N]? = some (.cells #[] 3 (0, 0))) (hb : base ≤ N)
    (h : ∀ v' w', OwnI w' base v' ts → Below w.heap.size w w' → K (a.put o.dst v') w') :
    if Region.wanted o (yielded ops a.tmps) = true then Oper.wp Try.prog o a w K Q else E := by
  have hw : Region.wanted o (yielded ops a.tmps) = true := by simp [Region.wanted, hgd]
  rw [if_pos hw]
  obtain ⟨v', w', hr, h2, h3⟩ := run_copyI hr h5 hN hb o.type
  unfold Oper.wp execOp
  simp only [ho, resolve, invoke, builtin, Sem.run_bind, Sem.run_pure, Result.andThen_ok, List.map_toArray, List.map_cons, List.map_nil, hs, hx, hr]
  exact h v' w' h2 h3

end Go.Proofs.Ytpofkfcjnhoamaa
