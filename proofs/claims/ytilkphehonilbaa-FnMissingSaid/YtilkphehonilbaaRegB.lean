/-
  The model's RegisterUntil and RegisterBlock; a copy of notes. For lists of at most 1048576 notes.
-/
import Derived.Test.YtilkphehonilbaaRegS
import Derived.Test.YtilkphehonilbaaBlockG
namespace Go.Proofs.Ytilkphehonilbaa
open Go.RowKit Go.Sort

theorem rd_newsN {w : World} {b o m : Nat} {F : Nat → Value} (hc : ∀ q, q < m → w.cell? ⟨b, o + q, none⟩ = some (F q)) : ∀ j u, ((List.range m).map F)[j]? = some u → w.cell? ((⟨b, o, none⟩ : Addr).add j) = some u := fun j u hu => by
  have hlt : j < m := by
    have := (List.getElem?_eq_some_iff.1 hu).1
    simpa using this
  rw [rangeF_get F hlt] at hu
  simp only [Option.some.injEq] at hu
  subst hu
  have q := hc j hlt
  rw [show (⟨b, o, none⟩ : Addr).add j = ⟨b, o + j, none⟩ by unfold Addr.add; split <;> simp_all]
  exact q
theorem run_copyN {X : World} {base N : Nat} {u : Value} {ms : List Mv} (hr : Mvs X u ms) (hN : X.heap[N]? = some (.cells #[] 42 (0, 0))) (hb : base ≤ N) (ty : TypeId) :
    ∃ v' w', (Builtin.append_ #[23, 23] ty #[.slice (some ⟨N, 0, none⟩) 0 0, u]).run Try.prog X = .ok v' w' ∧ OwnN w' base v' ms ∧ Below X.heap.size X w' := by
  have hNl := (Array.getElem?_eq_some_iff.1 hN).1
  obtain ⟨i0, hi, hz0, hz1, hz2⟩ := info_parts info_note
  obtain ⟨a, c, rfl, hl, hc⟩ := hr
  rcases Nat.eq_zero_or_pos ms.length with h0 | h0
  · have hsrc : Go.Src Try.prog i0.size 23 (.slice a ms.length c) ms.length [] X := by
      rw [h0]
      cases a with
      | none => exact Go.Src.ofNil X Try.underlying23 c
      | some a => exact Go.Src.ofSlice X Try.underlying23 a 0 c [] (by simp) (fun j u hu => by simp at hu) (fun u hu => by cases hu)
    have hr := Go.run_append_room_src (w := X) 23 23 ty 42 i0 Try.underlying23 hi N 0 0 0 _ ms.length [] hsrc (by omega) (fun j hj => by simp at hj) (fun j hj => by simp at hj)
    refine ⟨_, _, hr, ?_, ?_⟩
    · rw [h0]
      unfold OwnN Ow
      rw [h0]
      refine ⟨by simp, .inr ⟨N, 0, #[], rfl, hb, ?_, Nat.le_refl _, by simp [maxLen], rfl, by simp⟩⟩
      exact hN
    · exact Below.refl _ _
  · rcases hc with hc | ⟨b, o, rfl, hb', hcell⟩
    · omega
    · obtain ⟨v', w', hr, ho, hg⟩ := run_append_arg_grows (P := Try.prog) (w := X) 23 ty 42 i0 (.agg #[.int .i64 0, .string ⟨#[]⟩]) 2 24 Try.underlying23 hi hz0 hz1 hz2 rfl (by decide) ⟨N, 0, none⟩ 0 0 [] rfl (fun j u hu => by simp at hu) ⟨b, o, none⟩ ms.length c ((List.range (ms.length * 2)).map (mvF ms)) (by simp) (rd_newsN hcell) (by omega) (by unfold maxLen; omega) (by omega)
      refine ⟨v', w', hr, ?_, ⟨hg.os, hg.tape, hg.output, hg.size, fun j hj => hg.block j hj (by simp)⟩⟩
      have : Ow w' X.heap.size 42 2 v' ms.length (mvF ms) := by
        unfold Ow
        simpa using ho
      exact this.mono (by omega)
theorem wpList_copyN {ops : Array Oper} {rest : List Oper} {o : Oper} {a : Act} {w : World} {Q : Exit → Act → World → Prop} (hgd : o.guard = none) (s x : Operand)
    (ho : o.op = .call { callee := .builtin .append, args := #[s, x], argTypes := #[23, 23] })
    {base N : Nat} {u : Value} {ms : List Mv} (hs : a.eval s = .slice (some ⟨N, 0, none⟩) 0 0) (hx : a.eval x = u) (hr : Mvs w u ms) (hN : w.heap[N]? = some (.cells #[] 42 (0, 0))) (hb : base ≤ N)
    (h : ∀ v' w', OwnN w' base v' ms → Below w.heap.size w w' → wpList Try.prog ops Q rest (a.put o.dst v') w') : wpList Try.prog ops Q (o :: rest) a w :=
  wpList_plain hgd fun _ hK => by
    obtain ⟨v', w', hr, h2, h3⟩ := run_copyN hr hN hb o.type
    unfold Oper.wp execOp
    simp only [ho, resolve, invoke, builtin, Sem.run_bind, Sem.run_pure, Result.andThen_ok, List.map_toArray, List.map_cons, List.map_nil, hs, hx, hr]
    exact hK _ _ (h v' w' h2 h3)
/-- The first notes of a list that can be read. -/
theorem Mvs.take {w : World} {a : Option Addr} {n cap : Nat} {ms : List Mv} (h : Mvs w (.slice a n cap) ms) {k : Nat} (hk : k ≤ ms.length) : Mvs w (.slice a k cap) (ms.take k) := by
  have hlen : (ms.take k).length = k := by rw [List.length_take]; omega
  obtain ⟨a', c', e, ⟨l1, l2⟩, hc⟩ := h
  simp only [Value.slice.injEq] at e
  obtain ⟨rfl, rfl, rfl⟩ := e
  refine ⟨a, cap, by rw [hlen], ⟨by omega, by omega⟩, ?_⟩
  by_cases h0 : k = 0
  · exact .inl (by omega)
  · rcases hc with hc | ⟨b, o, rfl, hb, hcell⟩
    · omega
    · refine .inr ⟨b, o, rfl, hb, fun q hq => ?_⟩
      rw [hlen] at hq
      rw [mvF_take hq]
      exact hcell q (by omega)

end Go.Proofs.Ytilkphehonilbaa
