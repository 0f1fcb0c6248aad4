/-
  A list of numbers copied: onto an empty list of the call's own, by slices.Clone; a number put at a place of a list of the call's own. For at most 1048576 numbers.
-/
import Derived.Test.YtlcmkocbpnekhaaGreatDoorTri
import Derived.Test.YtlcmkocbpnekhaaGreatDoorResults
import Derived.Deep.RegionLaw
import Derived.Deep.AppendSrc
import Derived.ArgAppend
namespace Go.Proofs.YtlcmkocbpnekhaaGreatDoor
open Go.RowKit

theorem cells_ints {X : World} {b o : Nat} {ts : List Int} (h : ∀ i, i < ts.length → X.cell? ⟨b, o + i, none⟩ = some (.int .i64 (ts.getD i 0))) :
    ∀ j u, (ts.map (Value.int .i64))[j]? = some u → X.cell? ((⟨b, o, none⟩ : Addr).add j) = some u := by
  intro j u hu
  rw [List.getElem?_map] at hu
  cases e : ts[j]? with
  | none => rw [e] at hu; simp at hu
  | some x =>
    rw [e] at hu
    simp only [Option.map_some, Option.some.injEq] at hu
    subst hu
    have hlt : j < ts.length := (List.getElem?_eq_some_iff.1 e).1
    have q := h j hlt
    rw [List.getD_eq_getElem?_getD, e] at q
    rw [Addr.add_lit]
    exact q
theorem run_copyI {X : World} {base N : Nat} {u : Value} {ts : List Int} (hr : Ints X u ts) (hN : X.heap[N]? = some (.cells #[] 3 (0, 0))) (hb : base ≤ N) (ty : TypeId) :
    ∃ v' w', (Builtin.append_ #[23, 23] ty #[.slice (some ⟨N, 0, none⟩) 0 0, u]).run Tryz.prog X = .ok v' w' ∧ OwnI w' base v' ts ∧ Below X.heap.size X w' := by
  have hNl := (Array.getElem?_eq_some_iff.1 hN).1
  obtain ⟨i0, hi, hz0, hz1, hz2⟩ := info_parts info_int
  obtain ⟨a, c, rfl, hl, hc⟩ := hr
  rcases Nat.eq_zero_or_pos ts.length with h0 | h0
  · have hsrc : Go.Src Tryz.prog i0.size 23 (.slice a ts.length c) ts.length [] X := by
      rw [h0]
      cases a with
      | none => exact Go.Src.ofNil X Tryz.underlying23 c
      | some a => exact Go.Src.ofSlice X Tryz.underlying23 a 0 c [] (by simp) (fun j u hu => by simp at hu) (fun u hu => by cases hu)
    have hr := Go.run_append_room_src (w := X) 23 23 ty 3 i0 Tryz.underlying23 hi N 0 0 0 _ ts.length [] hsrc (by omega) (fun j hj => by simp at hj) (fun j hj => by simp at hj)
    refine ⟨_, _, hr, ?_, ?_⟩
    · obtain rfl : ts = [] := List.eq_nil_of_length_eq_zero h0
      refine ⟨by simp, .inr ⟨N, 0, #[], rfl, hb, ?_, Nat.le_refl _, by simp [maxLen], rfl, by simp⟩⟩
      exact hN
    · exact Below.refl _ _
  · rcases hc with hc | ⟨b, o, rfl, hb', hcell⟩
    · rw [hc] at h0; simp at h0
    · obtain ⟨v', w', hr, ho, hg⟩ := run_append_arg_grows (P := Tryz.prog) (w := X) 23 ty 3 i0 (.int .i64 0) 1 8 Tryz.underlying23 hi hz0 hz1 hz2 rfl (by decide) ⟨N, 0, none⟩ 0 0 [] rfl (fun j u hu => by simp at hu) ⟨b, o, none⟩ ts.length c (ts.map (Value.int .i64)) (by simp) (cells_ints hcell) (by omega) (by unfold maxLen; omega) (by omega)
      refine ⟨v', w', hr, ?_, ⟨hg.os, hg.tape, hg.output, hg.size, fun j hj => hg.block j hj (by simp)⟩⟩
      have : OwnI w' X.heap.size v' ts := by
        unfold OwnI
        simpa using ho
      exact this.mono (by omega)
theorem wpList_copyI {ops : Array Oper} {rest : List Oper} {o : Oper} {a : Act} {w : World} {Q : Exit → Act → World → Prop} (hgd : o.guard = none) (s x : Operand)
    (ho : o.op = .call { callee := .builtin .append, args := #[s, x], argTypes := #[23, 23] })
    {base N : Nat} {u : Value} {ts : List Int} (hs : a.eval s = .slice (some ⟨N, 0, none⟩) 0 0) (hx : a.eval x = u) (hr : Ints w u ts) (hN : w.heap[N]? = some (.cells #[] 3 (0, 0))) (hb : base ≤ N)
    (h : ∀ v' w', OwnI w' base v' ts → Below w.heap.size w w' → wpList Tryz.prog ops Q rest (a.put o.dst v') w') : wpList Tryz.prog ops Q (o :: rest) a w :=
  wpList_plain hgd fun _ hK => by
    obtain ⟨v', w', hr, h2, h3⟩ := run_copyI hr hN hb o.type
    unfold Oper.wp execOp
    simp only [ho, resolve, invoke, builtin, Sem.run_bind, Sem.run_pure, Result.andThen_ok, List.map_toArray, List.map_cons, List.map_nil, hs, hx, hr]
    exact hK _ _ (h v' w' h2 h3)

set_option maxHeartbeats 1000000 in
theorem cloneInts {w : World} {v : Value} {xs : List Int} (h : Ints w v xs) : Calls Tryz.prog 21 #[v] w (MadeInts w xs) := by
  have H := Lib.hid h
  obtain ⟨a, cap, rfl, hl, hc⟩ := h
  cases a with
  | none =>
    have h0 : xs.length = 0 := by
      rcases hc with h0 | ⟨b, o, e, _⟩
      · rw [h0]; rfl
      · cases e
    obtain rfl : xs = [] := List.eq_nil_of_length_eq_zero h0
    have heq : ∀ X : World, (binOp BinOp.eql 23 (.slice none 0 cap) (.slice none 0 0)).run Tryz.prog X = .ok (.bool true) X := fun _ => by kernel_rfl
    clear hc h0 hl
    go_enter Tryz.func21, Tryz.ntmps21
    go_wp2_with fail
    go_ret
    exact ⟨_, rfl, own_nil _, Below.refl _ _⟩
  | some x =>
    have heq : ∀ X : World, (binOp BinOp.eql 23 (.slice (some x) xs.length cap) (.slice none 0 0)).run Tryz.prog X = .ok (.bool false) X := fun _ => by kernel_rfl
    have B0 := Lib.hid (below_alloc w (.cells #[] 3))
    have N0 := Lib.hid (show (w.alloc (.cells #[] 3)).heap[w.heap.size]? = some (.cells #[] 3 (0, 0)) from Go.Deep.blk_alloc_new _ _)
    clear hc hl
    go_enter Tryz.func21, Tryz.ntmps21
    go_wp2_with (at_builtin; refine wpList_copyI rfl _ _ rfl (base := w.heap.size) rfl rfl (H.out.below B0.out) N0.out (Nat.le_refl _) ?_)
    intro v' w1 o1 b1
    have O1 := Lib.hid o1
    have B1 := Lib.hid (B0.out.trans (b1.mono (by omega)))
    clear o1 b1
    go_wp2_with fail
    go_ret
    exact ⟨_, rfl, O1.out, B1.out⟩

theorem OwnI.len {w : World} {base n cap : Nat} {a : Option Addr} {xs : List Int} (h : OwnI w base (.slice a n cap) xs) : n = xs.length := by
  rcases h.shape with ⟨e, rfl⟩ | ⟨g, c, e, _⟩
  · simp only [Value.slice.injEq] at e; exact e.2.1
  · simp only [Value.slice.injEq] at e; exact e.2.1
/-- A number put at a place. -/
theorem OwnI.put {w : World} {base g n cap j : Nat} {xs : List Int} (h : OwnI w base (.slice (some ⟨g, 0, none⟩) n cap) xs) (x : Int) :
    OwnI (w.setCell ⟨g, j, none⟩ (.int .i64 x)) base (.slice (some ⟨g, 0, none⟩) n cap) (xs.set j x) := by
  obtain rfl := h.len
  have := (World.ownsRow.stored h j (.int .i64 x)).1
  unfold OwnI
  rw [List.length_set, List.map_set]
  exact this
theorem OwnI.block {w : World} {base g n cap : Nat} {xs : List Int} (h : OwnI w base (.slice (some ⟨g, 0, none⟩) n cap) xs) : base ≤ g ∧ g < w.heap.size := by
  obtain rfl := h.len
  exact World.ownsRow.lt h g rfl
theorem OwnI.at {w : World} {base g n cap j : Nat} {xs : List Int} (h : OwnI w base (.slice (some ⟨g, 0, none⟩) n cap) xs) (hj : j < xs.length) : w.cell? ⟨g, j, none⟩ = some (.int .i64 (xs.getD j 0)) := by
  obtain rfl := h.len
  have := World.ownsRow.cellAt h j (by simpa using hj)
  rw [this]
  simp [hj]
theorem OwnI.soft {w : World} {base g n cap : Nat} {xs : List Int} (h : OwnI w base (.slice (some ⟨g, 0, none⟩) n cap) xs) (j : Nat) : w.frozen? ⟨g, j, none⟩ = false := by
  obtain rfl := h.len
  exact World.ownsRow.frozenAt h j
/-- A list with something in it lies somewhere. -/
theorem OwnI.some {w : World} {base : Nat} {v : Value} {xs : List Int} (h : OwnI w base v xs) (h0 : 0 < xs.length) : ∃ g cap, v = .slice (some ⟨g, 0, none⟩) xs.length cap := by
  rcases h.shape with ⟨_, rfl⟩ | ⟨g, cap, e, _⟩
  · simp at h0
  · exact ⟨g, cap, e⟩

end Go.Proofs.YtlcmkocbpnekhaaGreatDoor
