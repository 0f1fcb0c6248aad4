/-
  A list of paths of the call's own that may still grow: each list in it lies in a block of its own.
-/
import Derived.Test.YtoebgdcgcdigaabPathsL
import Derived.Test.YtoebgdcgcdigaabBuild
namespace Go.Proofs.Ytoebgdcgcdigaab
open Go.RowKit Go.Sort

def GrowP (w : World) (base : Nat) (v : Value) (ps : List (List Int × List Int)) : Prop :=
  ∃ vs : List Value, w.ownsRow base 32 2 v ps.length vs ∧ (∀ i, i < ps.length → OwnI w base (vs.getD (i * 2) undef) (ps.getD i noPath).1 ∧ OwnI w base (vs.getD (i * 2 + 1) undef) (ps.getD i noPath).2) ∧
    (∀ i j, i < j → j < vs.length → (vs.getD i undef).ownBlock = none ∨ (vs.getD i undef).ownBlock ≠ (vs.getD j undef).ownBlock) ∧ ∀ i, i < vs.length → (vs.getD i undef).ownBlock = none ∨ (vs.getD i undef).ownBlock ≠ v.ownBlock
theorem GrowP.below {w w' : World} {base : Nat} {v : Value} {ps : List (List Int × List Int)} (h : GrowP w base v ps) (hb : Below w.heap.size w w') : GrowP w' base v ps := by
  obtain ⟨vs, ho, hi, hd, hv⟩ := h
  exact ⟨vs, World.ownsRow.kept ho (below_grown hb) (by cases v.ownBlock <;> simp), fun i hik => ⟨(hi i hik).1.below hb, (hi i hik).2.below hb⟩, hd, hv⟩
theorem GrowP.len {w : World} {base : Nat} {v : Value} {ps : List (List Int × List Int)} {vs : List Value} (h : w.ownsRow base 32 2 v ps.length vs) : vs.length = ps.length * 2 := h.1
theorem GrowP.paths {w : World} {base : Nat} {v : Value} {ps : List (List Int × List Int)} (h : GrowP w base v ps) (hl : ps.length ≤ 1048576) (hll : ∀ i, i < ps.length → (ps.getD i noPath).1.length ≤ 1048576 ∧ (ps.getD i noPath).2.length ≤ 1048576) : Paths w v ps := by
  obtain ⟨vs, ho, hi, _⟩ := h
  have hlen : vs.length = ps.length * 2 := ho.1
  rcases ho.2 with ⟨rfl, h0⟩ | ⟨g, cap, cur, rfl, hb, hg, hnc, _⟩
  · have : ps = [] := List.eq_nil_of_length_eq_zero h0
    subst this
    exact ⟨none, 0, rfl, by simp, .inl rfl⟩
  · have hlt : g < w.heap.size := (Array.getElem?_eq_some_iff.1 hg).1
    refine ⟨_, cap, rfl, ⟨hl, hnc⟩, .inr ⟨g, 0, rfl, hlt, fun i hik => ⟨_, _, ?_, ?_, hlt, (hi i hik).1.ints (hll i hik).1, (hi i hik).2.ints (hll i hik).2⟩⟩⟩
    · rw [Nat.zero_add, World.ownsRow.cellAt ho (i * 2) (by omega), List.getD_eq_getElem?_getD, List.getElem?_eq_getElem (by omega)]
      rfl
    · rw [Nat.zero_add, World.ownsRow.cellAt ho (i * 2 + 1) (by omega), List.getD_eq_getElem?_getD, List.getElem?_eq_getElem (by omega)]
      rfl
theorem GrowP.empty (w : World) : GrowP (w.alloc (.cells #[] 32)) w.heap.size (.slice (some ⟨w.heap.size, 0, none⟩) 0 0) [] :=
  ⟨[], World.ownsRow_lit w #[] 0 (Nat.le_refl _) (by simp [maxLen]) rfl, fun i hi => by simp at hi, fun i j _ hj => by simp at hj, fun i hi => by simp at hi⟩
theorem ownsRow_mono2 {w : World} {base base' : Nat} {e : TypeId} {size n : Nat} {v : Value} {xs : List Value} (h : w.ownsRow base e size v n xs) (hb : base' ≤ base) : w.ownsRow base' e size v n xs := by
  refine ⟨h.1, ?_⟩
  rcases h.2 with h | ⟨g, cap, cur, rfl, hg, r⟩
  · exact .inl h
  · exact .inr ⟨g, cap, cur, rfl, Nat.le_trans hb hg, r⟩
/-- One path more; its lists lie ahead of the list's own blocks, or behind them. -/
theorem GrowP.push0 {w w1 w2 w3 : World} {base base' : Nat} {v v' u1 u2 : Value} {ps : List (List Int × List Int)} {p : List Int × List Int} {vs : List Value} (ho : w.ownsRow base 32 2 v ps.length vs)
    (hi : ∀ i, i < ps.length → OwnI w base (vs.getD (i * 2) undef) (ps.getD i noPath).1 ∧ OwnI w base (vs.getD (i * 2 + 1) undef) (ps.getD i noPath).2)
    (hd : ∀ i j, i < j → j < vs.length → (vs.getD i undef).ownBlock = none ∨ (vs.getD i undef).ownBlock ≠ (vs.getD j undef).ownBlock) (hv : ∀ i, i < vs.length → (vs.getD i undef).ownBlock = none ∨ (vs.getD i undef).ownBlock ≠ v.ownBlock)
    (hbase : base' ≤ base) (hb : Below w.heap.size w w1) (hp : OwnPath w1 base' (.agg #[u1, u2]) p) (hx : ∀ b, (u1.ownBlock = some b ∨ u2.ownBlock = some b) → b < base ∨ w.heap.size ≤ b) (b2 : Below w1.heap.size w1 w2) (hg : w2.grownBy w3 v.ownBlock)
    (hn : w3.ownsRow base 32 2 v' (ps.length + 1) (vs ++ [u1, u2])) (hat : v'.ownBlock = v.ownBlock ∨ v'.ownBlock = some w2.heap.size) : GrowP w3 base' v' (ps ++ [p]) := by
  have hlen : vs.length = ps.length * 2 := ho.1
  have hs := b2.size
  obtain ⟨x1, x2, e, o1, o2, a1, a2⟩ := hp
  simp only [Value.agg.injEq, Array.mk.injEq, List.cons.injEq, and_true] at e
  obtain ⟨rfl, rfl⟩ := e
  have hold : ∀ q, q < vs.length → ∃ xs, OwnI w base (vs.getD q undef) xs := fun q hq => by
    rcases Nat.mod_two_eq_zero_or_one q with e | e
    · obtain ⟨m, rfl⟩ : ∃ m, q = m * 2 := ⟨q / 2, by omega⟩
      exact ⟨_, (hi m (by omega)).1⟩
    · obtain ⟨m, rfl⟩ : ∃ m, q = m * 2 + 1 := ⟨q / 2, by omega⟩
      exact ⟨_, (hi m (by omega)).2⟩
  have hlt : ∀ q, q < vs.length → ∀ b, (vs.getD q undef).ownBlock = some b → base ≤ b ∧ b < w.heap.size := fun q hq b e => by
    obtain ⟨xs, o⟩ := hold q hq
    exact World.ownsRow.lt o b e
  have hvl : ∀ b, v.ownBlock = some b → base ≤ b ∧ b < w.heap.size := fun b e => World.ownsRow.lt ho b e
  have hx1 : ∀ b, u1.ownBlock = some b → b < base ∨ w.heap.size ≤ b := fun b e => hx b (.inl e)
  have hx2 : ∀ b, u2.ownBlock = some b → b < base ∨ w.heap.size ≤ b := fun b e => hx b (.inr e)
  have new : ∀ (u : Value), (∀ b, u.ownBlock = some b → b < base ∨ w.heap.size ≤ b) → (u.ownBlock = none ∨ u.ownBlock ≠ v.ownBlock) := fun u hu => by
    cases e : u.ownBlock with
    | none => exact .inl rfl
    | some b => exact .inr (fun q => by have := hu b e; have := hvl b q.symm; omega)
  have new' : ∀ (u : Value) (xs : List Int), OwnI w1 base' u xs → (∀ b, u.ownBlock = some b → b < base ∨ w.heap.size ≤ b) → (u.ownBlock = none ∨ u.ownBlock ≠ v'.ownBlock) := fun u xs o hu => by
    rcases hat with q | q
    · rw [q]; exact new u hu
    · rw [q]
      cases e : u.ownBlock with
      | none => exact .inl rfl
      | some b => exact .inr (fun r => by have := (World.ownsRow.lt o b e).2; simp only [Option.some.injEq] at r; omega)
  have g1 : ∀ q, q < vs.length → (vs ++ [u1, u2]).getD q undef = vs.getD q undef := fun q hq => by
    rw [List.getD_eq_getElem?_getD, List.getD_eq_getElem?_getD, List.getElem?_append_left hq]
  have g2 : (vs ++ [u1, u2]).getD vs.length undef = u1 := by rw [List.getD_eq_getElem?_getD, List.getElem?_append_right (Nat.le_refl _)]; simp
  have g3 : (vs ++ [u1, u2]).getD (vs.length + 1) undef = u2 := by rw [List.getD_eq_getElem?_getD, List.getElem?_append_right (by omega)]; simp
  have cross : ∀ q, q < vs.length → ∀ (u : Value), (∀ b, u.ownBlock = some b → b < base ∨ w.heap.size ≤ b) → ((vs.getD q undef).ownBlock = none ∨ (vs.getD q undef).ownBlock ≠ u.ownBlock) := fun q hq u hu => by
    cases e : (vs.getD q undef).ownBlock with
    | none => exact .inl rfl
    | some b => exact .inr (fun r => by have := hlt q hq b e; have := hu b r.symm; omega)
  refine ⟨vs ++ [u1, u2], by rw [List.length_append]; exact ownsRow_mono2 hn hbase, fun i hil => ?_, fun i j hij hj => ?_, fun i hil => ?_⟩
  · rw [List.length_append] at hil
    simp only [List.length_cons, List.length_nil] at hil
    by_cases e : i < ps.length
    · rw [g1 _ (by omega), g1 _ (by omega)]
      have ep : (ps ++ [p]).getD i noPath = ps.getD i noPath := by rw [List.getD_eq_getElem?_getD, List.getD_eq_getElem?_getD, List.getElem?_append_left e]
      rw [ep]
      exact ⟨((((hi i e).1.below hb).below b2).kept hg (hv _ (by omega))).mono hbase, ((((hi i e).2.below hb).below b2).kept hg (hv _ (by omega))).mono hbase⟩
    · obtain rfl : i = ps.length := by omega
      have ep : (ps ++ [p]).getD ps.length noPath = p := by rw [List.getD_eq_getElem?_getD, List.getElem?_append_right (Nat.le_refl _)]; simp
      rw [ep, ← hlen, g2, g3]
      exact ⟨(o1.below b2).kept hg (new _ hx1), (o2.below b2).kept hg (new _ hx2)⟩
  · rw [List.length_append] at hj
    simp only [List.length_cons, List.length_nil] at hj
    by_cases ej : j < vs.length
    · rw [g1 _ ej, g1 _ (by omega)]
      exact hd i j hij ej
    · by_cases ei : i < vs.length
      · rw [g1 _ ei]
        by_cases e : j = vs.length
        · rw [e, g2]; exact cross i ei _ hx1
        · rw [show j = vs.length + 1 by omega, g3]; exact cross i ei _ hx2
      · rw [show i = vs.length by omega, show j = vs.length + 1 by omega, g2, g3]
        exact a1
  · rw [List.length_append] at hil
    simp only [List.length_cons, List.length_nil] at hil
    by_cases e : i < vs.length
    · rw [g1 _ e]
      rcases hat with q | q
      · rw [q]; exact hv i e
      · rw [q]
        cases e2 : (vs.getD i undef).ownBlock with
        | none => exact .inl rfl
        | some b => exact .inr (fun r => by have := hlt i e b e2; have := hb.size; simp only [Option.some.injEq] at r; omega)
    · by_cases e2 : i = vs.length
      · rw [e2, g2]; exact new' _ _ o1 hx1
      · rw [show i = vs.length + 1 by omega, g3]; exact new' _ _ o2 hx2
theorem GrowP.push {w w1 w2 w3 : World} {base base' : Nat} {v v' u1 u2 : Value} {ps : List (List Int × List Int)} {p : List Int × List Int} {vs : List Value} {o : Obj} (ho : w.ownsRow base 32 2 v ps.length vs)
    (hi : ∀ i, i < ps.length → OwnI w base (vs.getD (i * 2) undef) (ps.getD i noPath).1 ∧ OwnI w base (vs.getD (i * 2 + 1) undef) (ps.getD i noPath).2)
    (hd : ∀ i j, i < j → j < vs.length → (vs.getD i undef).ownBlock = none ∨ (vs.getD i undef).ownBlock ≠ (vs.getD j undef).ownBlock) (hv : ∀ i, i < vs.length → (vs.getD i undef).ownBlock = none ∨ (vs.getD i undef).ownBlock ≠ v.ownBlock)
    (hbase : base' ≤ base) (hb : Below w.heap.size w w1) (hp : OwnPath w1 base' (.agg #[u1, u2]) p) (hx : ∀ b, (u1.ownBlock = some b ∨ u2.ownBlock = some b) → b < base ∨ w.heap.size ≤ b) (e2 : w2 = w1.alloc o) (hg : w2.grownBy w3 v.ownBlock)
    (hn : w3.ownsRow base 32 2 v' (ps.length + 1) (vs ++ [u1, u2])) (hat : v'.ownBlock = v.ownBlock ∨ v'.ownBlock = some w2.heap.size) : GrowP w3 base' v' (ps ++ [p]) :=
  GrowP.push0 ho hi hd hv hbase hb hp hx (by rw [e2]; exact below_alloc _ _) hg hn hat

end Go.Proofs.Ytoebgdcgcdigaab
