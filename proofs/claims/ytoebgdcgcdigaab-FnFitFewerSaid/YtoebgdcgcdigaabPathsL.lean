/-
  Lists of paths: what the laws' helpers do with them. For lists of at most 1048576 paths, each list in them of at most as many integers.
-/
import Derived.Test.YtoebgdcgcdigaabPathA
import Derived.Test.YtoebgdcgcdigaabClashS
import Derived.Test.YtoebgdcgcdigaabPathP
namespace Go.Proofs.Ytoebgdcgcdigaab
open Go.RowKit Go.Sort


/-- The value v can be read in w as a list of paths. -/
def Paths (w : World) (v : Value) (ps : List (List Int × List Int)) : Prop :=
  ∃ a cap, v = .slice a ps.length cap ∧ (ps.length ≤ 1048576 ∧ ps.length ≤ cap) ∧
    (ps = [] ∨ ∃ b o, a = some ⟨b, o, none⟩ ∧ b < w.heap.size ∧ ∀ i, i < ps.length → PathAt w b (o + i * 2) (ps.getD i noPath))
theorem Paths.below {w w' : World} {v : Value} {ps : List (List Int × List Int)} (h : Paths w v ps) (hb : Below w.heap.size w w') : Paths w' v ps := by
  obtain ⟨a, cap, rfl, hl, hc⟩ := h
  refine ⟨a, cap, rfl, hl, ?_⟩
  rcases hc with rfl | ⟨b, o, rfl, hlt, hcell⟩
  · exact .inl rfl
  · exact .inr ⟨b, o, rfl, Nat.lt_of_lt_of_le hlt hb.size, fun i hi => (hcell i hi).below hb⟩
theorem Paths.len {w : World} {v : Value} {ps : List (List Int × List Int)} (h : Paths w v ps) : ps.length ≤ 1048576 := by
  obtain ⟨_, _, _, hl, _⟩ := h
  exact hl.1
theorem PathAt.pathV {w : World} {b o : Nat} {p : List Int × List Int} (h : PathAt w b o p) : ∃ u1 u2, w.cell? ⟨b, o, none⟩ = some u1 ∧ w.cell? ⟨b, o + 1, none⟩ = some u2 ∧ PathV w (.agg #[u1, u2]) p := by
  obtain ⟨u1, u2, c1, c2, _, i1, i2⟩ := h
  exact ⟨u1, u2, c1, c2, u1, u2, rfl, i1, i2⟩
/-- The lists of all paths are short enough. -/
theorem Paths.lens {w : World} {v : Value} {ps : List (List Int × List Int)} (h : Paths w v ps) {i : Nat} (hi : i < ps.length) : (ps.getD i noPath).1.length ≤ 1048576 ∧ (ps.getD i noPath).2.length ≤ 1048576 := by
  obtain ⟨_, _, _, _, hc⟩ := h
  rcases hc with rfl | ⟨b, o, _, _, hcell⟩
  · simp at hi
  · obtain ⟨u1, u2, _, _, q⟩ := (hcell i hi).pathV
    exact q.len

theorem info_path : (Try.prog.info? 32).map (fun i => (i.zero, i.size, i.bytes)) = some (some (.agg #[.slice none 0 0, .slice none 0 0]), 2, 48) := by kernel_rfl

/-- The first k paths of the new list in block B are there, each list of them in a block of its own. -/
def PathsTo (w : World) (B : Nat) (ps : List (List Int × List Int)) (k : Nat) : Prop :=
  ∃ f : Nat → Value, w.rowIs B 32 (ps.length * 2) f ∧ (∀ i, i < k → OwnI w (B + 1) (f (i * 2)) (ps.getD i noPath).1 ∧ OwnI w (B + 1) (f (i * 2 + 1)) (ps.getD i noPath).2) ∧
    ∀ i j, i < j → j < k * 2 → (f i).ownBlock = none ∨ (f i).ownBlock ≠ (f j).ownBlock
theorem PathsTo.lt {w : World} {B : Nat} {ps : List (List Int × List Int)} {k : Nat} (h : PathsTo w B ps k) : B < w.heap.size := by
  obtain ⟨f, h, _⟩ := h
  exact h.lt
theorem PathsTo.below {w w' : World} {B : Nat} {ps : List (List Int × List Int)} {k : Nat} (h : PathsTo w B ps k) (hb : Below w.heap.size w w') : PathsTo w' B ps k := by
  obtain ⟨f, hr, hi, hd⟩ := h
  exact ⟨f, hr.of_block (hb.block _ hr.lt), fun i hik => ⟨(hi i hik).1.below hb, (hi i hik).2.below hb⟩, hd⟩
theorem PathsTo.cell {w : World} {B : Nat} {ps : List (List Int × List Int)} {k : Nat} (h : PathsTo w B ps k) {i : Nat} (hi : i < ps.length * 2) : (∃ u, w.cell? ⟨B, i, none⟩ = some u) ∧ w.frozen? ⟨B, i, none⟩ = false := by
  obtain ⟨f, hr, _⟩ := h
  exact ⟨⟨_, hr.cell hi⟩, hr.frozen i⟩

theorem PathsTo.set {w w1 : World} {B : Nat} {ps : List (List Int × List Int)} {k : Nat} {u1 u2 : Value} (h : PathsTo w B ps k) (hb : Below w.heap.size w w1) (ho : OwnPath w1 w.heap.size (.agg #[u1, u2]) (ps.getD k noPath)) :
    PathsTo ((w1.setCell ⟨B, k * 2, none⟩ u1).setCell ⟨B, k * 2 + 1, none⟩ u2) B ps (k + 1) := by
  have hB := h.lt
  obtain ⟨f, hr, hi, hd⟩ := h
  obtain ⟨_, _, e, o1, o2, a1, a2⟩ := ho
  simp only [Value.agg.injEq, Array.mk.injEq, List.cons.injEq, and_true] at e
  obtain ⟨rfl, rfl⟩ := e
  have hlt : ∀ i b, i < k * 2 → (f i).ownBlock = some b → b < w.heap.size := by
    intro i b hik e
    rcases Nat.mod_two_eq_zero_or_one i with q | q
    · have := (hi (i / 2) (by omega)).1
      rw [show i / 2 * 2 = i by omega] at this
      exact (World.ownsRow.lt this b e).2
    · have := (hi (i / 2) (by omega)).2
      rw [show i / 2 * 2 + 1 = i by omega] at this
      exact (World.ownsRow.lt this b e).2
  have hnew : ∀ i u xs, i < k * 2 → OwnI w1 w.heap.size u xs → (f i).ownBlock = none ∨ (f i).ownBlock ≠ u.ownBlock := by
    intro i u xs hik o
    cases e : (f i).ownBlock with
    | none => exact .inl rfl
    | some b =>
      refine .inr fun q => ?_
      have h1 := hlt i b hik e
      have h2 := (World.ownsRow.lt o b q.symm).1
      omega
  obtain ⟨F, hF⟩ : ∃ F : Nat → Value, F = fun j => if j = k * 2 + 1 then u2 else if j = k * 2 then u1 else f j := ⟨_, rfl⟩
  have F1 : F (k * 2 + 1) = u2 := by rw [hF]; simp
  have F0 : F (k * 2) = u1 := by rw [hF]; simp
  have Fo : ∀ i, i < k * 2 → F i = f i := fun i q => by
    rw [hF]
    simp only
    rw [if_neg (by omega), if_neg (by omega)]
  refine ⟨F, ?_, fun i hik => ?_, fun i j hij hjk => ?_⟩
  · rw [hF]
    exact ((hr.of_block (hb.block _ hB)).set (k * 2) u1).set (k * 2 + 1) u2
  · by_cases e : i = k
    · subst e
      rw [F0, F1]
      exact ⟨((o1.mono (by omega)).setBelow (by simp only; omega) u1).setBelow (by simp only; omega) u2, ((o2.mono (by omega)).setBelow (by simp only; omega) u1).setBelow (by simp only; omega) u2⟩
    · rw [Fo _ (by omega), Fo _ (by omega)]
      exact ⟨(((hi i (by omega)).1.below hb).setBelow (by simp only; omega) u1).setBelow (by simp only; omega) u2, (((hi i (by omega)).2.below hb).setBelow (by simp only; omega) u1).setBelow (by simp only; omega) u2⟩
  · by_cases e1 : j = k * 2 + 1
    · rw [e1, F1]
      by_cases e2 : i = k * 2
      · rw [e2, F0]
        exact a1
      · rw [Fo _ (by omega)]
        exact hnew i _ _ (by omega) o2
    · by_cases e2 : j = k * 2
      · rw [e2, F0, Fo _ (by omega)]
        exact hnew i _ _ (by omega) o1
      · rw [Fo _ (by omega), Fo _ (by omega)]
        exact hd i j hij (by omega)

/-- The value v owns a list of paths, from block base on. -/
def OwnPaths (w : World) (base : Nat) (v : Value) (ps : List (List Int × List Int)) : Prop :=
  ∃ g, v = .slice (some ⟨g, 0, none⟩) ps.length ps.length ∧ base ≤ g ∧ PathsTo w g ps ps.length ∧ ps.length ≤ 1048576 ∧ ∀ i, i < ps.length → (ps.getD i noPath).1.length ≤ 1048576 ∧ (ps.getD i noPath).2.length ≤ 1048576
theorem OwnPaths.below {w w' : World} {base : Nat} {v : Value} {ps : List (List Int × List Int)} (h : OwnPaths w base v ps) (hb : Below w.heap.size w w') : OwnPaths w' base v ps := by
  obtain ⟨g, hv, hg, hr, hl⟩ := h
  exact ⟨g, hv, hg, hr.below hb, hl⟩
theorem OwnPaths.paths {w : World} {base : Nat} {v : Value} {ps : List (List Int × List Int)} (h : OwnPaths w base v ps) : Paths w v ps := by
  obtain ⟨g, rfl, hg, ⟨f, hr, hi, _⟩, hl, hll⟩ := h
  refine ⟨_, _, rfl, ⟨hl, Nat.le_refl _⟩, .inr ⟨g, 0, rfl, hr.lt, fun i hik => ⟨f (i * 2), f (i * 2 + 1), ?_, ?_, hr.lt, (hi i hik).1.ints (hll i hik).1, (hi i hik).2.ints (hll i hik).2⟩⟩⟩
  · rw [Nat.zero_add]; exact hr.cell (by omega)
  · rw [Nat.zero_add]; exact hr.cell (by omega)
/-- A call that hands back a new list of paths, and writes nothing that was there. -/
def MadePaths (w : World) (ps : List (List Int × List Int)) (e : Ending) (w' : World) : Prop :=
  ∃ v, e = .returned v ∧ OwnPaths w' w.heap.size v ps ∧ Below w.heap.size w w'

theorem run_make_paths (n : Nat) (hn : n ≤ 1048576) (w : World) :
    (Instr.makeSlice 23 (.int .i64 (n : Int)) (.int .i64 (n : Int))).run Try.prog w = .ok (.slice (some ⟨w.heap.size, 0, none⟩) n n) (w.alloc (.cells (madeCells #[.slice none 0 0, .slice none 0 0] (n * 2)) 32)) := by
  obtain ⟨i, hi, hz, hs, hb⟩ := info_parts info_path
  have hr := run_make (P := Try.prog) w 23 32 i (.agg #[.slice none 0 0, .slice none 0 0]) Try.underlying23 hi hz .i64 .i64 n n (by omega) (Int.le_refl _) (by rw [hb]; omega) (by omega)
  simp only [Int.toNat_natCast, hs] at hr
  exact hr
theorem paths_made (w : World) (n : Nat) : (w.alloc (.cells (madeCells #[.slice none 0 0, .slice none 0 0] (n * 2)) 32)).rowIs w.heap.size 32 (n * 2) (fun _ => .slice none 0 0) :=
  ⟨_, Go.Deep.blk_alloc_new _ _, size_madeCells _ _, fun i hi => by
    have hm : i % 2 = 0 ∨ i % 2 = 1 := by omega
    simp only [madeCells, Array.getElem?_map, Array.getElem?_range]
    rw [if_pos hi]
    simp only [Option.map_some, List.size_toArray, List.length_cons, List.length_nil]
    rcases hm with q | q <;> (rw [show i % (0 + 1 + 1) = i % 2 by rfl, q]; rfl)⟩

end Go.Proofs.Ytoebgdcgcdigaab
