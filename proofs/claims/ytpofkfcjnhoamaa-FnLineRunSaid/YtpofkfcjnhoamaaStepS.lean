/-
  A move that is done on a line, by the model. For valid lines.
-/
import Derived.Test.YtpofkfcjnhoamaaCopyS
import Derived.Test.YtpofkfcjnhoamaaDoJ
import Derived.Test.YtpofkfcjnhoamaaSpecL
import Derived.Test.YtpofkfcjnhoamaaBlockG
import Derived.Test.YtpofkfcjnhoamaaRunP
import Derived.Deep.RegionHeld3
namespace Go.Proofs.Ytpofkfcjnhoamaa
open Go.RowKit Go.Sort

theorem blk_new_at {w : World} {N : Nat} {o : Obj} (h : N = w.heap.size) : (w.alloc o).heap[N]? = some o := by subst h; exact Go.Deep.blk_alloc_new _ _
theorem ownB_alloc {w : World} {base : Nat} {v : Value} {bs : List Blk} (h : OwnB w base v bs) (o : Obj) : OwnB (w.alloc o) base v bs := Ow.below h (below_alloc _ _)
theorem ownB_below {w w' : World} {base : Nat} {v : Value} {bs : List Blk} (h : OwnB w base v bs) (b : Below w.heap.size w w') : OwnB w' base v bs := Ow.below h b
theorem ownB_drew {w : World} {base : Nat} {v : Value} {bs : List Blk} (h : OwnB w base v bs) : OwnB w.drew base v bs := h
theorem ownI_alloc {w : World} {base : Nat} {v : Value} {ts : List Int} (h : OwnI w base v ts) (o : Obj) : OwnI (w.alloc o) base v ts := h.below (below_alloc _ _)
theorem ownI_below {w w' : World} {base : Nat} {v : Value} {ts : List Int} (h : OwnI w base v ts) (b : Below w.heap.size w w') : OwnI w' base v ts := h.below b
theorem ownI_drew {w : World} {base : Nat} {v : Value} {ts : List Int} (h : OwnI w base v ts) : OwnI w.drew base v ts := h
theorem pair_alloc {w : World} {b : Nat} {x y : Value} {t : TypeId} (h : Pair w b x y t) (o : Obj) : Pair (w.alloc o) b x y t := h.alloc o
theorem pair_below {w w' : World} {b : Nat} {x y : Value} {t : TypeId} (h : Pair w b x y t) (k : Below w.heap.size w w') : Pair w' b x y t := h.below k
theorem pair_drew {w : World} {b : Nat} {x y : Value} {t : TypeId} (h : Pair w b x y t) : Pair w.drew b x y t := h
theorem pair_new_at {w : World} {N : Nat} {x y : Value} {t : TypeId} (h : N = w.heap.size) : Pair (w.alloc (.cells #[x, y] t)) N x y t := by subst h; exact Pair.new _ _ _ _

/-- Rows of different types lie in different blocks, and in none of a pair's. -/
theorem apart_types {w : World} {b1 b2 : Nat} {t1 t2 : TypeId} {k1 k2 n1 n2 : Nat} {u1 u2 : Value} {F1 F2 : Nat → Value} (h1 : Ow w b1 t1 k1 u1 n1 F1) (h2 : Ow w b2 t2 k2 u2 n2 F2) (ht : t1 ≠ t2) : (u1.ownBlock = none ∨ u1.ownBlock ≠ u2.ownBlock) ∧ (u2.ownBlock = none ∨ u2.ownBlock ≠ u1.ownBlock) := by
  rcases h1.2 with ⟨rfl, _⟩ | ⟨g1, c1, cur1, rfl, _, e1, _⟩
  · exact ⟨.inl rfl, by cases e : u2.ownBlock <;> simp [Value.ownBlock]⟩
  · rcases h2.2 with ⟨rfl, _⟩ | ⟨g2, c2, cur2, rfl, _, e2, _⟩
    · exact ⟨.inr (by simp [Value.ownBlock]), .inl rfl⟩
    · have hne : g1 ≠ g2 := fun e => by
        subst e
        rw [e1] at e2
        simp only [Option.some.injEq, Obj.cells.injEq] at e2
        exact ht e2.2.1
      exact ⟨.inr (by simp [Value.ownBlock]; exact hne), .inr (by simp [Value.ownBlock]; exact fun e => hne e.symm)⟩
theorem away_types {w : World} {b1 N : Nat} {t1 t2 : TypeId} {k1 n1 : Nat} {u1 x y : Value} {F1 : Nat → Value} (h1 : Ow w b1 t1 k1 u1 n1 F1) (h2 : Pair w N x y t2) (ht : t1 ≠ t2) : u1.ownBlock ≠ some N := by
  rcases h1.2 with ⟨rfl, _⟩ | ⟨g1, c1, cur1, rfl, _, e1, _⟩
  · simp [Value.ownBlock]
  · intro e
    simp only [Value.ownBlock, Option.some.injEq] at e
    subst e
    unfold Pair at h2
    rw [e1] at h2
    simp only [Option.some.injEq, Obj.cells.injEq] at h2
    exact ht h2.2.1

/-- A new line that lies in a box. -/
structure HeldL (w : World) (B base : Nat) (u1 u2 : Value) (l : Ln) : Prop where
  box : Pair w B u1 u2 26
  blocks : OwnB w base u1 l.1
  trains : OwnI w base u2 l.2
theorem HeldL.below {w w' : World} {B base : Nat} {u1 u2 : Value} {l : Ln} (h : HeldL w B base u1 u2 l) (hb : Below w.heap.size w w') : HeldL w' B base u1 u2 l :=
  ⟨h.box.below hb, Ow.below h.blocks hb, h.trains.below hb⟩
theorem HeldL.drew {w : World} {B base : Nat} {u1 u2 : Value} {l : Ln} (h : HeldL w B base u1 u2 l) : HeldL w.drew B base u1 u2 l := ⟨h.box, h.blocks, h.trains⟩
theorem HeldL.apart {w : World} {B base : Nat} {u1 u2 : Value} {l : Ln} (h : HeldL w B base u1 u2 l) : (u1.ownBlock = none ∨ u1.ownBlock ≠ u2.ownBlock) ∧ (u2.ownBlock = none ∨ u2.ownBlock ≠ u1.ownBlock) := apart_types h.blocks (ownI_ow h.trains) (by decide)
theorem HeldL.put {w : World} {B base g n c : Nat} {u2 : Value} {l : Ln} (h : HeldL w B base (.slice (some ⟨g, 0, none⟩) n c) u2 l) (hn : n = l.1.length) {i : Nat} (hi : i < l.1.length) (b : Blk) :
    HeldL (((w.setCell ⟨g, i * 3, none⟩ (.int .i64 b.1)).setCell ⟨g, i * 3 + 1, none⟩ (.bool b.2.1)).setCell ⟨g, i * 3 + 2, none⟩ (.bool b.2.2)) B base (.slice (some ⟨g, 0, none⟩) n c) u2 (l.1.set i b, l.2) := by
  obtain ⟨s, gr⟩ := OwnB.set3 h.blocks hn hi b
  refine ⟨h.box.kept gr (fun c e q => ?_), s, h.trains.kept gr ?_⟩
  · simp only [Option.some.injEq] at e
    exact away_types h.blocks h.box (by decide) (by rw [q, ← e]; rfl)
  · exact h.apart.2
theorem HeldL.go {w : World} {B base g n c : Nat} {u1 : Value} {l : Ln} (h : HeldL w B base u1 (.slice (some ⟨g, 0, none⟩) n c) l) (hn : n = l.2.length) (i : Nat) (x : Int) :
    HeldL (w.setCell ⟨g, i, none⟩ (.int .i64 x)) B base u1 (.slice (some ⟨g, 0, none⟩) n c) (l.1, l.2.set i x) := by
  obtain ⟨s, gr⟩ := h.trains.set hn i x
  refine ⟨h.box.kept gr (fun c e q => ?_), Ow.kept h.blocks gr ?_, s⟩
  · simp only [Option.some.injEq] at e
    exact away_types (ownI_ow h.trains) h.box (by decide) (by rw [q, ← e]; rfl)
  · exact h.apart.1
/-- Where the copy ends: the box is made last, or ahead of it. -/
theorem copy_endA {q Y : World} {uA uB : Value} {l : Ln} (oA : OwnB Y q.heap.size uA l.1) (oB : OwnI Y q.heap.size uB l.2) (b : Below q.heap.size q Y) :
    ∃ g v1 v2, Value.pointer (some ⟨Y.heap.size, 0, none⟩) = Value.pointer (some ⟨g, 0, none⟩) ∧ q.heap.size ≤ g ∧ HeldL (Y.alloc (.cells #[uA, uB] 26)) g q.heap.size v1 v2 l ∧ Below q.heap.size q (Y.alloc (.cells #[uA, uB] 26)) :=
  ⟨_, _, _, rfl, b.size, ⟨Pair.new _ _ _ _, ownB_alloc oA _, ownI_alloc oB _⟩, bel_alloc b _⟩
theorem copy_endB {q Y : World} {C : Nat} {x y uA uB : Value} {l : Ln} (hC : q.heap.size ≤ C) (p : Pair Y C x y 26) (oA : OwnB Y q.heap.size uA l.1) (oB : OwnI Y q.heap.size uB l.2) (b : Below q.heap.size q Y) :
    ∃ g v1 v2, Value.pointer (some ⟨C, 0, none⟩) = Value.pointer (some ⟨g, 0, none⟩) ∧ q.heap.size ≤ g ∧ HeldL ((Y.setCell ⟨C, 0, none⟩ uA).setCell ⟨C, 1, none⟩ uB) g q.heap.size v1 v2 l ∧ Below q.heap.size q ((Y.setCell ⟨C, 0, none⟩ uA).setCell ⟨C, 1, none⟩ uB) := by
  have nA := away_types oA p (by decide)
  have nB := away_types (ownI_ow oB) p (by decide)
  refine ⟨_, _, _, rfl, hC, ⟨stored_pair p, ?_, ?_⟩, (b.setCell (p := ⟨C, 0, none⟩) hC _).setCell (p := ⟨C, 1, none⟩) hC _⟩
  · have h1 := ownsRow_setCell_other oA (a := ⟨C, 0, none⟩) nA uA
    exact ownsRow_setCell_other h1 (a := ⟨C, 1, none⟩) nA uB
  · have h1 := ownsRow_setCell_other oB (a := ⟨C, 0, none⟩) nB uA
    exact ownsRow_setCell_other h1 (a := ⟨C, 1, none⟩) nB uB

end Go.Proofs.Ytpofkfcjnhoamaa
