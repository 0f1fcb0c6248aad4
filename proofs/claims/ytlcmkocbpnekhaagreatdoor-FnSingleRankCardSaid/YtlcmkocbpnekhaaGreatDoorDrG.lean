/-
  Drawn single lines. For codes of at most 1048576 bytes.
-/
import Derived.Test.YtlcmkocbpnekhaaGreatDoorDrawA
import Derived.Test.YtlcmkocbpnekhaaGreatDoorSgK
import Derived.Test.YtlcmkocbpnekhaaGreatDoorGoods
import Derived.Test.YtlcmkocbpnekhaaGreatDoorGoodsS
import Derived.Maps.AppendAt
namespace Go.Proofs.YtlcmkocbpnekhaaGreatDoor
open Go.RowKit Go.Sort

theorem grownBy_set (W : World) (a : Addr) (v : Value) : W.grownBy (W.setCell a v) (some a.block) :=
  ⟨rfl, rfl, rfl, by rw [Go.Deep.nblk_setCell]; exact Nat.le_refl _, fun k _ hne => Go.Deep.blk_setCell_other _ _ _ _ (fun e => hne (by rw [e]))⟩
theorem own_not_box {w : World} {base b : Nat} {v : Value} {xs : List Int} {cs : Array Value} {t : TypeId} {fz : Nat × Nat} (h : OwnI w base v xs) (hb : w.heap[b]? = some (.cells cs t fz)) (ht : t ≠ 3) : v.ownBlock = none ∨ v.ownBlock ≠ some b := by
  rcases h.2 with ⟨rfl, _⟩ | ⟨g, cap, cur, rfl, _, hg, _⟩
  · exact .inl rfl
  · refine .inr fun e => ?_
    simp only [Value.ownBlock, Option.some.injEq] at e
    subst e
    rw [hg] at hb
    simp only [Option.some.injEq, Obj.cells.injEq] at hb
    exact ht hb.2.1.symm
theorem grown_new {w w1 w2 : World} {row r2 : Option Nat} (h : w.grownBy w1 row) (k : w1.grownBy w2 r2) (hr : ∀ b, r2 = some b → w.heap.size ≤ b) : w.grownBy w2 row :=
  ⟨k.os.trans h.os, k.tape.trans h.tape, k.output.trans h.output, Nat.le_trans h.size k.size, fun i hi hne => (k.block i (Nat.lt_of_lt_of_le hi h.size) (fun e => by have := hr i e.symm; omega)).trans (h.block i hi hne)⟩
theorem grown_alloc {w w1 : World} {row : Option Nat} (h : w.grownBy w1 row) (o : Obj) : w.grownBy (w1.alloc o) row :=
  grown_new h (below_grown ((Below.refl _ _).alloc (Nat.le_refl _) o)) (fun b e => by cases e)

theorem wpList_addI_at {ops : Array Oper} {rest : List Oper} {o : Oper} {a : Act} {w0 : World} {Q : Exit → Act → World → Prop} {x : Int} {base : Nat} {v : Value} {xs : List Int} (s y : Operand) (hgd : o.guard = none)
    (ho : o.op = .call { callee := .builtin .append, args := #[s, y], argTypes := #[23, 23] })
    (hs : a.eval s = v) (hy : a.eval y = .slice (some ⟨w0.heap.size, 0, none⟩) 1 1) (hv : OwnI w0 base v xs) (hl : xs.length ≤ 1048576) (hb : base ≤ w0.heap.size)
    (h : ∀ v' w', OwnI w' base v' (xs ++ [x]) → (w0.alloc (.cells #[.int .i64 x] 3)).grownBy w' v.ownBlock → (v'.ownBlock = v.ownBlock ∨ v'.ownBlock = some (w0.heap.size + 1)) → wpList Tryz.prog ops Q rest (a.put o.dst v') w') :
    wpList Tryz.prog ops Q (o :: rest) a (w0.alloc (.cells #[.int .i64 x] 3)) := by
  obtain ⟨i0, hi, hz0, hz1, hz2⟩ := info_parts info_int
  refine wpList_append_own_at _ hgd s y 23 ho base 3 i0 (.int .i64 0) 1 8 Tryz.underlying23 hi hz0 hz1 hz2 rfl (by decide) v xs.length (xs.map (Value.int .i64)) hs (hv.alloc _) ⟨w0.heap.size, 0, none⟩ 1 1 [.int .i64 x] hy rfl (cell_one_new _ _ _) ?c2 ?c3 ?c4 ?c5 ?_
  case c2 => intro u hu; simp at hu; subst hu; rfl
  case c3 => simp only [maxLen]; omega
  case c4 => omega
  case c5 => simp; omega
  intro v' w' hown' hgrow _ hat
  refine h v' w' ?_ hgrow (by rw [Go.Deep.nblk_alloc] at hat; exact hat)
  unfold OwnI
  rw [List.length_append, List.map_append]
  exact hown'

/-- A single line of the call's own that lies in a box. -/
structure SB (X : World) (b base : Nat) (s : Sg) (u1 u2 : Value) : Prop where
  box : Quad X b u1 u2 (.int .i64 s.run) (.int .i64 s.head) 25
  a : OwnI X base u1 s.A
  b : OwnI X base u2 s.B
  ap : u1.ownBlock = none ∨ u1.ownBlock ≠ u2.ownBlock
  ap' : u2.ownBlock = none ∨ u2.ownBlock ≠ u1.ownBlock
theorem single_int : 25 ≠ 3 := by decide
theorem rdr_int : 53 ≠ 3 := by decide
theorem rdr_single : 53 ≠ 25 := by decide
theorem SB.pick {X X' : World} {b base g p : Nat} {s : Sg} {u1 u2 : Value} (h : SB X b base s u1 u2) (hr : Rdr X g p) (k : X.grownBy X' (some g)) : SB X' b base s u1 u2 := by
  obtain ⟨rv, rn, hg, -, -⟩ := hr
  have hbg : b ≠ g := by
    intro e
    subst e
    have := h.box
    unfold Quad at this
    rw [hg] at this
    simp only [Option.some.injEq, Obj.cells.injEq] at this
    exact rdr_single this.2.1
  exact ⟨h.box.of (k.block _ h.box.lt (by simpa using hbg)), h.a.kept k (own_not_box h.a hg rdr_int), h.b.kept k (own_not_box h.b hg rdr_int), h.ap, h.ap'⟩
theorem SB.alloc {X : World} {b base : Nat} {s : Sg} {u1 u2 : Value} (h : SB X b base s u1 u2) (o : Obj) : SB (X.alloc o) b base s u1 u2 :=
  ⟨h.box.alloc o, h.a.alloc o, h.b.alloc o, h.ap, h.ap'⟩
theorem SB.addA {X w' : World} {b base : Nat} {s : Sg} {u1 u2 v' : Value} {x : Int} {o : Obj} (h : SB X b base s u1 u2) (own' : OwnI w' base v' (s.A ++ [x])) (k : (X.alloc o).grownBy w' u1.ownBlock) (hat : v'.ownBlock = u1.ownBlock ∨ v'.ownBlock = some (X.heap.size + 1)) :
    Quad w' b u1 u2 (.int .i64 s.run) (.int .i64 s.head) 25 ∧ SB (w'.setCell ⟨b, 0, none⟩ v') b base ⟨s.A ++ [x], s.B, s.run, s.head⟩ v' u2 := by
  have nb := own_not_box h.a h.box single_int
  have q : Quad w' b u1 u2 (.int .i64 s.run) (.int .i64 s.head) 25 := (h.box.alloc o).of (k.block _ (h.box.alloc o).lt (by
    rcases nb with e | e
    · rw [e]; simp
    · exact fun q => e q.symm))
  have ob : OwnI w' base u2 s.B := (h.b.alloc o).kept k h.ap'
  have g := grownBy_set w' ⟨b, 0, none⟩ v'
  have ap2 : v'.ownBlock = none ∨ v'.ownBlock ≠ u2.ownBlock := by
    rcases hat with e | e
    · rw [e]; exact h.ap
    · refine .inr fun q => ?_
      rw [e] at q
      have := (World.ownsRow.lt h.b _ q.symm).2
      omega
  refine ⟨q, q.set0 v', own'.kept g (own_not_box own' q single_int), ob.kept g (own_not_box ob q single_int), ap2, ?_⟩
  rcases ap2 with e | e
  · rw [e]; cases u2.ownBlock <;> simp
  · exact .inr fun q => e q.symm
theorem SB.addB {X w' : World} {b base : Nat} {s : Sg} {u1 u2 v' : Value} {x : Int} {o : Obj} (h : SB X b base s u1 u2) (own' : OwnI w' base v' (s.B ++ [x])) (k : (X.alloc o).grownBy w' u2.ownBlock) (hat : v'.ownBlock = u2.ownBlock ∨ v'.ownBlock = some (X.heap.size + 1)) :
    Quad w' b u1 u2 (.int .i64 s.run) (.int .i64 s.head) 25 ∧ SB (w'.setCell ⟨b, 1, none⟩ v') b base ⟨s.A, s.B ++ [x], s.run, s.head⟩ u1 v' := by
  have nb := own_not_box h.b h.box single_int
  have q : Quad w' b u1 u2 (.int .i64 s.run) (.int .i64 s.head) 25 := (h.box.alloc o).of (k.block _ (h.box.alloc o).lt (by
    rcases nb with e | e
    · rw [e]; simp
    · exact fun q => e q.symm))
  have oa : OwnI w' base u1 s.A := (h.a.alloc o).kept k h.ap
  have g := grownBy_set w' ⟨b, 1, none⟩ v'
  have ap2 : v'.ownBlock = none ∨ v'.ownBlock ≠ u1.ownBlock := by
    rcases hat with e | e
    · rw [e]; exact h.ap'
    · refine .inr fun q => ?_
      rw [e] at q
      have := (World.ownsRow.lt h.a _ q.symm).2
      omega
  refine ⟨q, q.set1 v', oa.kept g (own_not_box oa q single_int), own'.kept g (own_not_box own' q single_int), ?_, ap2⟩
  rcases ap2 with e | e
  · rw [e]; cases u1.ownBlock <;> simp
  · exact .inr fun q => e q.symm
theorem SB.run {X : World} {b base : Nat} {s : Sg} {u1 u2 : Value} (h : SB X b base s u1 u2) (r : Int) : SB (X.setCell ⟨b, 2, none⟩ (.int .i64 r)) b base ⟨s.A, s.B, r, s.head⟩ u1 u2 :=
  ⟨h.box.set2 _, h.a.kept (grownBy_set X ⟨b, 2, none⟩ _) (own_not_box h.a h.box single_int), h.b.kept (grownBy_set X ⟨b, 2, none⟩ _) (own_not_box h.b h.box single_int), h.ap, h.ap'⟩
theorem SB.head {X : World} {b base : Nat} {s : Sg} {u1 u2 : Value} (h : SB X b base s u1 u2) (r : Int) : SB (X.setCell ⟨b, 3, none⟩ (.int .i64 r)) b base ⟨s.A, s.B, s.run, r⟩ u1 u2 :=
  ⟨h.box.set3 _, h.a.kept (grownBy_set X ⟨b, 3, none⟩ _) (own_not_box h.a h.box single_int), h.b.kept (grownBy_set X ⟨b, 3, none⟩ _) (own_not_box h.b h.box single_int), h.ap, h.ap'⟩

/-- Numbers that are small. -/
def Low (m : Int) (xs : List Int) : Prop := ∀ i, i < xs.length → -m ≤ xs.getD i 0 ∧ xs.getD i 0 ≤ m
theorem Low.nil (m : Int) : Low m [] := fun i hi => by simp at hi
theorem Low.snoc {m x : Int} {xs : List Int} (h : Low m xs) (h1 : -m ≤ x) (h2 : x ≤ m) : Low m (xs ++ [x]) := by
  intro i hi
  by_cases e : i < xs.length
  · have := h i e
    simpa [List.getD_eq_getElem?_getD, List.getElem?_append_left e] using this
  · have : i = xs.length := by simp at hi; omega
    subst this
    simpa using And.intro h1 h2
structure SmallSg (s : Sg) : Prop where
  la : s.A.length ≤ 5
  lb : s.B.length ≤ 4
  a : Low 200 s.A
  b : Low 200 s.B
  r0 : 0 ≤ s.run
  r1 : s.run ≤ 101
  h0 : 0 ≤ s.head
  h1 : s.head ≤ 102
/-- A drawn single line. -/
def DrawnSg (w : World) (g P : Nat) (e : Ending) (w' : World) : Prop :=
  ∃ (v : Value) (s : Sg) (q : Nat), e = .returned v ∧ OwnSg w' w.heap.size v s ∧ SmallSg s ∧ Rdr w' g q ∧ q ≤ P ∧ w.grownBy w' (some g)

/-- Where the drawing stands. -/
structure DS (w X : World) (g q : Nat) (s : Sg) (u1 u2 : Value) : Prop where
  sb : SB X (w.heap.size + 1 + 1 + 1) (w.heap.size + 1) s u1 u2
  rd : Rdr X g q
  gr : w.grownBy X (some g)
  rb : Quad X w.heap.size (.slice none 0 0) (.slice none 0 0) (.int .i64 0) (.int .i64 0) 25
theorem DS.pick {w X X' : World} {g q : Nat} {s : Sg} {u1 u2 : Value} (h : DS w X g q s u1 u2) (hg : g < w.heap.size) (hr : Rdr X' g (q + 1)) (k : X.grownBy X' (some g)) : DS w X' g (q + 1) s u1 u2 :=
  ⟨h.sb.pick h.rd k, hr, grown_trans h.gr k, h.rb.of (k.block _ h.rb.lt (by simp; omega))⟩
theorem DS.forms {w X : World} {g q : Nat} {s : Sg} {u1 u2 : Value} (h : DS w X g q s u1 u2) : (∃ a n c, u1 = .slice a n c) ∧ ∃ a n c, u2 = .slice a n c := ⟨own_is_slice h.sb.a, own_is_slice h.sb.b⟩
theorem DS.addA {w X w' : World} {g q : Nat} {s : Sg} {u1 u2 v' : Value} {x : Int} {o : Obj} (h : DS w X g q s u1 u2) (hg : g < w.heap.size) (own' : OwnI w' (w.heap.size + 1) v' (s.A ++ [x])) (k : (X.alloc o).grownBy w' u1.ownBlock) (hat : v'.ownBlock = u1.ownBlock ∨ v'.ownBlock = some (X.heap.size + 1)) :
    Quad w' (w.heap.size + 1 + 1 + 1) u1 u2 (.int .i64 s.run) (.int .i64 s.head) 25 ∧ DS w (w'.setCell ⟨w.heap.size + 1 + 1 + 1, 0, none⟩ v') g q ⟨s.A ++ [x], s.B, s.run, s.head⟩ v' u2 := by
  obtain ⟨q1, q2⟩ := h.sb.addA own' k hat
  have low : ∀ c, u1.ownBlock = some c → w.heap.size + 1 ≤ c := fun c e => (World.ownsRow.lt h.sb.a c e).1
  have g1 := grownBy_set w' ⟨w.heap.size + 1 + 1 + 1, 0, none⟩ v'
  have rd1 : Rdr w' g q := (h.rd.grown (below_grown (below_alloc X o)) (fun b e => by cases e)).grown k (fun c e => by have := low c e; omega)
  refine ⟨q1, q2, rd1.grown g1 (fun c e => by simp at e; omega), grown_new (grown_new (grown_alloc h.gr o) k (fun c e => by have := low c e; omega)) g1 (fun c e => by simp at e; omega), ?_⟩
  exact (((h.rb.alloc o).of (k.block _ (h.rb.alloc o).lt (fun e => by have := low _ e.symm; omega)))).other (by simp; omega) _
theorem DS.addB {w X w' : World} {g q : Nat} {s : Sg} {u1 u2 v' : Value} {x : Int} {o : Obj} (h : DS w X g q s u1 u2) (hg : g < w.heap.size) (own' : OwnI w' (w.heap.size + 1) v' (s.B ++ [x])) (k : (X.alloc o).grownBy w' u2.ownBlock) (hat : v'.ownBlock = u2.ownBlock ∨ v'.ownBlock = some (X.heap.size + 1)) :
    Quad w' (w.heap.size + 1 + 1 + 1) u1 u2 (.int .i64 s.run) (.int .i64 s.head) 25 ∧ DS w (w'.setCell ⟨w.heap.size + 1 + 1 + 1, 1, none⟩ v') g q ⟨s.A, s.B ++ [x], s.run, s.head⟩ u1 v' := by
  obtain ⟨q1, q2⟩ := h.sb.addB own' k hat
  have low : ∀ c, u2.ownBlock = some c → w.heap.size + 1 ≤ c := fun c e => (World.ownsRow.lt h.sb.b c e).1
  have g1 := grownBy_set w' ⟨w.heap.size + 1 + 1 + 1, 1, none⟩ v'
  have rd1 : Rdr w' g q := (h.rd.grown (below_grown (below_alloc X o)) (fun b e => by cases e)).grown k (fun c e => by have := low c e; omega)
  refine ⟨q1, q2, rd1.grown g1 (fun c e => by simp at e; omega), grown_new (grown_new (grown_alloc h.gr o) k (fun c e => by have := low c e; omega)) g1 (fun c e => by simp at e; omega), ?_⟩
  exact (((h.rb.alloc o).of (k.block _ (h.rb.alloc o).lt (fun e => by have := low _ e.symm; omega)))).other (by simp; omega) _
theorem DS.run {w X : World} {g q : Nat} {s : Sg} {u1 u2 : Value} (h : DS w X g q s u1 u2) (hg : g < w.heap.size) (r : Int) : DS w (X.setCell ⟨w.heap.size + 1 + 1 + 1, 2, none⟩ (.int .i64 r)) g q ⟨s.A, s.B, r, s.head⟩ u1 u2 := by
  have g1 := grownBy_set X ⟨w.heap.size + 1 + 1 + 1, 2, none⟩ (.int .i64 r)
  exact ⟨h.sb.run r, h.rd.grown g1 (fun c e => by simp at e; omega), grown_new h.gr g1 (fun c e => by simp at e; omega), h.rb.other (by simp; omega) _⟩
theorem DS.head {w X : World} {g q : Nat} {s : Sg} {u1 u2 : Value} (h : DS w X g q s u1 u2) (hg : g < w.heap.size) (r : Int) : DS w (X.setCell ⟨w.heap.size + 1 + 1 + 1, 3, none⟩ (.int .i64 r)) g q ⟨s.A, s.B, s.run, r⟩ u1 u2 := by
  have g1 := grownBy_set X ⟨w.heap.size + 1 + 1 + 1, 3, none⟩ (.int .i64 r)
  exact ⟨h.sb.head r, h.rd.grown g1 (fun c e => by simp at e; omega), grown_new h.gr g1 (fun c e => by simp at e; omega), h.rb.other (by simp; omega) _⟩

theorem DS.alloc {w X : World} {g q : Nat} {s : Sg} {u1 u2 : Value} (h : DS w X g q s u1 u2) (o : Obj) : DS w (X.alloc o) g q s u1 u2 :=
  ⟨h.sb.alloc o, h.rd.grown (below_grown (below_alloc X o)) (fun b e => by cases e), grown_alloc h.gr o, h.rb.alloc o⟩
theorem DS.drew {w X : World} {g q n : Nat} {s : Sg} {u1 u2 : Value} (h : DS w X g q s u1 u2) : DS w { X with drawn := n } g q s u1 u2 :=
  ⟨⟨h.sb.box, h.sb.a, h.sb.b, h.sb.ap, h.sb.ap'⟩, h.rd, ⟨h.gr.os, h.gr.tape, h.gr.output, h.gr.size, h.gr.block⟩, h.rb⟩
theorem DS.pick2 {w X X' : World} {g q : Nat} {s : Sg} {u1 u2 : Value} {o : Obj} (h : DS w X g q s u1 u2) (hg : g < w.heap.size) (hr : Rdr X' g (q + 1)) (k : (X.alloc o).grownBy X' (some g)) : DS w X' g (q + 1) s u1 u2 :=
  ⟨(h.sb.alloc o).pick (h.rd.grown (below_grown (below_alloc X o)) (fun b e => by cases e)) k, hr, grown_trans (grown_alloc h.gr o) k, (h.rb.alloc o).of (k.block _ (h.rb.alloc o).lt (by simp; omega))⟩
theorem lit_two {w w' : World} {g : Nat} {c x y hi : Int} (h : (w.alloc (.cells #[.int .i64 x, .int .i64 y] 3)).grownBy w' (some g)) (hg : g < w.heap.size) (h0 : 0 ≤ c) (h1 : c < 2) (hx : 0 ≤ x ∧ x ≤ hi := by decide) (hy : 0 ≤ y ∧ y ≤ hi := by decide) : ∃ z : Int, w'.cell? ⟨w.heap.size, c.toNat, none⟩ = some (.int .i64 z) ∧ 0 ≤ z ∧ z ≤ hi := by
  have hb : w'.heap[w.heap.size]? = some (Obj.cells #[.int .i64 x, .int .i64 y] 3 (0, 0)) := (h.block _ (by simp) (by simp; omega)).trans (Go.Deep.blk_alloc_new _ _)
  have e : c.toNat = 0 ∨ c.toNat = 1 := by omega
  rcases e with e | e <;> rw [e]
  · exact ⟨x, by simp only [World.cell?, hb]; rfl, hx⟩
  · exact ⟨y, by simp only [World.cell?, hb]; rfl, hy⟩
theorem DS.finish {w X : World} {g q P : Nat} {s : Sg} {u1 u2 : Value} (h : DS w X g q s u1 u2) (hg : g < w.heap.size) (hs : SmallSg s) (hq : q ≤ P) :
    DrawnSg w g P (.returned (.agg #[u1, u2, .int .i64 s.run, .int .i64 s.head])) ((((X.setCell ⟨w.heap.size, 0, none⟩ u1).setCell ⟨w.heap.size, 1, none⟩ u2).setCell ⟨w.heap.size, 2, none⟩ (.int .i64 s.run)).setCell ⟨w.heap.size, 3, none⟩ (.int .i64 s.head)) ∧
    Quad ((((X.setCell ⟨w.heap.size, 0, none⟩ u1).setCell ⟨w.heap.size, 1, none⟩ u2).setCell ⟨w.heap.size, 2, none⟩ (.int .i64 s.run)).setCell ⟨w.heap.size, 3, none⟩ (.int .i64 s.head)) w.heap.size u1 u2 (.int .i64 s.run) (.int .i64 s.head) 25 := by
  have low : ∀ i, (⟨w.heap.size, i, none⟩ : Addr).block < w.heap.size + 1 := fun i => by simp
  have o1 := (((h.sb.a.setBelow (low 0) u1).setBelow (low 1) u2).setBelow (low 2) (.int .i64 s.run)).setBelow (low 3) (.int .i64 s.head)
  have o2 := (((h.sb.b.setBelow (low 0) u1).setBelow (low 1) u2).setBelow (low 2) (.int .i64 s.run)).setBelow (low 3) (.int .i64 s.head)
  have one : ∀ {Y : World} (i : Nat) (v : Value), Rdr Y g q → w.grownBy Y (some g) → Rdr (Y.setCell ⟨w.heap.size, i, none⟩ v) g q ∧ w.grownBy (Y.setCell ⟨w.heap.size, i, none⟩ v) (some g) := fun i v r k =>
    ⟨r.grown (grownBy_set _ ⟨w.heap.size, i, none⟩ v) (fun c e => by simp at e; omega), grown_new k (grownBy_set _ ⟨w.heap.size, i, none⟩ v) (fun c e => by simp at e; omega)⟩
  have r1 := one 0 u1 h.rd h.gr
  have r2 := one 1 u2 r1.1 r1.2
  have r3 := one 2 (.int .i64 s.run) r2.1 r2.2
  have r4 := one 3 (.int .i64 s.head) r3.1 r3.2
  exact ⟨⟨_, s, q, rfl, ⟨u1, u2, rfl, o1.mono (by omega), o2.mono (by omega), h.sb.ap, h.sb.ap'⟩, hs, r4.1, hq, r4.2⟩, h.rb.stored u1 u2 (.int .i64 s.run) (.int .i64 s.head)⟩

/-- A block of two integers that a region has made. -/
def Lit2 (hi : Int) (v : Value) (w : World) : Prop := ∃ blk x y, v = .slice (some ⟨blk, 0, none⟩) 2 2 ∧ w.heap[blk]? = some (.cells #[.int .i64 x, .int .i64 y] 3 (0, 0)) ∧ (0 ≤ x ∧ x ≤ hi) ∧ 0 ≤ y ∧ y ≤ hi
def Lit2At (hi : Int) (v : Value) (w : World) : Prop := ∃ blk j x y, v = .pointer (some ⟨blk, j, none⟩) ∧ j < 2 ∧ w.heap[blk]? = some (.cells #[.int .i64 x, .int .i64 y] 3 (0, 0)) ∧ (0 ≤ x ∧ x ≤ hi) ∧ 0 ≤ y ∧ y ≤ hi
/-- No block of integers has been written. -/
def TI (w w' : World) : Prop := ∀ (k : Nat) (cs : Array Value), w.heap[k]? = some (Obj.cells cs 3 (0, 0)) → w'.heap[k]? = w.heap[k]?
theorem Lit2.kept {hi : Int} {v : Value} {w w' : World} (h : Lit2 hi v w) (k : TI w w') : Lit2 hi v w' := by
  obtain ⟨b, x, y, e, hb, hh⟩ := h; exact ⟨b, x, y, e, (k _ _ hb).trans hb, hh⟩
theorem Lit2At.kept {hi : Int} {v : Value} {w w' : World} (h : Lit2At hi v w) (k : TI w w') : Lit2At hi v w' := by
  obtain ⟨b, j, x, y, e, hj, hb, hh⟩ := h; exact ⟨b, j, x, y, e, hj, (k _ _ hb).trans hb, hh⟩
theorem TI.refl (w : World) : TI w w := fun _ _ _ => rfl
theorem TI.alloc (w : World) (o : Obj) : TI w (w.alloc o) := fun _ _ h => Go.Deep.blk_alloc_lt _ _ _ (Array.getElem?_eq_some_iff.1 h).1
theorem TI.pick {w w' : World} {g p : Nat} (h : Rdr w g p) (k : w.grownBy w' (some g)) : TI w w' := by
  obtain ⟨rv, rn, hg, -, -⟩ := h
  intro j cs hj
  refine k.block j (Array.getElem?_eq_some_iff.1 hj).1 (fun e => ?_)
  simp only [Option.some.injEq] at e
  subst e
  rw [hj] at hg
  simp only [Option.some.injEq, Obj.cells.injEq] at hg
  exact rdr_int hg.2.1.symm
theorem TI.set {w : World} {b i : Nat} {x y z u v : Value} (h : Quad w b x y z u 25) : TI w (w.setCell ⟨b, i, none⟩ v) := by
  intro j cs hj
  refine Go.Deep.blk_setCell_other _ _ _ _ (fun e => ?_)
  simp only at e
  subst e
  unfold Quad at h
  rw [hj] at h
  simp only [Option.some.injEq, Obj.cells.injEq] at h
  exact single_int h.2.1.symm
/-- What is good in the region that draws a head. -/
def GH (b g : Nat) (run : Int) (i : Nat) (v : Value) (w : World) : Prop :=
  match i with
  | 0 => v = .pointer (some ⟨b, 2, none⟩)
  | 1 => v = .int .i64 run
  | 2 => v = .int .i64 (run + 1)
  | 3 => Lit2 102 v w
  | 4 => v = .pointer (some ⟨g, 0, none⟩)
  | 5 => ∃ r : Int, v = .int .i64 r ∧ 0 ≤ r ∧ r < 2
  | 6 => Lit2At 102 v w
  | 7 => ∃ x : Int, v = .int .i64 x ∧ 0 ≤ x ∧ x ≤ 102
  | 8 => v = .pointer (some ⟨b, 3, none⟩)
  | _ => True
theorem GH.kept {b g : Nat} {run : Int} (i : Nat) (v : Value) (w w' : World) (k : TI w w') (h : GH b g run i v w) : GH b g run i v w' := by
  unfold GH at h ⊢
  split at h <;> first | exact h | exact Lit2.kept h k | exact Lit2At.kept h k
def RH (w : World) (g P : Nat) (A B : List Int) (run : Int) (u1 u2 : Value) (m : Nat) (X : World) : Prop := ∃ q hd, DS w X g q ⟨A, B, run, hd⟩ u1 u2 ∧ q + m ≤ P ∧ 0 ≤ hd ∧ hd ≤ 102

set_option maxRecDepth 100000 in
set_option maxHeartbeats 4000000 in
theorem drawSingle {w : World} {g p : Nat} (h : Rdr w g p) (hp : p ≤ 500) :
    Calls Tryz.prog 26 #[.pointer (some ⟨g, 0, none⟩)] w (DrawnSg w g (p + 30)) := by
  have hgl := h.lt
  have HG := Lib.hid hgl
  have q0 := Quad.new w (.slice none 0 0) (.slice none 0 0) (.int .i64 0) (.int .i64 0) 25
  have b0 := below_alloc w (.cells #[.slice none 0 0, .slice none 0 0, .int .i64 0, .int .i64 0] 25)
  have s0 : (w.alloc (.cells #[.slice none 0 0, .slice none 0 0, .int .i64 0, .int .i64 0] 25)).heap.size = w.heap.size + 1 := Go.Deep.nblk_alloc _ _
  obtain ⟨W0, hW0⟩ : ∃ X, X = w.alloc (.cells #[.slice none 0 0, .slice none 0 0, .int .i64 0, .int .i64 0] 25) := ⟨_, rfl⟩
  rw [← hW0] at q0 b0 s0
  have o1 := own_empty W0
  have b1 := below_alloc W0 (.cells #[] 3)
  have s1 : (W0.alloc (.cells #[] 3)).heap.size = W0.heap.size + 1 := Go.Deep.nblk_alloc _ _
  obtain ⟨W1, hW1⟩ : ∃ X, X = W0.alloc (.cells #[] 3) := ⟨_, rfl⟩
  rw [← hW1] at o1 b1 s1
  have o2 := own_empty W1
  have b2 := below_alloc W1 (.cells #[] 3)
  have s2 : (W1.alloc (.cells #[] 3)).heap.size = W1.heap.size + 1 := Go.Deep.nblk_alloc _ _
  obtain ⟨W2, hW2⟩ : ∃ X, X = W1.alloc (.cells #[] 3) := ⟨_, rfl⟩
  rw [← hW2] at o2 b2 s2
  have q3 := Quad.new W2 (.slice (some ⟨W0.heap.size, 0, none⟩) 0 0) (.slice (some ⟨W1.heap.size, 0, none⟩) 0 0) (.int .i64 0) (.int .i64 0) 25
  have b3 := below_alloc W2 (.cells #[.slice (some ⟨W0.heap.size, 0, none⟩) 0 0, .slice (some ⟨W1.heap.size, 0, none⟩) 0 0, .int .i64 0, .int .i64 0] 25)
  obtain ⟨W3, hW3⟩ : ∃ X, X = W2.alloc (.cells #[.slice (some ⟨W0.heap.size, 0, none⟩) 0 0, .slice (some ⟨W1.heap.size, 0, none⟩) 0 0, .int .i64 0, .int .i64 0] 25) := ⟨_, rfl⟩
  rw [← hW3] at q3 b3
  have bb := ((b0.trans (b1.mono b0.size)).trans (b2.mono (by omega))).trans (b3.mono (by omega))
  have e2 : W2.heap.size = w.heap.size + 1 + 1 + 1 := by rw [s2, s1, s0]
  have D := Lib.hid (show DS w W3 g p ⟨[], [], 0, 0⟩ (.slice (some ⟨W0.heap.size, 0, none⟩) 0 0) (.slice (some ⟨W1.heap.size, 0, none⟩) 0 0) from
    ⟨⟨by rw [e2] at q3; exact q3, ((o1.below b2).below b3).mono (by omega), (o2.below b3).mono (by omega), .inr (by simp [Value.ownBlock]; omega), .inr (by simp [Value.ownBlock]; omega)⟩, h.grown (below_grown bb) (fun b e => by cases e),
      ⟨bb.os, bb.tape, bb.output, bb.size, fun i hi _ => bb.block i hi⟩, ((q0.below b1).below b2).below b3⟩)
  have HW := Lib.hid (show (((w.alloc (.cells #[.slice none 0 0, .slice none 0 0, .int .i64 0, .int .i64 0] 25)).alloc (.cells #[] 3)).alloc (.cells #[] 3)).alloc (.cells #[.slice (some ⟨w.heap.size + 1, 0, none⟩) 0 0, .slice (some ⟨w.heap.size + 1 + 1, 0, none⟩) 0 0, .int .i64 0, .int .i64 0] 25) = W3 by
    rw [hW3, hW2, hW1, hW0]; simp)
  rw [s1, s0] at D
  clear q0 b0 s0 o1 b1 s1 o2 b2 s2 q3 b3 hW0 hW1 hW2 hW3 h bb
  go_enter Tryz.func26, Tryz.ntmps26
  go_upto_region 2 with fail
  rw [HW.out]
  go_upto_region 3 with (go_at_call 28; refine (pick D.out.rd (by omega) (by omega) (by omega)).mono ?_; rintro e w4 ⟨a, rfl, ha0, ha1, hr4, g4⟩)
  have D4 := Lib.hid (D.out.pick hgl hr4 g4)
  have ha1 := ha1 (by omega)
  clear hr4 g4
  go_upto_region 4 with (go_at_call 28; refine (pick D4.out.rd (by omega) (by omega) (by omega)).mono ?_; rintro e w5 ⟨b, rfl, hb0, hb1, hr5, g5⟩)
  have D5 := Lib.hid (D4.out.pick hgl hr5 g5)
  have hb1 := hb1 (by omega)
  clear hr5 g5
  go_upto_region 5 with (go_at_call 28; refine (pick D5.out.rd (by omega) (by omega) (by omega)).mono ?_; rintro e w6 ⟨n, rfl, hn0, hn1, hr6, g6⟩)
  have D6 := Lib.hid (D5.out.pick hgl hr6 g6)
  have hn1 := hn1 (by omega)
  clear hr6 g6
  go_upto_region 6 with (go_at_call 28; refine (pick D6.out.rd (by omega) (by omega) (by omega)).mono ?_; rintro e w7 ⟨m, rfl, hm0, hm1, hr7, g7⟩)
  have D7 := Lib.hid (D6.out.pick hgl hr7 g7)
  have hm1 := hm1 (by omega)
  clear hr7 g7 D4 D5 D6 D e2 HW
  go_wp2_with fail
  go_loopw [4, 8] (fun x i wr => ∃ (k : Nat) (av : Int) (As : List Int) (u1 u2 : Value), (k : Int) ≤ n ∧ i = .int .i64 k ∧ x = .int .i64 av ∧ 0 ≤ av ∧ av ≤ 30 + 9 * (k : Int) ∧ As.length = k ∧ Hid (Low 200 As) ∧ Hid (DS w wr g (p + 1 + 1 + 1 + 1 + k) ⟨As, [], 0, 0⟩ u1 u2)) (fun _ i _ => (4 - intOf i).toNat)
  case atStart => exact ⟨0, a, [], _, _, by omega, rfl, rfl, ha0, by omega, rfl, Lib.hid (Low.nil _), D7⟩
  case round =>
    obtain ⟨k, av, As, u1, u2, hk, rfl, rfl, hav0, hav1, hlen, HL, HD⟩ := hrel
    have hk3 : k ≤ 3 := by omega
    by_cases hlt : (k : Int) < n
    · obtain ⟨⟨x1, x2, x3, rfl⟩, ⟨y1, y2, y3, rfl⟩⟩ := HD.out.forms
      have c0 := HD.out.sb.box.cell0
      have hb := HD.out.sb.box.lt
      have HA := Lib.hid (show OwnI wr (w.heap.size + 1) (.slice x1 x2 x3) As from HD.out.sb.a)
      have HN := Lib.hid hlen
      clear hlen
      go_upto_region 10 with (at_builtin; refine wpList_addI_at _ _ rfl rfl rfl rfl HA.out (by have := HN.out; omega) (by omega) ?_; intro v' w' o' k' hat; obtain ⟨Q1, DN⟩ := HD.out.addA HG.out o' k' hat; obtain ⟨z1, z2, z3, rfl⟩ := own_is_slice o'; have d0 := Q1.cell0; have f0 := Q1.frozen 0)
      have DN := Lib.hid DN
      have hw2 : IntKind.i64.wrap (av + 0) = av + 0 := IntWalk.i64_in _ (by omega)
      clear hw2 c0 d0 f0 o' k' hat Q1 hb
      go_wp2_with (go_at_call 28; refine (pick DN.out.rd (by omega) (by omega) (by omega)).mono ?_; rintro e w9 ⟨r, rfl, hr0, hr1, hr9, g9⟩)
      have hr1 := hr1 (by omega)
      have D9 := Lib.hid (DN.out.pick hgl hr9 g9)
      clear hr9 g9
      go_roundw
      case rel => exact ⟨k + 1, av + r, As ++ [av], _, _, by omega, by go_num, rfl, by omega, by omega, by rw [List.length_append, HN.out]; rfl, Lib.hid (HL.out.snoc (by omega) (by omega)), D9⟩
      case measure => simp [intOf]; omega
    · have HN := Lib.hid hlen
      have HAs := Lib.hid HL.out
      clear hlen D7
      go_wp2_with fail
      go_loopw [5, 9] (fun x i wr => ∃ (k2 : Nat) (bv : Int) (Bs : List Int) (u1 u2 : Value), (k2 : Int) ≤ m ∧ i = .int .i64 k2 ∧ x = .int .i64 bv ∧ 0 ≤ bv ∧ bv ≤ 30 + 9 * (k2 : Int) ∧ Bs.length = k2 ∧ Hid (Low 200 Bs) ∧ Hid (DS w wr g (p + 1 + 1 + 1 + 1 + k + k2) ⟨As, Bs, 0, 0⟩ u1 u2)) (fun _ i _ => (4 - intOf i).toNat)
      case atStart => exact ⟨0, b, [], _, _, by omega, rfl, rfl, hb0, by omega, rfl, Lib.hid (Low.nil _), HD⟩
      case round =>
        obtain ⟨k2, bv, Bs, u3, u4, hk2, rfl, rfl, hbv0, hbv1, hlen2, HL2, HD2⟩ := hrel
        have hk23 : k2 ≤ 3 := by omega
        by_cases hlt2 : (k2 : Int) < m
        · obtain ⟨⟨x1, x2, x3, rfl⟩, ⟨y1, y2, y3, rfl⟩⟩ := HD2.out.forms
          have c0 := HD2.out.sb.box.cell1
          have hb := HD2.out.sb.box.lt
          have HB := Lib.hid (show OwnI wr (w.heap.size + 1) (.slice y1 y2 y3) Bs from HD2.out.sb.b)
          have HN2 := Lib.hid hlen2
          clear hlen2
          go_upto_region 15 with (at_builtin; refine wpList_addI_at _ _ rfl rfl rfl rfl HB.out (by have := HN2.out; omega) (by omega) ?_; intro v' w' o' k' hat; obtain ⟨Q1, DN⟩ := HD2.out.addB HG.out o' k' hat; obtain ⟨z1, z2, z3, rfl⟩ := own_is_slice o'; have d0 := Q1.cell1; have f0 := Q1.frozen 1)
          have DN := Lib.hid DN
          clear c0 d0 f0 o' k' hat Q1 hb
          go_wp2_with (go_at_call 28; refine (pick DN.out.rd (by omega) (by omega) (by omega)).mono ?_; rintro e w9 ⟨r, rfl, hr0, hr1, hr9, g9⟩)
          have hr1 := hr1 (by omega)
          have D9 := Lib.hid (DN.out.pick hgl hr9 g9)
          clear hr9 g9
          go_roundw
          case rel => exact ⟨k2 + 1, bv + r, Bs ++ [bv], _, _, by omega, by go_num, rfl, by omega, by omega, by rw [List.length_append, HN2.out]; rfl, Lib.hid (HL2.out.snoc (by omega) (by omega)), D9⟩
          case measure => simp [intOf]; omega
        · have HN2 := Lib.hid hlen2
          clear hlen2
          go_upto_region 16 with fail
          obtain ⟨P, hP⟩ : ∃ P, P = p + 1 + 1 + 1 + 1 + k + k2 := ⟨_, rfl⟩
          have hP2 : P ≤ p + 12 := by omega
          rw [← hP] at HD2
          have c2 := HD2.out.sb.box.cell2
          clear hP
          have PA := Lib.hid (And.intro HAs.out HL2.out)
          have LN := Lib.hid (show As.length ≤ 3 ∧ Bs.length ≤ 3 from ⟨by have := HN.out; omega, by have := HN2.out; omega⟩)
          clear c2 hbv0 hbv1 hk2 hlt2 hk23 hav0 hav1 hk hlt hk3 ha0 ha1 hb0 hb1 hn0 hn1 hm0 hm1
          go_upto_region 17 with (go_at_call 28; refine (pick HD2.out.rd (by omega) (by omega) (by omega)).mono ?_; rintro e w8 ⟨r, rfl, hr0, hr1, hr8, g8⟩; have D8 := Lib.hid (HD2.out.pick hgl hr8 g8); have d2 := D8.out.sb.box.cell2; have f2 := D8.out.sb.box.frozen 2)
          have hr1 := hr1 (by omega)
          have D9 := Lib.hid (D8.out.run hgl (2 + r))
          clear hr8 g8 d2 f2 D8
          obtain ⟨w9, hw9⟩ : ∃ X, X = w8.setCell ⟨w.heap.size + 1 + 1 + 1, 2, none⟩ (.int .i64 (2 + r)) := ⟨_, rfl⟩
          rw [← hw9] at D9 ⊢
          have c2 := D9.out.sb.box.cell2
          clear hw9
          go_upto_region 18 with (go_at_call 28; refine (pick D9.out.rd (by omega) (by omega) (by omega)).mono ?_; rintro e w10 ⟨h, rfl, hh0, hh1, hr10, g10⟩; have D10 := Lib.hid (D9.out.pick hgl hr10 g10); have d3 := D10.out.sb.box.cell3; have f3 := D10.out.sb.box.frozen 3)
          have hh1 := hh1 (by omega)
          have D11 := Lib.hid (D10.out.head hgl (1 + h))
          clear hr10 g10 d3 f3 D10 c2
          obtain ⟨w11, hw11⟩ : ∃ X, X = w10.setCell ⟨w.heap.size + 1 + 1 + 1, 3, none⟩ (.int .i64 (1 + h)) := ⟨_, rfl⟩
          rw [← hw11] at D11 ⊢
          clear hw11
          go_upto_region 19 with (go_at_call 28; refine (pick D11.out.rd (by omega) (by omega) (by omega)).mono ?_; rintro e w12 ⟨z, rfl, hz0, hz1, hr12, g12⟩)
          have D12 := Lib.hid (D11.out.pick hgl hr12 g12)
          clear hr12 g12 hz1
          obtain ⟨Q, hQ⟩ : ∃ Q, Q = P + 1 + 1 + 1 := ⟨_, rfl⟩
          have hQ2 : Q ≤ p + 15 := by omega
          rw [← hQ] at D12
          clear hQ hP2
          obtain ⟨run, hrun⟩ : ∃ x, x = 2 + r := ⟨_, rfl⟩
          obtain ⟨hd, hhd⟩ : ∃ x, x = 1 + h := ⟨_, rfl⟩
          rw [← hrun, ← hhd] at D12
          have hrun1 : 2 ≤ run ∧ run ≤ 13 := by omega
          have hhd1 : 1 ≤ hd ∧ hd ≤ 13 := by omega
          obtain ⟨⟨x1, x2, x3, rfl⟩, ⟨y1, y2, y3, rfl⟩⟩ := D12.out.forms
          have SM : ∀ r' h', 0 ≤ r' → r' ≤ 101 → 0 ≤ h' → h' ≤ 102 → SmallSg ⟨As, Bs, r', h'⟩ := fun r' h' a1 a2 a3 a4 => ⟨by have := LN.out.1; simp only; omega, by have := LN.out.2; simp only; omega, PA.out.1, PA.out.2, a1, a2, a3, a4⟩
          have SM := Lib.hid SM
          clear hrun hhd hr0 hr1 hh0 hh1
          by_cases z0 : z = 0
          · subst z0
            go_upto_region 20 with fail
            have hwr : IntKind.i64.wrap (run + 1) = run + 1 := IntWalk.i64_in _ (by omega)
            refine wp_region_goods (G := GH (w.heap.size + 1 + 1 + 1) g run) (c := fun i => i == 5) (R := RH w g (p + 30) As Bs run (.slice x1 x2 x3) (.slice y1 y2 y3)) (T := TI) (by kernel_rfl) (by kernel_rfl) ?start GH.kept ⟨?s0, ?s1, ?s2, ?s3, ?s4, ?s5, ?s6, ?s7, ?s8, ?s9, trivial⟩ ?hend
            case start => exact ⟨Q, hd, D12.out.drew, by show Q + 1 ≤ p + 30; omega, by omega, by omega⟩
            case s0 =>
              intro ac wc m hR hrest _ K hK
              have e : ac.tmps.getD 3 undef = .pointer (some ⟨w.heap.size + 1 + 1 + 1, 0, none⟩) := hrest 3 (by kernel_rfl)
              have e' := slot_of e
              go_simp
              exact hK _ _ rfl hR (TI.refl _)
            case s1 =>
              intro ac wc m hR _ hdep K hK
              have e : ac.tmps.getD 65 undef = .pointer (some ⟨w.heap.size + 1 + 1 + 1, 2, none⟩) := hdep 0 (by kernel_rfl)
              have e' := slot_of e
              have hR0 := hR
              obtain ⟨q, hd', DD, -⟩ := hR
              have c2 := DD.sb.box.cell2
              go_simp
              exact hK _ _ rfl hR0 (TI.refl _)
            case s2 =>
              intro ac wc m hR _ hdep K hK
              have e : ac.tmps.getD 66 undef = .int .i64 run := hdep 1 (by kernel_rfl)
              have e' := slot_of e
              go_simp
              exact hK _ _ rfl hR (TI.refl _)
            case s3 =>
              intro ac wc m hR _ hdep K hK
              have e : ac.tmps.getD 67 undef = .int .i64 (run + 1) := hdep 2 (by kernel_rfl)
              have e' := slot_of e
              go_simp
              obtain ⟨q, hd', DD, hq⟩ := hR
              exact hK (.slice (some ⟨wc.heap.size, 0, none⟩) 2 2) _ ⟨wc.heap.size, 0, run + 1, rfl, Go.Deep.blk_alloc_new _ _, by omega, by omega⟩ ⟨q, hd', DD.alloc _, hq⟩ (TI.alloc _ _)
            case s4 =>
              intro ac wc m hR hrest _ K hK
              have e : ac.tmps.getD 0 undef = .pointer (some ⟨g, 0, none⟩) := hrest 0 (by kernel_rfl)
              have e' := slot_of e
              go_simp
              exact hK _ _ rfl hR (TI.refl _)
            case s5 =>
              intro ac wc m hR _ hdep K hK
              have e : ac.tmps.getD 69 undef = .pointer (some ⟨g, 0, none⟩) := hdep 4 (by kernel_rfl)
              have e' := slot_of e
              obtain ⟨q, hd', DD, hq, hq2⟩ := hR
              have hq' : q + (m + 1) ≤ p + 30 := hq
              go_simp
              refine (pick DD.rd (by omega) (by omega) (by omega)).mono ?_
              rintro e w13 ⟨c, rfl, hc0, hc1, hr13, g13⟩
              exact hK _ _ ⟨c, rfl, hc0, hc1 (by omega)⟩ ⟨q + 1, hd', DD.pick hgl hr13 g13, by omega, hq2⟩ (TI.pick DD.rd g13)
            case s6 =>
              intro ac wc m hR _ hdep K hK
              obtain ⟨blk, x, y, e, hb, hxy⟩ : Lit2 102 (ac.tmps.getD 68 undef) wc := hdep 3 (by kernel_rfl)
              obtain ⟨c, e2, hc0, hc1⟩ : ∃ r : Int, ac.tmps.getD 70 undef = .int .i64 r ∧ 0 ≤ r ∧ r < 2 := hdep 5 (by kernel_rfl)
              have e' := slot_of e
              have e2' := slot_of e2
              have HH := Lib.hid (show Lit2At 102 (.pointer (some ⟨blk, c.toNat, none⟩)) wc from ⟨blk, c.toNat, x, y, rfl, by omega, hb, hxy⟩)
              clear hb hxy hdep
              go_simp
              exact hK (.pointer (some ⟨blk, c.toNat, none⟩)) _ HH.out hR (TI.refl _)
            case s7 =>
              intro ac wc m hR _ hdep K hK
              obtain ⟨blk, j, x, y, e, hj, hb, hx, hy⟩ : Lit2At 102 (ac.tmps.getD 71 undef) wc := hdep 6 (by kernel_rfl)
              have e' := slot_of e
              obtain ⟨z, hz, hz0, hz1⟩ : ∃ z : Int, wc.cell? ⟨blk, j, none⟩ = some (.int .i64 z) ∧ 0 ≤ z ∧ z ≤ 102 := by
                have ej : j = 0 ∨ j = 1 := by omega
                rcases ej with rfl | rfl
                · exact ⟨x, by simp only [World.cell?, hb]; rfl, hx⟩
                · exact ⟨y, by simp only [World.cell?, hb]; rfl, hy⟩
              clear hb hx hy hdep hj
              go_simp
              exact hK _ _ ⟨z, rfl, hz0, hz1⟩ hR (TI.refl _)
            case s8 =>
              intro ac wc m hR hrest _ K hK
              have e : ac.tmps.getD 3 undef = .pointer (some ⟨w.heap.size + 1 + 1 + 1, 0, none⟩) := hrest 3 (by kernel_rfl)
              have e' := slot_of e
              go_simp
              exact hK _ _ rfl hR (TI.refl _)
            case s9 =>
              intro ac wc m hR _ hdep K hK
              have e : ac.tmps.getD 73 undef = .pointer (some ⟨w.heap.size + 1 + 1 + 1, 3, none⟩) := hdep 8 (by kernel_rfl)
              have e' := slot_of e
              obtain ⟨x, e2, hx0, hx1⟩ : ∃ x : Int, ac.tmps.getD 72 undef = .int .i64 x ∧ 0 ≤ x ∧ x ≤ 102 := hdep 7 (by kernel_rfl)
              have e2' := slot_of e2
              obtain ⟨q, hd', DD, hq, hq2⟩ := hR
              have c3 := DD.sb.box.cell3
              have f3 := DD.sb.box.frozen 3
              have DE := Lib.hid (DD.head hgl x)
              have TE := Lib.hid (TI.set (i := 3) (v := .int .i64 x) DD.sb.box)
              clear DD hdep
              go_simp
              exact hK undef _ trivial ⟨q, x, DE.out, hq, hx0, hx1⟩ TE.out
            case hend =>
              rintro ⟨tm, df⟩ wc hsz hdf ⟨q, hd', DD, hq, hq0, hq1⟩ hrest _
              have hdf' : df = [] := hdf
              subst hdf'
              have e2 : tm.getD 2 undef = .pointer (some ⟨w.heap.size, 0, none⟩) := hrest 2 (by kernel_rfl)
              have e3 : tm.getD 3 undef = .pointer (some ⟨w.heap.size + 1 + 1 + 1, 0, none⟩) := hrest 3 (by kernel_rfl)
              have hsz : tm.size = 90 := hsz
              clear hrest hwr
              have htm := frame_of tm 90 hsz
              simp only [show List.range 90 = [0, 1, 2, 3, 4, 5, 6, 7, 8, 9, 10, 11, 12, 13, 14, 15, 16, 17, 18, 19, 20, 21, 22, 23, 24, 25, 26, 27, 28, 29, 30, 31, 32, 33, 34, 35, 36, 37, 38, 39, 40, 41, 42, 43, 44, 45, 46, 47, 48, 49, 50, 51, 52, 53, 54, 55, 56, 57, 58, 59, 60, 61, 62, 63, 64, 65, 66, 67, 68, 69, 70, 71, 72, 73, 74, 75, 76, 77, 78, 79, 80, 81, 82, 83, 84, 85, 86, 87, 88, 89] from rfl, List.map] at htm
              generalize tm.getD 0 undef = xx0 at *
              generalize tm.getD 1 undef = xx1 at *
              generalize tm.getD 2 undef = xx2 at *
              generalize tm.getD 3 undef = xx3 at *
              generalize tm.getD 4 undef = xx4 at *
              generalize tm.getD 5 undef = xx5 at *
              generalize tm.getD 6 undef = xx6 at *
              generalize tm.getD 7 undef = xx7 at *
              generalize tm.getD 8 undef = xx8 at *
              generalize tm.getD 9 undef = xx9 at *
              generalize tm.getD 10 undef = xx10 at *
              generalize tm.getD 11 undef = xx11 at *
              generalize tm.getD 12 undef = xx12 at *
              generalize tm.getD 13 undef = xx13 at *
              generalize tm.getD 14 undef = xx14 at *
              generalize tm.getD 15 undef = xx15 at *
              generalize tm.getD 16 undef = xx16 at *
              generalize tm.getD 17 undef = xx17 at *
              generalize tm.getD 18 undef = xx18 at *
              generalize tm.getD 19 undef = xx19 at *
              generalize tm.getD 20 undef = xx20 at *
              generalize tm.getD 21 undef = xx21 at *
              generalize tm.getD 22 undef = xx22 at *
              generalize tm.getD 23 undef = xx23 at *
              generalize tm.getD 24 undef = xx24 at *
              generalize tm.getD 25 undef = xx25 at *
              generalize tm.getD 26 undef = xx26 at *
              generalize tm.getD 27 undef = xx27 at *
              generalize tm.getD 28 undef = xx28 at *
              generalize tm.getD 29 undef = xx29 at *
              generalize tm.getD 30 undef = xx30 at *
              generalize tm.getD 31 undef = xx31 at *
              generalize tm.getD 32 undef = xx32 at *
              generalize tm.getD 33 undef = xx33 at *
              generalize tm.getD 34 undef = xx34 at *
              generalize tm.getD 35 undef = xx35 at *
              generalize tm.getD 36 undef = xx36 at *
              generalize tm.getD 37 undef = xx37 at *
              generalize tm.getD 38 undef = xx38 at *
              generalize tm.getD 39 undef = xx39 at *
              generalize tm.getD 40 undef = xx40 at *
              generalize tm.getD 41 undef = xx41 at *
              generalize tm.getD 42 undef = xx42 at *
              generalize tm.getD 43 undef = xx43 at *
              generalize tm.getD 44 undef = xx44 at *
              generalize tm.getD 45 undef = xx45 at *
              generalize tm.getD 46 undef = xx46 at *
              generalize tm.getD 47 undef = xx47 at *
              generalize tm.getD 48 undef = xx48 at *
              generalize tm.getD 49 undef = xx49 at *
              generalize tm.getD 50 undef = xx50 at *
              generalize tm.getD 51 undef = xx51 at *
              generalize tm.getD 52 undef = xx52 at *
              generalize tm.getD 53 undef = xx53 at *
              generalize tm.getD 54 undef = xx54 at *
              generalize tm.getD 55 undef = xx55 at *
              generalize tm.getD 56 undef = xx56 at *
              generalize tm.getD 57 undef = xx57 at *
              generalize tm.getD 58 undef = xx58 at *
              generalize tm.getD 59 undef = xx59 at *
              generalize tm.getD 60 undef = xx60 at *
              generalize tm.getD 61 undef = xx61 at *
              generalize tm.getD 62 undef = xx62 at *
              generalize tm.getD 63 undef = xx63 at *
              generalize tm.getD 64 undef = xx64 at *
              generalize tm.getD 65 undef = xx65 at *
              generalize tm.getD 66 undef = xx66 at *
              generalize tm.getD 67 undef = xx67 at *
              generalize tm.getD 68 undef = xx68 at *
              generalize tm.getD 69 undef = xx69 at *
              generalize tm.getD 70 undef = xx70 at *
              generalize tm.getD 71 undef = xx71 at *
              generalize tm.getD 72 undef = xx72 at *
              generalize tm.getD 73 undef = xx73 at *
              generalize tm.getD 74 undef = xx74 at *
              generalize tm.getD 75 undef = xx75 at *
              generalize tm.getD 76 undef = xx76 at *
              generalize tm.getD 77 undef = xx77 at *
              generalize tm.getD 78 undef = xx78 at *
              generalize tm.getD 79 undef = xx79 at *
              generalize tm.getD 80 undef = xx80 at *
              generalize tm.getD 81 undef = xx81 at *
              generalize tm.getD 82 undef = xx82 at *
              generalize tm.getD 83 undef = xx83 at *
              generalize tm.getD 84 undef = xx84 at *
              generalize tm.getD 85 undef = xx85 at *
              generalize tm.getD 86 undef = xx86 at *
              generalize tm.getD 87 undef = xx87 at *
              generalize tm.getD 88 undef = xx88 at *
              generalize tm.getD 89 undef = xx89 at *
              subst htm
              subst e2 e3
              have FI := DD.finish HG.out (P := p + 30) (SM.out run hd' (by omega) (by omega) hq0 hq1) (by omega)
              have c0 := DD.sb.box.cell0
              have c1 := DD.sb.box.cell1
              have c2 := DD.sb.box.cell2
              have c3 := DD.sb.box.cell3
              have k0 := DD.rb.cell0
              have k1 := DD.rb.cell1
              have k2 := DD.rb.cell2
              have k3 := DD.rb.cell3
              have kf := DD.rb.frozen
              have r0 := FI.2.cell0
              have r1 := FI.2.cell1
              have r2 := FI.2.cell2
              have r3 := FI.2.cell3
              have FI := Lib.hid FI.1
              clear DD
              go_wp2_with fail
              exact bodyPost_ret (v := .agg #[.slice x1 x2 x3, .slice y1 y2 y3, .int .i64 run, .int .i64 hd']) (by simp [results, Tryz.results26, go_sem, r0, r1, r2, r3]) rfl FI.out
          have t0 : (z == 0) = false := by simpa using z0
          by_cases z1 : z = 1
          · subst z1
            go_upto_region 25 with (go_at_call 28; refine (pick (D12.out.rd.grown (below_grown (below_alloc w12 (.cells #[.int .i64 0, .int .i64 101] 3))) (fun b e => by cases e)) (by omega) (by omega) (by omega)).mono ?_; rintro e w13 ⟨c, rfl, hc0, hc1, hr13, g13⟩; have hc1 := hc1 (by omega); have L13 := Lib.hid (show ∃ x : Int, w13.cell? ⟨w12.heap.size, c.toNat, none⟩ = some (.int .i64 x) ∧ 0 ≤ x ∧ x ≤ 101 from lit_two g13 D12.out.rd.lt hc0 hc1); obtain ⟨x, hx, hx0, hx1⟩ := L13.out; have D13 := Lib.hid (D12.out.pick2 hgl hr13 g13); have d2 := D13.out.sb.box.cell2; have f2 := D13.out.sb.box.frozen 2)
            have D14 := Lib.hid (D13.out.run hgl x)
            clear hx d2 f2 hr13 g13 L13
            obtain ⟨w14, hw14⟩ : ∃ X, X = w13.setCell ⟨w.heap.size + 1 + 1 + 1, 2, none⟩ (.int .i64 x) := ⟨_, rfl⟩
            rw [← hw14] at D14 ⊢
            clear hw14
            have FI := D14.out.finish HG.out (P := p + 30) (SM.out x hd hx0 hx1 (by omega) (by omega)) (by omega)
            have c0 := D14.out.sb.box.cell0
            have c1 := D14.out.sb.box.cell1
            have c2 := D14.out.sb.box.cell2
            have c3 := D14.out.sb.box.cell3
            have k0 := D14.out.rb.cell0
            have k1 := D14.out.rb.cell1
            have k2 := D14.out.rb.cell2
            have k3 := D14.out.rb.cell3
            have kf := D14.out.rb.frozen
            have r0 := FI.2.cell0
            have r1 := FI.2.cell1
            have r2 := FI.2.cell2
            have r3 := FI.2.cell3
            have FI := Lib.hid FI.1
            go_wp2_with fail
            exact bodyPost_ret (v := .agg #[.slice x1 x2 x3, .slice y1 y2 y3, .int .i64 x, .int .i64 hd]) (by simp [results, Tryz.results26, go_sem, r0, r1, r2, r3]) rfl FI.out
          have t1 : (z == 1) = false := by simpa using z1
          by_cases z2 : z = 2
          · subst z2
            have c0 := D12.out.sb.box.cell0
            have hb := D12.out.sb.box.lt
            have HA := Lib.hid (show OwnI w12 (w.heap.size + 1) (.slice x1 x2 x3) As from D12.out.sb.a)
            go_upto_region 25 with (at_builtin; refine wpList_addI_at _ _ rfl rfl rfl rfl HA.out (by have := LN.out.1; omega) (by omega) ?_; intro v' w' o' k' hat; obtain ⟨Q1, DN⟩ := D12.out.addA HG.out o' k' hat; obtain ⟨v1, v2, v3, rfl⟩ := own_is_slice o'; have d0 := Q1.cell0; have f0 := Q1.frozen 0)
            have DN := Lib.hid DN
            clear c0 d0 f0 o' k' hat Q1 hb
            obtain ⟨w14, hw14⟩ : ∃ X, X = w'.setCell ⟨w.heap.size + 1 + 1 + 1, 0, none⟩ (.slice v1 v2 v3) := ⟨_, rfl⟩
            rw [← hw14] at DN ⊢
            clear hw14
            have FI := DN.out.finish HG.out (P := p + 30) ⟨by have := LN.out.1; simp only [List.length_append, List.length_cons, List.length_nil]; omega, by have := LN.out.2; simp only; omega, PA.out.1.snoc (by omega) (by omega), PA.out.2, by simp only; omega, by simp only; omega, by simp only; omega, by simp only; omega⟩ (by omega)
            have c0 := DN.out.sb.box.cell0
            have c1 := DN.out.sb.box.cell1
            have c2 := DN.out.sb.box.cell2
            have c3 := DN.out.sb.box.cell3
            have k0 := DN.out.rb.cell0
            have k1 := DN.out.rb.cell1
            have k2 := DN.out.rb.cell2
            have k3 := DN.out.rb.cell3
            have kf := DN.out.rb.frozen
            have r0 := FI.2.cell0
            have r1 := FI.2.cell1
            have r2 := FI.2.cell2
            have r3 := FI.2.cell3
            have FI := Lib.hid FI.1
            go_wp2_with fail
            exact bodyPost_ret (v := .agg #[.slice v1 v2 v3, .slice y1 y2 y3, .int .i64 run, .int .i64 hd]) (by simp [results, Tryz.results26, go_sem, r0, r1, r2, r3]) rfl FI.out
          have t2 : (z == 2) = false := by simpa using z2
          clear z0 z1 z2
          have FI := D12.out.finish HG.out (P := p + 30) (SM.out run hd (by omega) (by omega) (by omega) (by omega)) (by omega)
          have c0 := D12.out.sb.box.cell0
          have c1 := D12.out.sb.box.cell1
          have c2 := D12.out.sb.box.cell2
          have c3 := D12.out.sb.box.cell3
          have k0 := D12.out.rb.cell0
          have k1 := D12.out.rb.cell1
          have k2 := D12.out.rb.cell2
          have k3 := D12.out.rb.cell3
          have kf := D12.out.rb.frozen
          have r0 := FI.2.cell0
          have r1 := FI.2.cell1
          have r2 := FI.2.cell2
          have r3 := FI.2.cell3
          have FI := Lib.hid FI.1
          go_wp2_with fail
          exact bodyPost_ret (v := .agg #[.slice x1 x2 x3, .slice y1 y2 y3, .int .i64 run, .int .i64 hd]) (by simp [results, Tryz.results26, go_sem, r0, r1, r2, r3]) rfl FI.out

end Go.Proofs.YtlcmkocbpnekhaaGreatDoor
