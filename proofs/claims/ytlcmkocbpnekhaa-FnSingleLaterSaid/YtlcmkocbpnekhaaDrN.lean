/-
  Drawn single lines with a number: a rank, minutes. For codes of at most 1048576 bytes.
-/
import Derived.Test.YtlcmkocbpnekhaaDrGs
import Derived.Test.YtlcmkocbpnekhaaSgN
import Derived.Test.YtlcmkocbpnekhaaSgI
import Derived.Test.YtlcmkocbpnekhaaGoodsS
import Derived.Deep.RegionWith
import Derived.Deep.DeepCutAuto
namespace Go.Proofs.Ytlcmkocbpnekhaa
open Go.RowKit Go.Sort
set_option linter.unusedVariables false

/-- What is written into a block of other things leaves a reader as it is. -/
theorem Rdr.put {X : World} {g p R i : Nat} {x y z u v : Value} (h : Rdr X g p) (hq : Quad X R x y z u 25) (hn : ∀ q : Int, x ≠ .int .u8 q ∧ y ≠ .int .u8 q ∧ z ≠ .int .u8 q ∧ u ≠ .int .u8 q) : Rdr (X.setCell ⟨R, i, none⟩ v) g p := by
  obtain ⟨rv, n, hg, hb, hne⟩ := h
  have hgR : R ≠ g := by
    intro e
    subst e
    unfold Quad at hq
    rw [hg] at hq
    simp only [Option.some.injEq, Obj.cells.injEq] at hq
    exact rdr_single hq.2.1
  have kk := grownBy_set X ⟨R, i, none⟩ v
  refine ⟨rv, n, (kk.block g (Array.getElem?_eq_some_iff.1 hg).1 (fun e => hgR (Option.some.inj e).symm)).trans hg, ?_, hne⟩
  obtain ⟨a, cap, rfl, hm, hc⟩ := hb
  refine ⟨a, cap, rfl, hm, ?_⟩
  rcases hc with h0 | ⟨b, o, rfl, hlt, hcell⟩
  · exact .inl h0
  · rcases Nat.eq_zero_or_pos n with h0 | h0
    · exact .inl h0
    have hbR : b ≠ R := by
      intro e
      subst e
      obtain ⟨x', hx', -⟩ := hcell 0 h0
      unfold Quad at hq
      unfold World.cell? at hx'
      simp only [hq] at hx'
      have hmem := Array.mem_of_getElem? hx'
      simp only [List.mem_toArray, List.mem_cons, List.not_mem_nil, or_false] at hmem
      have := hn x'
      rcases hmem with e | e | e | e
      · exact this.1 e.symm
      · exact this.2.1 e.symm
      · exact this.2.2.1 e.symm
      · exact this.2.2.2 e.symm
    refine .inr ⟨b, o, rfl, Nat.lt_of_lt_of_le hlt kk.size, fun j hj => ?_⟩
    obtain ⟨x', hx', hr⟩ := hcell j hj
    exact ⟨x', (World.cell?_of_block (kk.block b hlt (fun e => hbR (Option.some.inj e)))).trans hx', hr⟩

/-- The line drawn, in its box; the reader; the box of the result lies ahead of both. -/
structure NSt (w : World) (g b base q : Nat) (x y : Value) (s : Sg) (X : World) : Prop where
  box : Quad X b x y (.int .i64 s.run) (.int .i64 s.head) 25
  own : OwnSg X base (.agg #[x, y, .int .i64 s.run, .int .i64 s.head]) s
  rd : Rdr X g q
  bel : Below w.heap.size w X
  hg : w.heap.size < g
  hgb : g < base
  hb : base ≤ b
theorem NSt.below {w X X' : World} {g b base q : Nat} {x y : Value} {s : Sg} (h : NSt w g b base q x y s X) (k : Below X.heap.size X X') : NSt w g b base q x y s X' := by
  obtain ⟨u1, u2, e, o1, o2, ap⟩ := h.own
  exact ⟨h.box.below k, ⟨u1, u2, e, o1.below k, o2.below k, ap⟩, h.rd.below k h.rd.lt, h.bel.trans (k.mono h.bel.size), h.hg, h.hgb, h.hb⟩
theorem NSt.pick {w X X' : World} {g b base q q' : Nat} {x y : Value} {s : Sg} (h : NSt w g b base q x y s X) (k : X.grownBy X' (some g)) (r : Rdr X' g q') : NSt w g b base q' x y s X' := by
  have := h.hg
  have := h.hgb
  have := h.hb
  obtain ⟨u1, u2, e, o1, o2, ap⟩ := h.own
  have far : ∀ {u : Value} {xs : List Int}, OwnI X base u xs → u.ownBlock = none ∨ u.ownBlock ≠ some g := by
    intro u xs o
    cases e : u.ownBlock with
    | none => exact .inl rfl
    | some b =>
      refine .inr fun q => ?_
      simp only [Option.some.injEq] at q
      have := (World.ownsRow.lt o b e).1
      omega
  exact ⟨h.box.of (k.block _ h.box.lt (fun e => by simp only [Option.some.injEq] at e; omega)), ⟨u1, u2, e, o1.kept k (far o1), o2.kept k (far o2), ap⟩, r, below_grown2 h.bel (by omega) k h.bel.size, h.hg, h.hgb, h.hb⟩
theorem NSt.put {w X : World} {g b base q : Nat} {x y : Value} {s : Sg} (h : NSt w g b base q x y s X) (i : Nat) (u : Value) (r : Rdr (X.setCell ⟨w.heap.size, i, none⟩ u) g q) : NSt w g b base q x y s (X.setCell ⟨w.heap.size, i, none⟩ u) := by
  have := h.hg
  have := h.hgb
  have hb := h.hb
  obtain ⟨u1, u2, e, o1, o2, ap⟩ := h.own
  exact ⟨h.box.other (a := ⟨w.heap.size, i, none⟩) (by simp only; omega) u, ⟨u1, u2, e, o1.setBelow (by simp only; omega) u, o2.setBelow (by simp only; omega) u, ap⟩, r, h.bel.setCell (p := ⟨w.heap.size, i, none⟩) (Nat.le_refl _) u, h.hg, h.hgb, h.hb⟩
theorem noU (a1 a2 : Option Addr) (n1 c1 n2 c2 : Nat) (r hd : Int) : ∀ q : Int, Value.slice a1 n1 c1 ≠ .int .u8 q ∧ Value.slice a2 n2 c2 ≠ .int .u8 q ∧ Value.int .i64 r ≠ .int .u8 q ∧ Value.int .i64 hd ≠ .int .u8 q := by
  intro q; simp
/-- The line is stored into the box of the result. -/
theorem NSt.put4 {w X : World} {g b base q : Nat} {a1 a2 : Option Addr} {n1 c1 n2 c2 : Nat} {s : Sg} (h : NSt w g b base q (.slice a1 n1 c1) (.slice a2 n2 c2) s X) (hq : Quad X w.heap.size (.slice none 0 0) (.slice none 0 0) (.int .i64 0) (.int .i64 0) 25) :
    NSt w g b base q (.slice a1 n1 c1) (.slice a2 n2 c2) s ((((X.setCell ⟨w.heap.size, 0, none⟩ (.slice a1 n1 c1)).setCell ⟨w.heap.size, 1, none⟩ (.slice a2 n2 c2)).setCell ⟨w.heap.size, 2, none⟩ (.int .i64 s.run)).setCell ⟨w.heap.size, 3, none⟩ (.int .i64 s.head)) := by
  have r0 := h.rd.put (i := 0) (v := .slice a1 n1 c1) hq (noU _ _ _ _ _ _ _ _)
  have h0 := h.put 0 (.slice a1 n1 c1) r0
  have q0 := hq.set0 (.slice a1 n1 c1)
  have r1 := r0.put (i := 1) (v := .slice a2 n2 c2) q0 (noU _ _ _ _ _ _ _ _)
  have h1 := h0.put 1 (.slice a2 n2 c2) r1
  have q1 := q0.set1 (.slice a2 n2 c2)
  have r2 := r1.put (i := 2) (v := .int .i64 s.run) q1 (noU _ _ _ _ _ _ _ _)
  have h2 := h1.put 2 (.int .i64 s.run) r2
  have q2 := q1.set2 (.int .i64 s.run)
  have r3 := r2.put (i := 3) (v := .int .i64 s.head) q2 (noU _ _ _ _ _ _ _ _)
  exact h2.put 3 (.int .i64 s.head) r3

/-! ### A literal of numbers, one of them drawn -/
def F64 (x : Int) : Prop := -9223372036854775808 ≤ x ∧ x ≤ 9223372036854775807
def LitAt (g R n : Nat) (v : Value) (w : World) : Prop := ∃ b, v = .slice (some ⟨b, 0, none⟩) n n ∧ b < w.heap.size ∧ b ≠ g ∧ b ≠ R ∧ ∀ j, j < n → ∃ x : Int, w.cell? ⟨b, j, none⟩ = some (.int .i64 x) ∧ F64 x
def PtrAt (g R : Nat) (v : Value) (w : World) : Prop := ∃ b j, ∃ x : Int, v = .pointer (some ⟨b, j, none⟩) ∧ b < w.heap.size ∧ b ≠ g ∧ b ≠ R ∧ w.cell? ⟨b, j, none⟩ = some (.int .i64 x) ∧ F64 x
def But2 (g R : Nat) (w w' : World) : Prop := w.heap.size ≤ w'.heap.size ∧ ∀ i, i < w.heap.size → i ≠ g → i ≠ R → w'.heap[i]? = w.heap[i]?
theorem But2.refl (g R : Nat) (w : World) : But2 g R w w := ⟨Nat.le_refl _, fun _ _ _ _ => rfl⟩
theorem But2.alloc (g R : Nat) (w : World) (o : Obj) : But2 g R w (w.alloc o) := ⟨by simp, fun i hi _ _ => Go.Deep.blk_alloc_lt _ _ _ hi⟩
theorem But2.pick {g R : Nat} {w w' : World} (k : w.grownBy w' (some g)) : But2 g R w w' := ⟨k.size, fun i hi h1 _ => k.block i hi (fun e => h1 (Option.some.inj e))⟩
theorem But2.put (g R : Nat) (w : World) (x y z u : Value) : But2 g R w ((((w.setCell ⟨R, 0, none⟩ x).setCell ⟨R, 1, none⟩ y).setCell ⟨R, 2, none⟩ z).setCell ⟨R, 3, none⟩ u) := by
  refine ⟨by simp, fun i _ _ h2 => ?_⟩
  rw [Go.Deep.blk_setCell_other _ _ _ _ (by exact h2), Go.Deep.blk_setCell_other _ _ _ _ (by exact h2), Go.Deep.blk_setCell_other _ _ _ _ (by exact h2), Go.Deep.blk_setCell_other _ _ _ _ (by exact h2)]
theorem But2.cell {g R b j : Nat} {w w' : World} (k : But2 g R w w') (hb : b < w.heap.size) (h1 : b ≠ g) (h2 : b ≠ R) {c : Value} (h : w.cell? ⟨b, j, none⟩ = some c) : w'.cell? ⟨b, j, none⟩ = some c := (World.cell?_of_block (k.2 b hb h1 h2)).trans h
theorem LitAt.kept {g R n : Nat} {v : Value} {w w' : World} (h : LitAt g R n v w) (k : But2 g R w w') : LitAt g R n v w' := by
  obtain ⟨b, rfl, hb, h1, h2, hc⟩ := h
  exact ⟨b, rfl, Nat.lt_of_lt_of_le hb k.1, h1, h2, fun j hj => by
    obtain ⟨x, hx, hf⟩ := hc j hj
    exact ⟨x, k.cell hb h1 h2 hx, hf⟩⟩
theorem PtrAt.kept {g R : Nat} {v : Value} {w w' : World} (h : PtrAt g R v w) (k : But2 g R w w') : PtrAt g R v w' := by
  obtain ⟨b, j, x, rfl, hb, h1, h2, hc, hf⟩ := h
  exact ⟨b, j, x, rfl, Nat.lt_of_lt_of_le hb k.1, h1, h2, k.cell hb h1 h2 hc, hf⟩
/-- The state: ahead of the pick P one is left; ahead of the store L the box of the result is empty. -/
def RN (w : World) (g b base B : Nat) (x y : Value) (s : Sg) (P L : Nat) (D : Nat → Bool) (X : World) : Prop :=
  ∃ q, (q ≤ if D P = true then B + 1 else B) ∧ NSt w g b base q x y s X ∧ Quad X w.heap.size (if D L = true then x else .slice none 0 0) (if D L = true then y else .slice none 0 0) (if D L = true then .int .i64 s.run else .int .i64 0) (if D L = true then .int .i64 s.head else .int .i64 0) 25
theorem RN.same {w X : World} {g b base B : Nat} {x y : Value} {s : Sg} {P L : Nat} {D D' : Nat → Bool} (h : RN w g b base B x y s P L D X) (e1 : D' P = D P) (e2 : D' L = D L) : RN w g b base B x y s P L D' X := by
  unfold RN at h ⊢; rw [e1, e2]; exact h
theorem RN.alloc {w X : World} {g b base B : Nat} {x y : Value} {s : Sg} {P L : Nat} {D : Nat → Bool} (h : RN w g b base B x y s P L D X) (o : Obj) : RN w g b base B x y s P L D (X.alloc o) := by
  obtain ⟨q, hq, hn, hb⟩ := h
  exact ⟨q, hq, hn.below (below_alloc _ _), hb.alloc o⟩

/-- A drawn single line and a number. -/
def MadeN (w : World) (e : Ending) (w' : World) : Prop := ∃ (v : Value) (s : Sg) (k : Int), e = .returned (.tuple #[v, .int .i64 k]) ∧ OwnSg w' w.heap.size v s ∧ SmallSg s ∧ F64 k ∧ Below w.heap.size w w'
theorem NSt.made {w X : World} {g b base q : Nat} {x y : Value} {s : Sg} (h : NSt w g b base q x y s X) : OwnSg X w.heap.size (.agg #[x, y, .int .i64 s.run, .int .i64 s.head]) s := by
  have := h.hg
  have := h.hgb
  obtain ⟨u1, u2, e, o1, o2, ap⟩ := h.own
  exact ⟨u1, u2, e, o1.mono (by omega), o2.mono (by omega), ap⟩

def GNthA (A : Value) (g R : Nat) (m : Int) (i : Nat) (v : Value) (w : World) : Prop :=
  match i with
  | 0 => v = A
  | 1 => v = .int .i64 m
  | 2 => LitAt g R 2 v w
  | 3 => v = .pointer (some ⟨g, 0, none⟩)
  | 4 => ∃ r : Int, v = .int .i64 r ∧ 0 ≤ r ∧ r < 2
  | 5 => PtrAt g R v w
  | 6 => ∃ x : Int, v = .int .i64 x ∧ F64 x
  | 7 => True
  | 8 => ∃ x : Int, v = .int .i64 x ∧ F64 x
  | _ => True
theorem GNthA.kept {A : Value} {g R : Nat} {m : Int} (i : Nat) (v : Value) (w w' : World) (h : But2 g R w w') (q : GNthA A g R m i v w) : GNthA A g R m i v w' := by
  unfold GNthA at q ⊢
  split at q <;> first | exact q | exact LitAt.kept q h | exact PtrAt.kept q h

def GNthB (A : Value) (g R : Nat) (m : Int) (i : Nat) (v : Value) (w : World) : Prop :=
  match i with
  | 0 => v = A
  | 1 => v = .pointer (some ⟨g, 0, none⟩)
  | 2 => ∃ r : Int, v = .int .i64 r ∧ 0 ≤ r ∧ r < 1000
  | 3 => v = .int .i64 m
  | 4 => ∃ x : Int, v = .int .i64 x ∧ F64 x
  | 5 => True
  | 6 => ∃ x : Int, v = .int .i64 x ∧ F64 x
  | _ => True
theorem GNthB.kept {A : Value} {g R : Nat} {m : Int} (i : Nat) (v : Value) (w w' : World) (h : But2 g R w w') (q : GNthB A g R m i v w) : GNthB A g R m i v w' := by
  unfold GNthB at q ⊢
  split at q <;> first | exact q | exact LitAt.kept q h | exact PtrAt.kept q h

def GLaterA (A : Value) (g R : Nat) (i : Nat) (v : Value) (w : World) : Prop :=
  match i with
  | 0 => v = A
  | 1 => LitAt g R 3 v w
  | 2 => v = .pointer (some ⟨g, 0, none⟩)
  | 3 => ∃ r : Int, v = .int .i64 r ∧ 0 ≤ r ∧ r < 3
  | 4 => PtrAt g R v w
  | 5 => ∃ x : Int, v = .int .i64 x ∧ F64 x
  | 6 => True
  | 7 => ∃ x : Int, v = .int .i64 x ∧ F64 x
  | _ => True
theorem GLaterA.kept {A : Value} {g R : Nat} (i : Nat) (v : Value) (w w' : World) (h : But2 g R w w') (q : GLaterA A g R i v w) : GLaterA A g R i v w' := by
  unfold GLaterA at q ⊢
  split at q <;> first | exact q | exact LitAt.kept q h | exact PtrAt.kept q h

def GLaterB (A : Value) (g R : Nat) (i : Nat) (v : Value) (w : World) : Prop :=
  match i with
  | 0 => v = A
  | 1 => v = .pointer (some ⟨g, 0, none⟩)
  | 2 => ∃ r : Int, v = .int .i64 r ∧ 0 ≤ r ∧ r < 61
  | 3 => ∃ x : Int, v = .int .i64 x ∧ F64 x
  | 4 => True
  | 5 => ∃ x : Int, v = .int .i64 x ∧ F64 x
  | _ => True
theorem GLaterB.kept {A : Value} {g R : Nat} (i : Nat) (v : Value) (w w' : World) (h : But2 g R w w') (q : GLaterB A g R i v w) : GLaterB A g R i v w' := by
  unfold GLaterB at q ⊢
  split at q <;> first | exact q | exact LitAt.kept q h | exact PtrAt.kept q h

set_option maxRecDepth 100000 in
set_option maxHeartbeats 4000000 in
theorem drawSLater {w : World} {a : Option Addr} {len cap : Nat} {zs : List Int} (h : IsRowK .u8 w a len cap zs) (hl : len ≤ 1048576) :
    Calls Try.prog 26 #[.slice a len cap] w (MadeN w) := by
  have q0 := Quad.new w (.slice none 0 0) (.slice none 0 0) (.int .i64 0) (.int .i64 0) 25
  have b0 := below_alloc w (.cells #[.slice none 0 0, .slice none 0 0, .int .i64 0, .int .i64 0] 25)
  obtain ⟨W0, hW0⟩ : ∃ X, X = w.alloc (.cells #[.slice none 0 0, .slice none 0 0, .int .i64 0, .int .i64 0] 25) := ⟨_, rfl⟩
  have s0 : W0.heap.size = w.heap.size + 1 := by rw [hW0]; exact Go.Deep.nblk_alloc _ _
  rw [← hW0] at q0 b0
  have OP := Lib.hid (openRd (w := W0) (h.below b0) hl)
  have HW := Lib.hid hW0.symm
  have B0 := Lib.hid b0
  have Q0 := Lib.hid q0
  have S0 := Lib.hid s0
  clear hW0 q0 b0 h s0
  go_enter Try.func26, Try.ntmps26
  go_upto_region 1 with fail
  rw [HW.out]
  go_upto_region 2 with (go_at_call 39; refine OP.out.mono ?_; rintro e w1 ⟨g, rfl, hg, hr, b1⟩)
  have DS1 := Lib.hid (drawSingle hr (by omega))
  have hgl := Lib.hid (And.intro hg hr.lt)
  have Q1 := Lib.hid (Q0.out.below b1)
  have B1 := Lib.hid (B0.out.trans (b1.mono B0.out.size))
  have S1 := Lib.hid b1.size
  clear hg hr b1
  go_upto_region 3 with (go_at_call 46; refine DS1.out.mono ?_; rintro e w2 ⟨v, s, q, rfl, os, ss, rd, hq, g2⟩; obtain ⟨a1, n1, c1, a2, n2, c2, rfl⟩ := os.form)
  have hgs := hgl.out
  have hss := S0.out
  have hs1 := S1.out
  have Q2 := Q1.out.of (g2.block _ Q1.out.lt (fun e => by simp only [Option.some.injEq] at e; omega))
  have B2 := below_grown2 B1.out (by omega) g2 B1.out.size
  have qb := Quad.new w2 (.slice a1 n1 c1) (.slice a2 n2 c2) (.int .i64 s.run) (.int .i64 s.head) 25
  have k1 := below_alloc w2 (.cells #[.slice a1 n1 c1, .slice a2 n2 c2, .int .i64 s.run, .int .i64 s.head] 25)
  have ns : NSt w g w2.heap.size w1.heap.size q (.slice a1 n1 c1) (.slice a2 n2 c2) s (w2.alloc (.cells #[.slice a1 n1 c1, .slice a2 n2 c2, .int .i64 s.run, .int .i64 s.head] 25)) :=
    ⟨qb, by obtain ⟨u1, u2, e, o1, o2, ap⟩ := os; exact ⟨u1, u2, e, o1.below k1, o2.below k1, ap⟩, rd.below k1 rd.lt, B2.trans (k1.mono B2.size), by omega, hgs.2, g2.size⟩
  have qr := Q2.below k1
  obtain ⟨V, hV⟩ : ∃ X, X = w2.alloc (.cells #[.slice a1 n1 c1, .slice a2 n2 c2, .int .i64 s.run, .int .i64 s.head] 25) := ⟨_, rfl⟩
  rw [← hV] at ns qr ⊢
  obtain ⟨b, hb4⟩ : ∃ b, b = w2.heap.size := ⟨_, rfl⟩
  rw [← hb4] at ns ⊢
  obtain ⟨base, hbase⟩ : ∃ b, b = w1.heap.size := ⟨_, rfl⟩
  rw [← hbase] at ns
  have NS0 := Lib.hid ns
  have QR0 := Lib.hid qr
  have SS := Lib.hid ss
  have HQ := Lib.hid hq
  clear hV qb k1 Q2 B2 os rd g2 hb4 hbase hgs hss hs1 hq
  have NS1 := NS0
  have QR1 := QR0
  clear ns qr ss
  have PK := Lib.hid (pick (n := 16) NS1.out.rd (by have := HQ.out; omega) (by omega) (by omega))
  go_wp2_with fail
  refine PK.out.mono ?_
  rintro e w4 ⟨r, rfl, hr0, hr1, rd4, g4⟩
  have hgw := NS1.out.hg
  have NS := Lib.hid (NS1.out.pick g4 rd4)
  have QR := Lib.hid (QR1.out.of (g4.block _ QR1.out.lt (fun e => by simp only [Option.some.injEq] at e; omega)))
  obtain ⟨B, hBq⟩ : ∃ B, B = q + 1 := ⟨_, rfl⟩
  have HB0 := Lib.hid (show B ≤ 100000 by have := HQ.out; omega)
  rw [← hBq] at NS
  obtain ⟨q9, hq9⟩ : ∃ x, x = B := ⟨_, rfl⟩
  have HB := Lib.hid (show q9 ≤ B by omega)
  rw [← hq9] at NS
  clear PK hr1 rd4 g4 hgw hBq hq9
  by_cases hz : r = 0
  · have hz' : (r == 0) = true := by simpa using hz
    clear hz
    go_upto_region 4 with fail
    clear hz'
    refine wp_region_goodsL (G := GLaterA (.agg #[.slice a1 n1 c1, .slice a2 n2 c2, .int .i64 s.run, .int .i64 s.head]) g w.heap.size ) (R := RN w g b base B (.slice a1 n1 c1) (.slice a2 n2 c2) s 3 6) (T := fun _ => But2 g w.heap.size) (by kernel_rfl) (by kernel_rfl) ?start (fun _ i _ v X Y _ _ _ h => GLaterA.kept i v X Y h) ⟨?s0, ?s1, ?s2, ?s3, ?s4, ?s5, ?s6, ?s7, trivial⟩ ?hend
    case start =>
      intro D hD
      exact ⟨q9, by rw [hD]; exact HB.out, NS.out.below ((Below.refl _ _).drew), by rw [hD]; exact QR.out.below ((Below.refl _ _).drew)⟩
    case s0 =>
      intro ac wc D D' hDk hDk' hdo hcl hR hrest hdep K hK
      have e0 : ac.tmps.getD 5 undef = .pointer (some ⟨b, 0, none⟩) := hrest 5 (by kernel_rfl)
      have f0 := slot_of e0
      obtain ⟨q1, hq1, hn1, hb1⟩ := id hR
      have c0 := hn1.box.cell0
      have c1' := hn1.box.cell1
      have c2' := hn1.box.cell2
      have c3 := hn1.box.cell3
      clear hdep hrest
      go_simp
      exact hK _ _ rfl (hR.same (hdo 3 (by decide)) (hdo 6 (by decide))) (But2.refl _ _ _)
    case s1 =>
      intro ac wc D D' hDk hDk' hdo hcl hR hrest hdep K hK
      clear hdep hrest
      obtain ⟨q1, hq1, hn1, hb1⟩ := id hR
      have lg := hn1.rd.lt
      have lr := hb1.lt
      clear hq1 hn1 hb1
      have HC := Lib.hid hK
      clear hK
      go_simp
      refine HC.out _ _ ⟨wc.heap.size, rfl, by simp, by omega, by omega, fun j hj => ?_⟩ ((hR.same (hdo 3 (by decide)) (hdo 6 (by decide))).alloc _) (But2.alloc _ _ _ _)
      rcases (by omega : j = 0 ∨ j = 1 ∨ j = 2) with rfl | rfl | rfl
      · exact ⟨_, by unfold World.cell?; simp only [heap_alloc_new]; rfl, by unfold F64; omega⟩
      · exact ⟨_, by unfold World.cell?; simp only [heap_alloc_new]; rfl, by unfold F64; omega⟩
      · exact ⟨_, by unfold World.cell?; simp only [heap_alloc_new]; rfl, by unfold F64; omega⟩
    case s2 =>
      intro ac wc D D' hDk hDk' hdo hcl hR hrest hdep K hK
      have e0 : ac.tmps.getD 4 undef = .pointer (some ⟨g, 0, none⟩) := hrest 4 (by kernel_rfl)
      have f0 := slot_of e0
      clear hdep hrest
      go_simp
      exact hK _ _ rfl (hR.same (hdo 3 (by decide)) (hdo 6 (by decide))) (But2.refl _ _ _)
    case s3 =>
      intro ac wc D D' hDk hDk' hdo hcl hR hrest hdep K hK
      have e0 : ac.tmps.getD 15 undef = .pointer (some ⟨g, 0, none⟩) := hdep 2 (by kernel_rfl)
      have f0 := slot_of e0
      clear hdep hrest
      obtain ⟨q1, hq1, hn1, hb1⟩ := id hR
      rw [hDk] at hq1
      have hgw := hn1.hg
      go_simp
      refine (pick (n := 3) hn1.rd (by have := HB0.out; simp at hq1; omega) (by omega) (by omega)).mono ?_
      rintro e w4 ⟨r, rfl, hr0, hr1, hr4, g4⟩
      refine hK _ _ ⟨r, rfl, hr0, hr1 (by omega)⟩ ⟨q1 + 1, by rw [hDk']; simp at hq1 ⊢; omega, hn1.pick g4 hr4, ?_⟩ (But2.pick g4)
      rw [hdo 6 (by decide)]
      exact hb1.of (g4.block _ hb1.lt (fun e => by simp only [Option.some.injEq] at e; omega))
    case s4 =>
      intro ac wc D D' hDk hDk' hdo hcl hR hrest hdep K hK
      obtain ⟨bb, e, hbs, h1, h2, hc⟩ : LitAt g w.heap.size 3 (ac.tmps.getD 14 undef) wc := hdep 1 (by kernel_rfl)
      obtain ⟨r, e2, hr0, hr1⟩ : ∃ r : Int, ac.tmps.getD 16 undef = .int .i64 r ∧ 0 ≤ r ∧ r < 3 := hdep 3 (by kernel_rfl)
      have e' := slot_of e
      have e2' := slot_of e2
      obtain ⟨x, hx, hf⟩ := hc r.toNat (by omega)
      have HH := Lib.hid (show PtrAt g w.heap.size (.pointer (some ⟨bb, r.toNat, none⟩)) wc from ⟨bb, r.toNat, x, rfl, hbs, h1, h2, hx, hf⟩)
      have hR2 := Lib.hid (hR.same (hdo 3 (by decide)) (hdo 6 (by decide)))
      clear hx hf hc hdep hrest hbs h1 h2 hR
      go_simp
      exact hK (.pointer (some ⟨bb, r.toNat, none⟩)) _ HH.out hR2.out (But2.refl _ _ _)
    case s5 =>
      intro ac wc D D' hDk hDk' hdo hcl hR hrest hdep K hK
      obtain ⟨bb, j, x, e, hbs, h1, h2, hc, hf⟩ : PtrAt g w.heap.size (ac.tmps.getD 17 undef) wc := hdep 4 (by kernel_rfl)
      have e' := slot_of e
      have hR2 := Lib.hid (hR.same (hdo 3 (by decide)) (hdo 6 (by decide)))
      clear hdep hrest hR
      go_simp
      exact hK _ _ ⟨x, rfl, hf⟩ hR2.out (But2.refl _ _ _)
    case s6 =>
      intro ac wc D D' hDk hDk' hdo hcl hR hrest hdep K hK
      have e0 : ac.tmps.getD 2 undef = .pointer (some ⟨w.heap.size, 0, none⟩) := hrest 2 (by kernel_rfl)
      have e1 : ac.tmps.getD 13 undef = .agg #[.slice a1 n1 c1, .slice a2 n2 c2, .int .i64 s.run, .int .i64 s.head] := hdep 0 (by kernel_rfl)
      have f0 := slot_of e0
      have f1 := slot_of e1
      clear hdep hrest
      obtain ⟨q1, hq1, hn1, hb1⟩ := hR
      rw [hDk] at hb1
      simp only [Bool.false_eq_true, if_false] at hb1
      have c0 := hb1.cell0
      have c1' := hb1.cell1
      have c2' := hb1.cell2
      have c3 := hb1.cell3
      have cf := hb1.frozen
      have HE := Lib.hid (show RN w g b base B (.slice a1 n1 c1) (.slice a2 n2 c2) s 3 6 D' _ from ⟨q1, by rw [hdo 3 (by decide)]; exact hq1, hn1.put4 hb1, by rw [hDk']; exact hb1.stored (.slice a1 n1 c1) (.slice a2 n2 c2) (.int .i64 s.run) (.int .i64 s.head)⟩)
      clear hb1 hn1 hq1
      go_simp
      exact hK undef _ trivial HE.out (But2.put _ _ _ _ _ _ _)
    case s7 =>
      intro ac wc D D' hDk hDk' hdo hcl hR hrest hdep K hK
      obtain ⟨x, e, hf⟩ : ∃ x : Int, ac.tmps.getD 18 undef = .int .i64 x ∧ F64 x := hdep 5 (by kernel_rfl)
      have e' := slot_of e
      have hR2 := Lib.hid (hR.same (hdo 3 (by decide)) (hdo 6 (by decide)))
      clear hdep hrest hR
      go_simp
      exact hK _ _ ⟨x, rfl, hf⟩ hR2.out (But2.refl _ _ _)
    case hend =>
      rintro ⟨tm, df⟩ w' D hD hsz hdf hR _ hgood
      have hdf' : df = [] := hdf
      subst hdf'
      obtain ⟨x, e, hf⟩ : ∃ x : Int, tm.getD 3 undef = .int .i64 x ∧ F64 x := hgood 7 (by decide)
      have e' : tm[3]?.getD undef = _ := slot_of (a := ⟨tm, []⟩) e
      obtain ⟨q1, hq1, hn1, hb1⟩ := hR
      rw [hD 6 (by decide)] at hb1
      simp only [if_true] at hb1
      have hw2 : tm.getD 2 undef = .pointer (some ⟨w.heap.size, 0, none⟩) := by rename_i hrest; exact hrest 2 (by kernel_rfl)
      have hw3 : tm[2]?.getD undef = _ := slot_of (a := ⟨tm, []⟩) hw2
      have r0 := hb1.cell0
      have r1 := hb1.cell1
      have r2 := hb1.cell2
      have r3 := hb1.cell3
      have HN := Lib.hid (And.intro hn1.made hn1.bel)
      clear hn1 hb1 hq1 hgood
      go_wp2_with fail
      refine bodyPost_ret (v := .tuple #[.agg #[.slice a1 n1 c1, .slice a2 n2 c2, .int .i64 s.run, .int .i64 s.head], .int .i64 x]) (by simp [results, Try.results26, go_sem, r0, r1, r2, r3, e', hw3]) rfl ⟨_, s, x, rfl, HN.out.1, SS.out, hf, HN.out.2⟩
  · have hz' : (r == 0) = false := by simpa using hz
    clear hz
    go_upto_region 5 with fail
    clear hz'
    refine wp_region_goodsL (G := GLaterB (.agg #[.slice a1 n1 c1, .slice a2 n2 c2, .int .i64 s.run, .int .i64 s.head]) g w.heap.size ) (R := RN w g b base B (.slice a1 n1 c1) (.slice a2 n2 c2) s 2 4) (T := fun _ => But2 g w.heap.size) (by kernel_rfl) (by kernel_rfl) ?start (fun _ i _ v X Y _ _ _ h => GLaterB.kept i v X Y h) ⟨?s0, ?s1, ?s2, ?s3, ?s4, ?s5, trivial⟩ ?hend
    case start =>
      intro D hD
      exact ⟨q9, by rw [hD]; exact HB.out, NS.out.below ((Below.refl _ _).drew), by rw [hD]; exact QR.out.below ((Below.refl _ _).drew)⟩
    case s0 =>
      intro ac wc D D' hDk hDk' hdo hcl hR hrest hdep K hK
      have e0 : ac.tmps.getD 5 undef = .pointer (some ⟨b, 0, none⟩) := hrest 5 (by kernel_rfl)
      have f0 := slot_of e0
      obtain ⟨q1, hq1, hn1, hb1⟩ := id hR
      have c0 := hn1.box.cell0
      have c1' := hn1.box.cell1
      have c2' := hn1.box.cell2
      have c3 := hn1.box.cell3
      clear hdep hrest
      go_simp
      exact hK _ _ rfl (hR.same (hdo 2 (by decide)) (hdo 4 (by decide))) (But2.refl _ _ _)
    case s1 =>
      intro ac wc D D' hDk hDk' hdo hcl hR hrest hdep K hK
      have e0 : ac.tmps.getD 4 undef = .pointer (some ⟨g, 0, none⟩) := hrest 4 (by kernel_rfl)
      have f0 := slot_of e0
      clear hdep hrest
      go_simp
      exact hK _ _ rfl (hR.same (hdo 2 (by decide)) (hdo 4 (by decide))) (But2.refl _ _ _)
    case s2 =>
      intro ac wc D D' hDk hDk' hdo hcl hR hrest hdep K hK
      have e0 : ac.tmps.getD 20 undef = .pointer (some ⟨g, 0, none⟩) := hdep 1 (by kernel_rfl)
      have f0 := slot_of e0
      clear hdep hrest
      obtain ⟨q1, hq1, hn1, hb1⟩ := id hR
      rw [hDk] at hq1
      have hgw := hn1.hg
      go_simp
      refine (pick (n := 61) hn1.rd (by have := HB0.out; simp at hq1; omega) (by omega) (by omega)).mono ?_
      rintro e w4 ⟨r, rfl, hr0, hr1, hr4, g4⟩
      refine hK _ _ ⟨r, rfl, hr0, hr1 (by omega)⟩ ⟨q1 + 1, by rw [hDk']; simp at hq1 ⊢; omega, hn1.pick g4 hr4, ?_⟩ (But2.pick g4)
      rw [hdo 4 (by decide)]
      exact hb1.of (g4.block _ hb1.lt (fun e => by simp only [Option.some.injEq] at e; omega))
    case s3 =>
      intro ac wc D D' hDk hDk' hdo hcl hR hrest hdep K hK
      obtain ⟨r, e, hr0, hr1⟩ : ∃ r : Int, ac.tmps.getD 21 undef = .int .i64 r ∧ 0 ≤ r ∧ r < 61 := hdep 2 (by kernel_rfl)
      have f0 := slot_of e
      have hw1 : IntKind.i64.wrap (r - 20) = r - 20 := IntWalk.i64_in _ (by omega)
      have hw2 : wrap64 (r - 20) = r - 20 := IntWalk.wrap64_in _ (by omega)
      have hR2 := Lib.hid (hR.same (hdo 2 (by decide)) (hdo 4 (by decide)))
      have HF := Lib.hid (show F64 (r - 20) from by unfold F64; omega)
      clear hdep hrest hR
      go_simp
      exact hK _ _ ⟨r - 20, rfl, HF.out⟩ hR2.out (But2.refl _ _ _)
    case s4 =>
      intro ac wc D D' hDk hDk' hdo hcl hR hrest hdep K hK
      have e0 : ac.tmps.getD 2 undef = .pointer (some ⟨w.heap.size, 0, none⟩) := hrest 2 (by kernel_rfl)
      have e1 : ac.tmps.getD 19 undef = .agg #[.slice a1 n1 c1, .slice a2 n2 c2, .int .i64 s.run, .int .i64 s.head] := hdep 0 (by kernel_rfl)
      have f0 := slot_of e0
      have f1 := slot_of e1
      clear hdep hrest
      obtain ⟨q1, hq1, hn1, hb1⟩ := hR
      rw [hDk] at hb1
      simp only [Bool.false_eq_true, if_false] at hb1
      have c0 := hb1.cell0
      have c1' := hb1.cell1
      have c2' := hb1.cell2
      have c3 := hb1.cell3
      have cf := hb1.frozen
      have HE := Lib.hid (show RN w g b base B (.slice a1 n1 c1) (.slice a2 n2 c2) s 2 4 D' _ from ⟨q1, by rw [hdo 2 (by decide)]; exact hq1, hn1.put4 hb1, by rw [hDk']; exact hb1.stored (.slice a1 n1 c1) (.slice a2 n2 c2) (.int .i64 s.run) (.int .i64 s.head)⟩)
      clear hb1 hn1 hq1
      go_simp
      exact hK undef _ trivial HE.out (But2.put _ _ _ _ _ _ _)
    case s5 =>
      intro ac wc D D' hDk hDk' hdo hcl hR hrest hdep K hK
      obtain ⟨x, e, hf⟩ : ∃ x : Int, ac.tmps.getD 22 undef = .int .i64 x ∧ F64 x := hdep 3 (by kernel_rfl)
      have e' := slot_of e
      have hR2 := Lib.hid (hR.same (hdo 2 (by decide)) (hdo 4 (by decide)))
      clear hdep hrest hR
      go_simp
      exact hK _ _ ⟨x, rfl, hf⟩ hR2.out (But2.refl _ _ _)
    case hend =>
      rintro ⟨tm, df⟩ w' D hD hsz hdf hR _ hgood
      have hdf' : df = [] := hdf
      subst hdf'
      obtain ⟨x, e, hf⟩ : ∃ x : Int, tm.getD 3 undef = .int .i64 x ∧ F64 x := hgood 5 (by decide)
      have e' : tm[3]?.getD undef = _ := slot_of (a := ⟨tm, []⟩) e
      obtain ⟨q1, hq1, hn1, hb1⟩ := hR
      rw [hD 4 (by decide)] at hb1
      simp only [if_true] at hb1
      have hw2 : tm.getD 2 undef = .pointer (some ⟨w.heap.size, 0, none⟩) := by rename_i hrest; exact hrest 2 (by kernel_rfl)
      have hw3 : tm[2]?.getD undef = _ := slot_of (a := ⟨tm, []⟩) hw2
      have r0 := hb1.cell0
      have r1 := hb1.cell1
      have r2 := hb1.cell2
      have r3 := hb1.cell3
      have HN := Lib.hid (And.intro hn1.made hn1.bel)
      clear hn1 hb1 hq1 hgood
      go_wp2_with fail
      refine bodyPost_ret (v := .tuple #[.agg #[.slice a1 n1 c1, .slice a2 n2 c2, .int .i64 s.run, .int .i64 s.head], .int .i64 x]) (by simp [results, Try.results26, go_sem, r0, r1, r2, r3, e', hw3]) rfl ⟨_, s, x, rfl, HN.out.1, SS.out, hf, HN.out.2⟩

set_option maxRecDepth 100000 in
set_option maxHeartbeats 4000000 in
theorem drawSNth {w : World} {a : Option Addr} {len cap : Nat} {zs : List Int} (h : IsRowK .u8 w a len cap zs) (hl : len ≤ 1048576) :
    Calls Try.prog 14 #[.slice a len cap] w (MadeN w) := by
  have q0 := Quad.new w (.slice none 0 0) (.slice none 0 0) (.int .i64 0) (.int .i64 0) 25
  have b0 := below_alloc w (.cells #[.slice none 0 0, .slice none 0 0, .int .i64 0, .int .i64 0] 25)
  obtain ⟨W0, hW0⟩ : ∃ X, X = w.alloc (.cells #[.slice none 0 0, .slice none 0 0, .int .i64 0, .int .i64 0] 25) := ⟨_, rfl⟩
  have s0 : W0.heap.size = w.heap.size + 1 := by rw [hW0]; exact Go.Deep.nblk_alloc _ _
  rw [← hW0] at q0 b0
  have OP := Lib.hid (openRd (w := W0) (h.below b0) hl)
  have HW := Lib.hid hW0.symm
  have B0 := Lib.hid b0
  have Q0 := Lib.hid q0
  have S0 := Lib.hid s0
  clear hW0 q0 b0 h s0
  go_enter Try.func14, Try.ntmps14
  go_upto_region 1 with fail
  rw [HW.out]
  go_upto_region 2 with (go_at_call 39; refine OP.out.mono ?_; rintro e w1 ⟨g, rfl, hg, hr, b1⟩)
  have DS1 := Lib.hid (drawSingle hr (by omega))
  have hgl := Lib.hid (And.intro hg hr.lt)
  have Q1 := Lib.hid (Q0.out.below b1)
  have B1 := Lib.hid (B0.out.trans (b1.mono B0.out.size))
  have S1 := Lib.hid b1.size
  clear hg hr b1
  go_upto_region 3 with (go_at_call 46; refine DS1.out.mono ?_; rintro e w2 ⟨v, s, q, rfl, os, ss, rd, hq, g2⟩; obtain ⟨a1, n1, c1, a2, n2, c2, rfl⟩ := os.form)
  have hgs := hgl.out
  have hss := S0.out
  have hs1 := S1.out
  have Q2 := Q1.out.of (g2.block _ Q1.out.lt (fun e => by simp only [Option.some.injEq] at e; omega))
  have B2 := below_grown2 B1.out (by omega) g2 B1.out.size
  have qb := Quad.new w2 (.slice a1 n1 c1) (.slice a2 n2 c2) (.int .i64 s.run) (.int .i64 s.head) 25
  have k1 := below_alloc w2 (.cells #[.slice a1 n1 c1, .slice a2 n2 c2, .int .i64 s.run, .int .i64 s.head] 25)
  have ns : NSt w g w2.heap.size w1.heap.size q (.slice a1 n1 c1) (.slice a2 n2 c2) s (w2.alloc (.cells #[.slice a1 n1 c1, .slice a2 n2 c2, .int .i64 s.run, .int .i64 s.head] 25)) :=
    ⟨qb, by obtain ⟨u1, u2, e, o1, o2, ap⟩ := os; exact ⟨u1, u2, e, o1.below k1, o2.below k1, ap⟩, rd.below k1 rd.lt, B2.trans (k1.mono B2.size), by omega, hgs.2, g2.size⟩
  have qr := Q2.below k1
  obtain ⟨V, hV⟩ : ∃ X, X = w2.alloc (.cells #[.slice a1 n1 c1, .slice a2 n2 c2, .int .i64 s.run, .int .i64 s.head] 25) := ⟨_, rfl⟩
  rw [← hV] at ns qr ⊢
  obtain ⟨b, hb4⟩ : ∃ b, b = w2.heap.size := ⟨_, rfl⟩
  rw [← hb4] at ns ⊢
  obtain ⟨base, hbase⟩ : ∃ b, b = w1.heap.size := ⟨_, rfl⟩
  rw [← hbase] at ns
  have NS0 := Lib.hid ns
  have QR0 := Lib.hid qr
  have SS := Lib.hid ss
  have HQ := Lib.hid hq
  clear hV qb k1 Q2 B2 os rd g2 hb4 hbase hgs hss hs1 hq
  have k0 := ns.box.cell0
  have k1 := ns.box.cell1
  have k2 := ns.box.cell2
  have k3 := ns.box.cell3
  have SM := Lib.hid (specMany (ns.own.sgV (by have := ss.la; omega) (by have := ss.lb; omega)))
  have mr : -1 ≤ manyV s ∧ manyV s ≤ 4096 := by
    cases hs : sgB s
    · rw [manyV_no hs]; omega
    · rw [manyV_yes hs]
      have := mny_le (u := s.A.length) (d := s.B.length) (by have := (sgB_of hs).lenA; have := (sgB_of hs).lenB; omega)
      omega
  obtain ⟨m0, hm⟩ : ∃ m, m = manyV s := ⟨_, rfl⟩
  rw [← hm] at SM mr
  have MR := Lib.hid mr
  clear ns qr ss hm mr
  go_upto_region 4 with (go_at_call 47; refine SM.out.mono ?_; rintro e w3 ⟨rfl, bz⟩)
  have NS1 := Lib.hid (NS0.out.below bz)
  have QR1 := Lib.hid (QR0.out.below bz)
  clear bz k0 k1 k2 k3
  obtain ⟨m, hm⟩ : ∃ x, x = max (1 : Int) m0 := ⟨_, rfl⟩
  rw [← hm]
  have HM := Lib.hid (show 1 ≤ m ∧ m ≤ 4096 by have := MR.out; omega)
  clear hm
  have PK := Lib.hid (pick (n := 12) NS1.out.rd (by have := HQ.out; omega) (by omega) (by omega))
  go_wp2_with fail
  refine PK.out.mono ?_
  rintro e w4 ⟨r, rfl, hr0, hr1, rd4, g4⟩
  have hgw := NS1.out.hg
  have NS := Lib.hid (NS1.out.pick g4 rd4)
  have QR := Lib.hid (QR1.out.of (g4.block _ QR1.out.lt (fun e => by simp only [Option.some.injEq] at e; omega)))
  obtain ⟨B, hBq⟩ : ∃ B, B = q + 1 := ⟨_, rfl⟩
  have HB0 := Lib.hid (show B ≤ 100000 by have := HQ.out; omega)
  rw [← hBq] at NS
  obtain ⟨q9, hq9⟩ : ∃ x, x = B := ⟨_, rfl⟩
  have HB := Lib.hid (show q9 ≤ B by omega)
  rw [← hq9] at NS
  clear PK hr1 rd4 g4 hgw hBq hq9
  by_cases hz : r = 0
  · have hz' : (r == 0) = true := by simpa using hz
    clear hz
    go_upto_region 5 with fail
    clear hz'
    refine wp_region_goodsL (G := GNthA (.agg #[.slice a1 n1 c1, .slice a2 n2 c2, .int .i64 s.run, .int .i64 s.head]) g w.heap.size m) (R := RN w g b base B (.slice a1 n1 c1) (.slice a2 n2 c2) s 4 7) (T := fun _ => But2 g w.heap.size) (by kernel_rfl) (by kernel_rfl) ?start (fun _ i _ v X Y _ _ _ h => GNthA.kept i v X Y h) ⟨?s0, ?s1, ?s2, ?s3, ?s4, ?s5, ?s6, ?s7, ?s8, trivial⟩ ?hend
    case start =>
      intro D hD
      exact ⟨q9, by rw [hD]; exact HB.out, NS.out.below ((Below.refl _ _).drew), by rw [hD]; exact QR.out.below ((Below.refl _ _).drew)⟩
    case s0 =>
      intro ac wc D D' hDk hDk' hdo hcl hR hrest hdep K hK
      have e0 : ac.tmps.getD 5 undef = .pointer (some ⟨b, 0, none⟩) := hrest 5 (by kernel_rfl)
      have f0 := slot_of e0
      obtain ⟨q1, hq1, hn1, hb1⟩ := id hR
      have c0 := hn1.box.cell0
      have c1' := hn1.box.cell1
      have c2' := hn1.box.cell2
      have c3 := hn1.box.cell3
      clear hdep hrest
      go_simp
      exact hK _ _ rfl (hR.same (hdo 4 (by decide)) (hdo 7 (by decide))) (But2.refl _ _ _)
    case s1 =>
      intro ac wc D D' hDk hDk' hdo hcl hR hrest hdep K hK
      have e0 : ac.tmps.getD 6 undef = .int .i64 m := hrest 6 (by kernel_rfl)
      have f0 := slot_of e0
      clear hdep hrest
      go_simp
      exact hK _ _ rfl (hR.same (hdo 4 (by decide)) (hdo 7 (by decide))) (But2.refl _ _ _)
    case s2 =>
      intro ac wc D D' hDk hDk' hdo hcl hR hrest hdep K hK
      have e1 : ac.tmps.getD 18 undef = .int .i64 m := hdep 1 (by kernel_rfl)
      have f1 := slot_of e1
      clear hdep hrest
      obtain ⟨q1, hq1, hn1, hb1⟩ := id hR
      have lg := hn1.rd.lt
      have lr := hb1.lt
      clear hq1 hn1 hb1
      have HC := Lib.hid hK
      clear hK
      go_simp
      refine HC.out _ _ ⟨wc.heap.size, rfl, by simp, by omega, by omega, fun j hj => ?_⟩ ((hR.same (hdo 4 (by decide)) (hdo 7 (by decide))).alloc _) (But2.alloc _ _ _ _)
      rcases (by omega : j = 0 ∨ j = 1) with rfl | rfl
      · exact ⟨_, by unfold World.cell?; simp only [heap_alloc_new]; rfl, by unfold F64; omega⟩
      · exact ⟨_, by unfold World.cell?; simp only [heap_alloc_new]; rfl, by have := HM.out; unfold F64; omega⟩
    case s3 =>
      intro ac wc D D' hDk hDk' hdo hcl hR hrest hdep K hK
      have e0 : ac.tmps.getD 4 undef = .pointer (some ⟨g, 0, none⟩) := hrest 4 (by kernel_rfl)
      have f0 := slot_of e0
      clear hdep hrest
      go_simp
      exact hK _ _ rfl (hR.same (hdo 4 (by decide)) (hdo 7 (by decide))) (But2.refl _ _ _)
    case s4 =>
      intro ac wc D D' hDk hDk' hdo hcl hR hrest hdep K hK
      have e0 : ac.tmps.getD 20 undef = .pointer (some ⟨g, 0, none⟩) := hdep 3 (by kernel_rfl)
      have f0 := slot_of e0
      clear hdep hrest
      obtain ⟨q1, hq1, hn1, hb1⟩ := id hR
      rw [hDk] at hq1
      have hgw := hn1.hg
      go_simp
      refine (pick (n := 2) hn1.rd (by have := HB0.out; simp at hq1; omega) (by omega) (by omega)).mono ?_
      rintro e w4 ⟨r, rfl, hr0, hr1, hr4, g4⟩
      refine hK _ _ ⟨r, rfl, hr0, hr1 (by omega)⟩ ⟨q1 + 1, by rw [hDk']; simp at hq1 ⊢; omega, hn1.pick g4 hr4, ?_⟩ (But2.pick g4)
      rw [hdo 7 (by decide)]
      exact hb1.of (g4.block _ hb1.lt (fun e => by simp only [Option.some.injEq] at e; omega))
    case s5 =>
      intro ac wc D D' hDk hDk' hdo hcl hR hrest hdep K hK
      obtain ⟨bb, e, hbs, h1, h2, hc⟩ : LitAt g w.heap.size 2 (ac.tmps.getD 19 undef) wc := hdep 2 (by kernel_rfl)
      obtain ⟨r, e2, hr0, hr1⟩ : ∃ r : Int, ac.tmps.getD 21 undef = .int .i64 r ∧ 0 ≤ r ∧ r < 2 := hdep 4 (by kernel_rfl)
      have e' := slot_of e
      have e2' := slot_of e2
      obtain ⟨x, hx, hf⟩ := hc r.toNat (by omega)
      have HH := Lib.hid (show PtrAt g w.heap.size (.pointer (some ⟨bb, r.toNat, none⟩)) wc from ⟨bb, r.toNat, x, rfl, hbs, h1, h2, hx, hf⟩)
      have hR2 := Lib.hid (hR.same (hdo 4 (by decide)) (hdo 7 (by decide)))
      clear hx hf hc hdep hrest hbs h1 h2 hR
      go_simp
      exact hK (.pointer (some ⟨bb, r.toNat, none⟩)) _ HH.out hR2.out (But2.refl _ _ _)
    case s6 =>
      intro ac wc D D' hDk hDk' hdo hcl hR hrest hdep K hK
      obtain ⟨bb, j, x, e, hbs, h1, h2, hc, hf⟩ : PtrAt g w.heap.size (ac.tmps.getD 22 undef) wc := hdep 5 (by kernel_rfl)
      have e' := slot_of e
      have hR2 := Lib.hid (hR.same (hdo 4 (by decide)) (hdo 7 (by decide)))
      clear hdep hrest hR
      go_simp
      exact hK _ _ ⟨x, rfl, hf⟩ hR2.out (But2.refl _ _ _)
    case s7 =>
      intro ac wc D D' hDk hDk' hdo hcl hR hrest hdep K hK
      have e0 : ac.tmps.getD 2 undef = .pointer (some ⟨w.heap.size, 0, none⟩) := hrest 2 (by kernel_rfl)
      have e1 : ac.tmps.getD 17 undef = .agg #[.slice a1 n1 c1, .slice a2 n2 c2, .int .i64 s.run, .int .i64 s.head] := hdep 0 (by kernel_rfl)
      have f0 := slot_of e0
      have f1 := slot_of e1
      clear hdep hrest
      obtain ⟨q1, hq1, hn1, hb1⟩ := hR
      rw [hDk] at hb1
      simp only [Bool.false_eq_true, if_false] at hb1
      have c0 := hb1.cell0
      have c1' := hb1.cell1
      have c2' := hb1.cell2
      have c3 := hb1.cell3
      have cf := hb1.frozen
      have HE := Lib.hid (show RN w g b base B (.slice a1 n1 c1) (.slice a2 n2 c2) s 4 7 D' _ from ⟨q1, by rw [hdo 4 (by decide)]; exact hq1, hn1.put4 hb1, by rw [hDk']; exact hb1.stored (.slice a1 n1 c1) (.slice a2 n2 c2) (.int .i64 s.run) (.int .i64 s.head)⟩)
      clear hb1 hn1 hq1
      go_simp
      exact hK undef _ trivial HE.out (But2.put _ _ _ _ _ _ _)
    case s8 =>
      intro ac wc D D' hDk hDk' hdo hcl hR hrest hdep K hK
      obtain ⟨x, e, hf⟩ : ∃ x : Int, ac.tmps.getD 23 undef = .int .i64 x ∧ F64 x := hdep 6 (by kernel_rfl)
      have e' := slot_of e
      have hR2 := Lib.hid (hR.same (hdo 4 (by decide)) (hdo 7 (by decide)))
      clear hdep hrest hR
      go_simp
      exact hK _ _ ⟨x, rfl, hf⟩ hR2.out (But2.refl _ _ _)
    case hend =>
      rintro ⟨tm, df⟩ w' D hD hsz hdf hR _ hgood
      have hdf' : df = [] := hdf
      subst hdf'
      obtain ⟨x, e, hf⟩ : ∃ x : Int, tm.getD 3 undef = .int .i64 x ∧ F64 x := hgood 8 (by decide)
      have e' : tm[3]?.getD undef = _ := slot_of (a := ⟨tm, []⟩) e
      obtain ⟨q1, hq1, hn1, hb1⟩ := hR
      rw [hD 7 (by decide)] at hb1
      simp only [if_true] at hb1
      have hw2 : tm.getD 2 undef = .pointer (some ⟨w.heap.size, 0, none⟩) := by rename_i hrest; exact hrest 2 (by kernel_rfl)
      have hw3 : tm[2]?.getD undef = _ := slot_of (a := ⟨tm, []⟩) hw2
      have r0 := hb1.cell0
      have r1 := hb1.cell1
      have r2 := hb1.cell2
      have r3 := hb1.cell3
      have HN := Lib.hid (And.intro hn1.made hn1.bel)
      clear hn1 hb1 hq1 hgood
      go_wp2_with fail
      refine bodyPost_ret (v := .tuple #[.agg #[.slice a1 n1 c1, .slice a2 n2 c2, .int .i64 s.run, .int .i64 s.head], .int .i64 x]) (by simp [results, Try.results14, go_sem, r0, r1, r2, r3, e', hw3]) rfl ⟨_, s, x, rfl, HN.out.1, SS.out, hf, HN.out.2⟩
  · have hz' : (r == 0) = false := by simpa using hz
    clear hz
    go_upto_region 6 with fail
    clear hz'
    refine wp_region_goodsL (G := GNthB (.agg #[.slice a1 n1 c1, .slice a2 n2 c2, .int .i64 s.run, .int .i64 s.head]) g w.heap.size m) (R := RN w g b base B (.slice a1 n1 c1) (.slice a2 n2 c2) s 2 5) (T := fun _ => But2 g w.heap.size) (by kernel_rfl) (by kernel_rfl) ?start (fun _ i _ v X Y _ _ _ h => GNthB.kept i v X Y h) ⟨?s0, ?s1, ?s2, ?s3, ?s4, ?s5, ?s6, trivial⟩ ?hend
    case start =>
      intro D hD
      exact ⟨q9, by rw [hD]; exact HB.out, NS.out.below ((Below.refl _ _).drew), by rw [hD]; exact QR.out.below ((Below.refl _ _).drew)⟩
    case s0 =>
      intro ac wc D D' hDk hDk' hdo hcl hR hrest hdep K hK
      have e0 : ac.tmps.getD 5 undef = .pointer (some ⟨b, 0, none⟩) := hrest 5 (by kernel_rfl)
      have f0 := slot_of e0
      obtain ⟨q1, hq1, hn1, hb1⟩ := id hR
      have c0 := hn1.box.cell0
      have c1' := hn1.box.cell1
      have c2' := hn1.box.cell2
      have c3 := hn1.box.cell3
      clear hdep hrest
      go_simp
      exact hK _ _ rfl (hR.same (hdo 2 (by decide)) (hdo 5 (by decide))) (But2.refl _ _ _)
    case s1 =>
      intro ac wc D D' hDk hDk' hdo hcl hR hrest hdep K hK
      have e0 : ac.tmps.getD 4 undef = .pointer (some ⟨g, 0, none⟩) := hrest 4 (by kernel_rfl)
      have f0 := slot_of e0
      clear hdep hrest
      go_simp
      exact hK _ _ rfl (hR.same (hdo 2 (by decide)) (hdo 5 (by decide))) (But2.refl _ _ _)
    case s2 =>
      intro ac wc D D' hDk hDk' hdo hcl hR hrest hdep K hK
      have e0 : ac.tmps.getD 25 undef = .pointer (some ⟨g, 0, none⟩) := hdep 1 (by kernel_rfl)
      have f0 := slot_of e0
      clear hdep hrest
      obtain ⟨q1, hq1, hn1, hb1⟩ := id hR
      rw [hDk] at hq1
      have hgw := hn1.hg
      go_simp
      refine (pick (n := 1000) hn1.rd (by have := HB0.out; simp at hq1; omega) (by omega) (by omega)).mono ?_
      rintro e w4 ⟨r, rfl, hr0, hr1, hr4, g4⟩
      refine hK _ _ ⟨r, rfl, hr0, hr1 (by omega)⟩ ⟨q1 + 1, by rw [hDk']; simp at hq1 ⊢; omega, hn1.pick g4 hr4, ?_⟩ (But2.pick g4)
      rw [hdo 5 (by decide)]
      exact hb1.of (g4.block _ hb1.lt (fun e => by simp only [Option.some.injEq] at e; omega))
    case s3 =>
      intro ac wc D D' hDk hDk' hdo hcl hR hrest hdep K hK
      have e0 : ac.tmps.getD 6 undef = .int .i64 m := hrest 6 (by kernel_rfl)
      have f0 := slot_of e0
      clear hdep hrest
      go_simp
      exact hK _ _ rfl (hR.same (hdo 2 (by decide)) (hdo 5 (by decide))) (But2.refl _ _ _)
    case s4 =>
      intro ac wc D D' hDk hDk' hdo hcl hR hrest hdep K hK
      obtain ⟨r, e, hr0, hr1⟩ : ∃ r : Int, ac.tmps.getD 26 undef = .int .i64 r ∧ 0 ≤ r ∧ r < 1000 := hdep 2 (by kernel_rfl)
      have e1 : ac.tmps.getD 27 undef = .int .i64 m := hdep 3 (by kernel_rfl)
      have f0 := slot_of e
      have f1 := slot_of e1
      have hmz : m ≠ 0 := by have := HM.out; omega
      have hmz2 : (m == 0) = false := by simp [hmz]
      have hR2 := Lib.hid (hR.same (hdo 2 (by decide)) (hdo 5 (by decide)))
      have HF := Lib.hid (show F64 (r.tmod m) from by have h1 := Int.tmod_nonneg m hr0; have h2 := Int.tmod_lt_of_pos r (show 0 < m by have := HM.out; omega); have := HM.out; unfold F64; omega)
      clear hdep hrest hR
      go_simp
      exact hK _ _ ⟨_, rfl, HF.out⟩ hR2.out (But2.refl _ _ _)
    case s5 =>
      intro ac wc D D' hDk hDk' hdo hcl hR hrest hdep K hK
      have e0 : ac.tmps.getD 2 undef = .pointer (some ⟨w.heap.size, 0, none⟩) := hrest 2 (by kernel_rfl)
      have e1 : ac.tmps.getD 24 undef = .agg #[.slice a1 n1 c1, .slice a2 n2 c2, .int .i64 s.run, .int .i64 s.head] := hdep 0 (by kernel_rfl)
      have f0 := slot_of e0
      have f1 := slot_of e1
      clear hdep hrest
      obtain ⟨q1, hq1, hn1, hb1⟩ := hR
      rw [hDk] at hb1
      simp only [Bool.false_eq_true, if_false] at hb1
      have c0 := hb1.cell0
      have c1' := hb1.cell1
      have c2' := hb1.cell2
      have c3 := hb1.cell3
      have cf := hb1.frozen
      have HE := Lib.hid (show RN w g b base B (.slice a1 n1 c1) (.slice a2 n2 c2) s 2 5 D' _ from ⟨q1, by rw [hdo 2 (by decide)]; exact hq1, hn1.put4 hb1, by rw [hDk']; exact hb1.stored (.slice a1 n1 c1) (.slice a2 n2 c2) (.int .i64 s.run) (.int .i64 s.head)⟩)
      clear hb1 hn1 hq1
      go_simp
      exact hK undef _ trivial HE.out (But2.put _ _ _ _ _ _ _)
    case s6 =>
      intro ac wc D D' hDk hDk' hdo hcl hR hrest hdep K hK
      obtain ⟨x, e, hf⟩ : ∃ x : Int, ac.tmps.getD 28 undef = .int .i64 x ∧ F64 x := hdep 4 (by kernel_rfl)
      have e' := slot_of e
      have hR2 := Lib.hid (hR.same (hdo 2 (by decide)) (hdo 5 (by decide)))
      clear hdep hrest hR
      go_simp
      exact hK _ _ ⟨x, rfl, hf⟩ hR2.out (But2.refl _ _ _)
    case hend =>
      rintro ⟨tm, df⟩ w' D hD hsz hdf hR _ hgood
      have hdf' : df = [] := hdf
      subst hdf'
      obtain ⟨x, e, hf⟩ : ∃ x : Int, tm.getD 3 undef = .int .i64 x ∧ F64 x := hgood 6 (by decide)
      have e' : tm[3]?.getD undef = _ := slot_of (a := ⟨tm, []⟩) e
      obtain ⟨q1, hq1, hn1, hb1⟩ := hR
      rw [hD 5 (by decide)] at hb1
      simp only [if_true] at hb1
      have hw2 : tm.getD 2 undef = .pointer (some ⟨w.heap.size, 0, none⟩) := by rename_i hrest; exact hrest 2 (by kernel_rfl)
      have hw3 : tm[2]?.getD undef = _ := slot_of (a := ⟨tm, []⟩) hw2
      have r0 := hb1.cell0
      have r1 := hb1.cell1
      have r2 := hb1.cell2
      have r3 := hb1.cell3
      have HN := Lib.hid (And.intro hn1.made hn1.bel)
      clear hn1 hb1 hq1 hgood
      go_wp2_with fail
      refine bodyPost_ret (v := .tuple #[.agg #[.slice a1 n1 c1, .slice a2 n2 c2, .int .i64 s.run, .int .i64 s.head], .int .i64 x]) (by simp [results, Try.results14, go_sem, r0, r1, r2, r3, e', hw3]) rfl ⟨_, s, x, rfl, HN.out.1, SS.out, hf, HN.out.2⟩

end Go.Proofs.Ytlcmkocbpnekhaa
