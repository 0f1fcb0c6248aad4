/-
  A drawn path: it can be read. For codes of at most 1048576 bytes.
-/
import Derived.Test.YtoebgdcgcdigaabBuild
import Derived.Test.YtoebgdcgcdigaabDraws1
import Derived.Deep.RegionWith
import Derived.BigRegion
import Derived.Test.YtoebgdcgcdigaabGoods
namespace Go.Proofs.Ytoebgdcgcdigaab
open Go.RowKit

/-- Block g alone, of what was there, may have been written. -/
theorem gtrans {w0 w w' : World} {g B : Nat} (h : w0.grownBy w (some g)) (k : Below B w w') (hB : w0.heap.size ≤ B) : w0.grownBy w' (some g) :=
  ⟨k.os.trans h.os, k.tape.trans h.tape, k.output.trans h.output, Nat.le_trans h.size k.size, fun i hi hne => (k.block i (by omega)).trans (h.block i hi hne)⟩
theorem gpick {w0 w w' : World} {g : Nat} (h : w0.grownBy w (some g)) (k : w.grownBy w' (some g)) : w0.grownBy w' (some g) :=
  ⟨k.os.trans h.os, k.tape.trans h.tape, k.output.trans h.output, Nat.le_trans h.size k.size, fun i hi hne => (k.block i (Nat.lt_of_lt_of_le hi h.size) hne).trans (h.block i hi hne)⟩
theorem Rd.lt {w : World} {g p : Nat} (h : Rd w g p) : g < w.heap.size := by
  obtain ⟨v, n, h1, _⟩ := h
  exact (Array.getElem?_eq_some_iff.1 h1).1
theorem Rd.below {w w' : World} {g p B : Nat} (h : Rd w g p) (hb : Below B w w') (hg : g < B) : Rd w' g p := by
  obtain ⟨v, n, h1, hbt, hne⟩ := h
  refine ⟨v, n, (hb.block g hg).trans h1, ?_, hne⟩
  obtain ⟨a, cap, rfl, hm, hc⟩ := hbt
  refine ⟨a, cap, rfl, hm, ?_⟩
  rcases hc with h0 | ⟨b, o, rfl, hb', hcell⟩
  · exact .inl h0
  · by_cases h0 : n = 0
    · exact .inl h0
    · have hbg := hne (by omega) b o _ _ rfl
      refine .inr ⟨b, o, rfl, Nat.lt_of_lt_of_le hb' hb.size, fun i hi => ?_⟩
      obtain ⟨x, hx, hx2⟩ := hcell i hi
      exact ⟨x, (hb.cell (p := ⟨b, o + i, none⟩) (by simp only; omega)).trans hx, hx2⟩
/-- A pick leaves what is being built. -/
theorem Building.picked {w w' : World} {B b g : Nat} {p : List Int × List Int} (h : Building w B b p) (hg : w.grownBy w' (some g)) (hgB : g < B) : Building w' B b p := by
  obtain ⟨u1, u2, h1, h2, h3, h4, h5, h6, h7, h8⟩ := h
  refine ⟨u1, u2, h1.of (hg.block b h1.lt (by simp; omega)), h2, h3.kept hg ?_, h4.kept hg ?_, h5, h6, h7, h8⟩
  · cases e : u1.ownBlock with
    | none => exact .inl rfl
    | some c => exact .inr (fun q => by have := (h3.under3 c e); simp only [Option.some.injEq] at q; omega)
  · cases e : u2.ownBlock with
    | none => exact .inl rfl
    | some c => exact .inr (fun q => by have := (h4.under3 c e); simp only [Option.some.injEq] at q; omega)

theorem OwnI.at {w : World} {base g n cap : Nat} {xs : List Int} (h : OwnI w base (.slice (some ⟨g, 0, none⟩) n cap) xs) (i : Nat) (hi : i < xs.length) : w.cell? ⟨g, i, none⟩ = some (.int .i64 (xs.getD i 0)) := by
  unfold OwnI at h
  have hn : n = xs.length := by
    rcases h.2 with ⟨e, _⟩ | ⟨_, _, _, e, _⟩
    · cases e
    · simp only [Value.slice.injEq] at e; exact e.2.1
  subst hn
  have := World.ownsRow.cellAt h i (by simpa using hi)
  rw [this]
  simp [hi]
theorem OwnI.frozenAt {w : World} {base g n cap : Nat} {xs : List Int} (h : OwnI w base (.slice (some ⟨g, 0, none⟩) n cap) xs) (i : Nat) : w.frozen? ⟨g, i, none⟩ = false := by
  unfold OwnI at h
  have hn : n = xs.length := by
    rcases h.2 with ⟨e, _⟩ | ⟨_, _, _, e, _⟩
    · cases e
    · simp only [Value.slice.injEq] at e; exact e.2.1
  subst hn
  exact World.ownsRow.frozenAt h i
/-- A list without its first number. -/
theorem OwnI.tail {w : World} {base g n cap : Nat} {xs : List Int} (h : OwnI w base (.slice (some ⟨g, 0, none⟩) n cap) xs) (hl : xs.length ≤ 1000) (hn : 0 < n) : Ints w (.slice (some ⟨g, 1, none⟩) (n - 1) (cap - 1)) xs.tail := by
  have hi := h.ints (by omega)
  obtain ⟨a, c, e, hlen, hc⟩ := hi
  simp only [Value.slice.injEq] at e
  obtain ⟨rfl, rfl, rfl⟩ := e
  refine ⟨_, _, by rw [List.length_tail], ⟨by rw [List.length_tail]; omega, by rw [List.length_tail]; omega⟩, ?_⟩
  rcases hc with rfl | ⟨b, o, e, hb, hcell⟩
  · simp at hn
  · simp only [Option.some.injEq, Addr.mk.injEq, and_true] at e
    obtain ⟨rfl, rfl⟩ := e
    refine .inr ⟨g, 1, rfl, hb, fun i hi => ?_⟩
    rw [List.length_tail] at hi
    have := hcell (i + 1) (by omega)
    rw [show 1 + i = 0 + (i + 1) by omega, this]
    simp
/-- A number of a list of the call's own is written. -/
theorem OwnI.stored {w : World} {base g n cap : Nat} {xs : List Int} (h : OwnI w base (.slice (some ⟨g, 0, none⟩) n cap) xs) (i : Nat) (x : Int) : OwnI (w.setCell ⟨g, i, none⟩ (.int .i64 x)) base (.slice (some ⟨g, 0, none⟩) n cap) (xs.set i x) := by
  unfold OwnI at h ⊢
  have hn : n = xs.length := by
    rcases h.2 with ⟨e, _⟩ | ⟨_, _, _, e, _⟩
    · cases e
    · simp only [Value.slice.injEq] at e; exact e.2.1
  subst hn
  have := (World.ownsRow.stored h i (.int .i64 x)).1
  rw [List.length_set, List.map_set]
  exact this

theorem Pair.drew {w : World} {b : Nat} {x y : Value} {t : TypeId} (h : Pair w b x y t) : Pair w.drew b x y t := h
theorem OwnI.drew {w : World} {base : Nat} {v : Value} {xs : List Int} (h : OwnI w base v xs) : OwnI w.drew base v xs := h
/-- A path's lists lie in blocks from b on. -/
def Far (b : Nat) (v : Value) : Prop := ∃ u1 u2, v = .agg #[u1, u2] ∧ (∀ c, u1.ownBlock = some c → b ≤ c) ∧ ∀ c, u2.ownBlock = some c → b ≤ c
theorem Far.setCell {w : World} {b c i : Nat} {v : Value} {p : List Int × List Int} (h : Far b v) (hp : PathV w v p) (hc : c < b) (u : Value) : PathV (w.setCell ⟨c, i, none⟩ u) v p := by
  obtain ⟨u1, u2, rfl, h1, h2⟩ := h
  obtain ⟨_, _, e, i1, i2⟩ := hp
  simp only [Value.agg.injEq, Array.mk.injEq, List.cons.injEq, and_true] at e
  obtain ⟨rfl, rfl⟩ := e
  have hgr : w.grownBy (w.setCell ⟨c, i, none⟩ u) (Value.slice (some ⟨c, 0, none⟩) 0 0).ownBlock := grown_setCell w ⟨c, i, none⟩ u
  refine ⟨u1, u2, rfl, i1.kept hgr (fun b o n k e q => ?_), i2.kept hgr (fun b o n k e q => ?_)⟩
  · have := h1 b (by rw [e]; rfl)
    simp only [Value.ownBlock, Option.some.injEq] at q
    omega
  · have := h2 b (by rw [e]; rfl)
    simp only [Value.ownBlock, Option.some.injEq] at q
    omega

/-- What the drawing of a path hands back. -/
def DrawnPath (w : World) (g q : Nat) (e : Ending) (w' : World) : Prop :=
  ∃ v p q', e = .returned v ∧ PathV w' v p ∧ Rd w' g q' ∧ q' ≤ q + 20 ∧ w.grownBy w' (some g) ∧ Far w.heap.size v

/-! The region that writes a drawn time into the last Out. -/

/-- What stands while it is carried out; m operations that count are left. -/
structure Mid (w : World) (g g1 g2 B k k1 k2 PB : Nat) (xs : List Int) (m : Nat) (X : World) : Prop where
  hp : Pair X B (.slice (some ⟨g1, 0, none⟩) k k1) (.slice (some ⟨g2, 0, none⟩) k k2) 32
  pr : Pair X w.heap.size (.slice none 0 0) (.slice none 0 0) 32
  o1 : OwnI X (w.heap.size + 1) (.slice (some ⟨g1, 0, none⟩) k k1) xs
  o2 : ∃ ys : List Int, ys.length = k ∧ OwnI X (w.heap.size + 1) (.slice (some ⟨g2, 0, none⟩) k k2) ys
  rd : ∃ p, p + m ≤ PB ∧ Rd X g p
  gr : w.grownBy X (some g)
/-- What an operation leaves: all blocks but two. -/
def Keeps (g g2 : Nat) (X Y : World) : Prop := X.heap.size ≤ Y.heap.size ∧ ∀ b, b < X.heap.size → b ≠ g → b ≠ g2 → Y.heap[b]? = X.heap[b]?
theorem Keeps.refl (g g2 : Nat) (X : World) : Keeps g g2 X X := ⟨Nat.le_refl _, fun _ _ _ _ => rfl⟩
theorem Keeps.cell {g g2 : Nat} {X Y : World} (h : Keeps g g2 X Y) {b j : Nat} {v : Value} (hc : X.cell? ⟨b, j, none⟩ = some v) (h1 : b ≠ g) (h2 : b ≠ g2) : Y.cell? ⟨b, j, none⟩ = some v :=
  (World.cell?_of_block (h.2 b (World.block_lt_of_cell? X _ hc) h1 h2)).trans hc
theorem Mid.alloc {w X : World} {g g1 g2 B k k1 k2 PB : Nat} {xs : List Int} {m : Nat} (h : Mid w g g1 g2 B k k1 k2 PB xs m X) (o : Obj) : Mid w g g1 g2 B k k1 k2 PB xs m (X.alloc o) := by
  have hb := below_alloc X o
  obtain ⟨ys, hl, h2⟩ := h.o2
  obtain ⟨p, hp, hr⟩ := h.rd
  exact ⟨h.hp.below hb, h.pr.below hb, h.o1.below hb, ⟨ys, hl, h2.below hb⟩, ⟨p, hp, hr.below hb hr.lt⟩, gtrans h.gr hb h.gr.size⟩
theorem Mid.pick {w X Y : World} {g g1 g2 B k k1 k2 PB : Nat} {xs : List Int} {m : Nat} (h : Mid w g g1 g2 B k k1 k2 PB xs (m + 1) X) (hg : X.grownBy Y (some g)) (hr : ∀ p, Rd X g p → Rd Y g (p + 1)) (hB : B ≠ g) (hw : g < w.heap.size) (h1 : g1 ≠ g) (h2 : g2 ≠ g) : Mid w g g1 g2 B k k1 k2 PB xs m Y := by
  obtain ⟨ys, hl, q2⟩ := h.o2
  obtain ⟨p, hp, q⟩ := h.rd
  exact ⟨h.hp.of (hg.block _ h.hp.lt (by simp; omega)), h.pr.of (hg.block _ h.pr.lt (by simp; omega)), h.o1.kept hg (.inr (by simp [Value.ownBlock]; omega)), ⟨ys, hl, q2.kept hg (.inr (by simp [Value.ownBlock]; omega))⟩, ⟨p + 1, by omega, hr p q⟩, gpick h.gr hg⟩
theorem Mid.store {w X : World} {g g1 g2 B k k1 k2 PB : Nat} {xs : List Int} {m : Nat} (h : Mid w g g1 g2 B k k1 k2 PB xs (m + 1) X) (j : Nat) (z : Int) (hB : B ≠ g2) (hw : w.heap.size < g2) (hg : g < w.heap.size) (h1 : g1 ≠ g2) : Mid w g g1 g2 B k k1 k2 PB xs m (X.setCell ⟨g2, j, none⟩ (.int .i64 z)) := by
  obtain ⟨ys, hl, q2⟩ := h.o2
  obtain ⟨p, hp, q⟩ := h.rd
  have hb : Below (w.heap.size + 1) X (X.setCell ⟨g2, j, none⟩ (.int .i64 z)) := (Below.refl _ _).setCell (by simp only; omega) _
  exact ⟨h.hp.other (a := ⟨g2, j, none⟩) hB _, h.pr.other (a := ⟨g2, j, none⟩) (by simp only; omega) _, h.o1.setApart (a := ⟨g2, j, none⟩) (by simp [Value.ownBlock]; omega) _, ⟨ys.set j z, by rw [List.length_set]; exact hl, q2.stored j z⟩, ⟨p, by omega, q.below hb (by omega)⟩, gtrans h.gr hb (by omega)⟩
/-- The values that the operations yield. -/
def G17 (g g2 B k k2 : Nat) (i : Nat) (v : Value) (X : World) : Prop :=
  match i with
  | 0 => v = .pointer (some ⟨B, 1, none⟩)
  | 1 => v = .slice (some ⟨g2, 0, none⟩) k k2
  | 2 => v = .int .i64 k
  | 3 => v = .int .i64 ((k - 1 : Nat) : Int)
  | 4 => ∃ b : Nat, v = .slice (some ⟨b, 0, none⟩) 2 2 ∧ b ≠ g ∧ b ≠ g2 ∧ ∀ j, j < 2 → ∃ z : Int, X.cell? ⟨b, j, none⟩ = some (.int .i64 z)
  | 5 => v = .pointer (some ⟨g, 0, none⟩)
  | 6 => ∃ r : Int, v = .int .i64 r ∧ 0 ≤ r ∧ r < 2
  | 7 => ∃ (b j : Nat) (z : Int), v = .pointer (some ⟨b, j, none⟩) ∧ b ≠ g ∧ b ≠ g2 ∧ X.cell? ⟨b, j, none⟩ = some (.int .i64 z)
  | 8 => ∃ z : Int, v = .int .i64 z
  | 9 => v = .pointer (some ⟨g2, k - 1, none⟩)
  | _ => True
theorem G17.kept {g g2 B k k2 : Nat} (i : Nat) (v : Value) (X Y : World) (t : Keeps g g2 X Y) (h : G17 g g2 B k k2 i v X) : G17 g g2 B k k2 i v Y := by
  unfold G17 at h ⊢
  split at h
  case h_5 =>
    obtain ⟨b, e, h1, h2, hc⟩ := h
    exact ⟨b, e, h1, h2, fun j hj => by
      obtain ⟨z, hz⟩ := hc j hj
      exact ⟨z, t.cell hz h1 h2⟩⟩
  case h_8 =>
    obtain ⟨b, j, z, e, h1, h2, hc⟩ := h
    exact ⟨b, j, z, e, h1, h2, t.cell hc h1 h2⟩
  all_goals exact h

theorem empty_ints (w : World) (a : Option Addr) (c : Nat) : Ints w (.slice a 0 c) [] := ⟨a, c, rfl, by simp, .inl rfl⟩
theorem drawn_end {w X : World} {g q q' : Nat} {u1 u2 v1 v2 : Value} {xs ys : List Int} (h1 : Ints ((X.setCell ⟨w.heap.size, 0, none⟩ u1).setCell ⟨w.heap.size, 1, none⟩ u2) v1 xs) (h2 : Ints ((X.setCell ⟨w.heap.size, 0, none⟩ u1).setCell ⟨w.heap.size, 1, none⟩ u2) v2 ys)
    (hr : Rd X g q') (hq : q' ≤ q + 20) (hg : g < w.heap.size) (hgr : w.grownBy X (some g)) (f1 : ∀ c, v1.ownBlock = some c → w.heap.size ≤ c) (f2 : ∀ c, v2.ownBlock = some c → w.heap.size ≤ c) :
    DrawnPath w g q (.returned (.agg #[v1, v2])) ((X.setCell ⟨w.heap.size, 0, none⟩ u1).setCell ⟨w.heap.size, 1, none⟩ u2) := by
  have hb : Below w.heap.size X ((X.setCell ⟨w.heap.size, 0, none⟩ u1).setCell ⟨w.heap.size, 1, none⟩ u2) := ((Below.refl _ _).setCell (p := ⟨w.heap.size, 0, none⟩) (Nat.le_refl _) u1).setCell (p := ⟨w.heap.size, 1, none⟩) (Nat.le_refl _) u2
  exact ⟨_, (xs, ys), q', rfl, ⟨v1, v2, rfl, h1, h2⟩, hr.below hb hg, hq, gtrans hgr hb (Nat.le_refl _), v1, v2, rfl, f1, f2⟩

set_option maxRecDepth 100000 in
set_option maxHeartbeats 4000000 in
theorem drawPath {w : World} {g q n : Nat} (h : Rd w g q) (hq : q ≤ 1000) (hn1 : 1 ≤ n) (hn4 : n ≤ 4) :
    Calls Try.prog 50 #[.pointer (some ⟨g, 0, none⟩), .int .i64 n] w (DrawnPath w g q) := by
  obtain ⟨i0, hi, hz0, hz1, hz2⟩ := info_parts info_int
  have hg := h.lt
  have e0 := below_alloc w (.cells #[.slice none 0 0, .slice none 0 0] 32)
  have pr := Pair.new w (.slice none 0 0) (.slice none 0 0) 32
  have s0 : (w.alloc (.cells #[.slice none 0 0, .slice none 0 0] 32)).heap.size = w.heap.size + 1 := Go.Deep.nblk_alloc _ _
  obtain ⟨W, hW⟩ : ∃ X, X = w.alloc (.cells #[.slice none 0 0, .slice none 0 0] 32) := ⟨_, rfl⟩
  rw [← hW] at e0 pr s0
  have ea := below_alloc W (.cells #[] 3)
  have oa := own_empty W
  have sa : (W.alloc (.cells #[] 3)).heap.size = W.heap.size + 1 := Go.Deep.nblk_alloc _ _
  obtain ⟨Wa, hWa⟩ : ∃ X, X = W.alloc (.cells #[] 3) := ⟨_, rfl⟩
  rw [← hWa] at ea oa sa
  have eb := below_alloc Wa (.cells #[] 3)
  have ob := own_empty Wa
  have sb : (Wa.alloc (.cells #[] 3)).heap.size = Wa.heap.size + 1 := Go.Deep.nblk_alloc _ _
  obtain ⟨Wb, hWb⟩ : ∃ X, X = Wa.alloc (.cells #[] 3) := ⟨_, rfl⟩
  rw [← hWb] at eb ob sb
  have ec := below_alloc Wb (.cells #[.slice (some ⟨W.heap.size, 0, none⟩) 0 0, .slice (some ⟨Wa.heap.size, 0, none⟩) 0 0] 32)
  have pc := Pair.new Wb (.slice (some ⟨W.heap.size, 0, none⟩) 0 0) (.slice (some ⟨Wa.heap.size, 0, none⟩) 0 0) 32
  obtain ⟨Wc, hWc⟩ : ∃ X, X = Wb.alloc (.cells #[.slice (some ⟨W.heap.size, 0, none⟩) 0 0, .slice (some ⟨Wa.heap.size, 0, none⟩) 0 0] 32) := ⟨_, rfl⟩
  rw [← hWc] at ec pc
  have hE := (ea.trans (eb.mono ea.size)).trans (ec.mono (Nat.le_trans ea.size eb.size))
  have hbd : Building Wc W.heap.size Wb.heap.size ([], []) := ⟨_, _, pc, by omega, (oa.below eb).below ec, ((ob.below ec).mono (by omega)), .inr (by simp only [Value.ownBlock]; intro e; simp only [Option.some.injEq] at e; omega), .inr (by simp only [Value.ownBlock]; intro e; simp only [Option.some.injEq] at e; omega), by simp only [Value.ownBlock]; intro e; simp only [Option.some.injEq] at e; omega, by simp only [Value.ownBlock]; intro e; simp only [Option.some.injEq] at e; omega⟩
  have HWW := Lib.hid (show (((w.alloc (.cells #[.slice none 0 0, .slice none 0 0] 32)).alloc (.cells #[] 3)).alloc (.cells #[] 3)).alloc (.cells #[.slice (some ⟨w.heap.size + 1, 0, none⟩) 0 0, .slice (some ⟨w.heap.size + 1 + 1, 0, none⟩) 0 0] 32) = Wc by rw [hWc, ← s0, ← sa, hWb, hWa, hW])
  rw [sb, sa, s0] at hbd
  rw [s0] at hE
  have hrd : Rd Wc g q := (h.below e0 hg).below hE (by omega)
  have hG : w.grownBy Wc (some g) := gtrans (gtrans ⟨rfl, rfl, rfl, Nat.le_refl _, fun _ _ _ => rfl⟩ e0 (Nat.le_refl _)) hE (by omega)
  have PR := Lib.hid ((show Pair W w.heap.size (.slice none 0 0) (.slice none 0 0) 32 from pr).of (hE.block w.heap.size (by omega)))
  clear hW hWa hWb hWc s0 sa sb oa ob pc ea eb ec e0 pr hE h
  go_enter Try.func50, Try.ntmps50
  go_upto_region 2 with fail
  rw [HWW.out]
  go_wp2_with (go_at_call 36; refine (pick hrd (by omega) (by omega) (by omega)).mono ?_)
  rintro e w1 ⟨t0, rfl, ht0, ht1, hr1, hg1⟩
  have ht1' := ht1 (by omega)
  have hbd := hbd.picked hg1 (by omega)
  have hG := gpick hG hg1
  have PR := Lib.hid (PR.out.of (hg1.block _ PR.out.lt (by simp; omega)))
  clear hg1 hrd ht1
  go_wp2_with fail
  go_loopw [6, 7] (fun t i wr => ∃ (k q' : Nat) (t' : Int) (p : List Int × List Int), k ≤ n ∧ i = .int .i64 k ∧ t = .int .i64 t' ∧ 0 ≤ t' ∧ t' ≤ 60 + 20 * k ∧ p.1.length = k ∧ p.2.length = k ∧ Building wr (w.heap.size + 1) (w.heap.size + 1 + 1 + 1) p ∧ Rd wr g q' ∧ q' ≤ q + 1 + 3 * k ∧ w.grownBy wr (some g) ∧ Pair wr w.heap.size (.slice none 0 0) (.slice none 0 0) 32) (fun _ i _ => n - (intOf i).toNat)
  case atStart => exact ⟨0, q + 1, t0, ([], []), by omega, rfl, rfl, ht0, by omega, rfl, rfl, hbd, hr1, by omega, hG, PR.out⟩
  case round =>
    obtain ⟨k, q', t, p, hk, rfl, rfl, htlo, hthi, hl1, hl2, hbu, hrd, hq', hgr, hpr⟩ := hrel
    by_cases hlt : k < n
    · have hki : (k : Int) < (n : Int) := by omega
      go_wp2_with (go_at_call 36; refine (pick hrd (by omega) (by omega) (by omega)).mono ?_)
      rintro e w2 ⟨r1, rfl, h10, h11, hrd2, hg2⟩
      have h11' := h11 (by omega)
      have hbu := hbu.picked hg2 (by omega)
      have hgr := gpick hgr hg2
      have hpr := hpr.of (hg2.block _ hpr.lt (by simp; omega))
      clear hg2 hrd h11
      go_wp2_with (go_at_call 36; refine (pick hrd2 (by omega) (by omega) (by omega)).mono ?_)
      rintro e w3 ⟨r2, rfl, h20, h21, hrd3, hg3⟩
      have h21' := h21 (by omega)
      have hbu := hbu.picked hg3 (by omega)
      have hgr := gpick hgr hg3
      have hpr := hpr.of (hg3.block _ hpr.lt (by simp; omega))
      clear hg3 hrd2 h21
      have hm0 : 0 ≤ r1 * r2 := Int.mul_nonneg h10 h20
      have hm1 : r1 * r2 ≤ 6 := by
        have : r1 = 0 ∨ r1 = 1 ∨ r1 = 2 := by omega
        rcases this with rfl | rfl | rfl <;> omega
      obtain ⟨m, hm⟩ : ∃ m, m = r1 * r2 := ⟨_, rfl⟩
      have hm' : r1 * r2 = m := hm.symm
      rw [← hm] at hm0 hm1
      clear hm
      have w1 : IntKind.i64.wrap (r1 * r2) = m := by rw [hm']; exact IntWalk.i64_in _ (by omega)
      have w1' : wrap64 (r1 * r2) = m := (IntWalk.i64_left _).symm.trans w1
      have w2 : IntKind.i64.wrap (t + m) = t + m := IntWalk.i64_in _ (by omega)
      have w2' : wrap64 (t + m) = t + m := (IntWalk.i64_left _).symm.trans w2
      go_upto_region 7 with fail
      obtain ⟨u1, u2, hp, hB, o1, o2, a1, a2, n1, n2⟩ := hbu
      have hltp := hp.lt
      have c0 := hp.cell0
      have HP := Lib.hid hp
      have hown := o1
      unfold OwnI at hown
      rw [hl1] at hown
      obtain ⟨av, cv, rfl⟩ := own_slice3 hown
      have hszB : w.heap.size + 1 ≤ w3.heap.size := by omega
      have O1 := Lib.hid o1
      have O2 := Lib.hid o2
      have AA := Lib.hid (And.intro a1 a2)
      have NN := Lib.hid (And.intro n1 n2)
      clear hp o1 o2 a1 a2 n1 n2
      go_wp2_with (at_builtin; refine wpList_append_own_at _ rfl _ _ 27 rfl (w.heap.size + 1) 3 i0 (.int .i64 0) 1 8 Try.underlying27 hi hz0 hz1 hz2 rfl (by decide) _ _ _ rfl (hown.alloc _) ⟨w3.heap.size, 0, none⟩ 1 1 [.int .i64 (t + m)] rfl rfl ?x1 ?x2 ?x3 ?x4 ?x5 ?_)
      all_goals first
        | (intro vx w4 hown2 hgrow _ hat)
        | exact cell_one_new _ _ _
        | rfl
        | (simp only [maxLen]; omega)
        | omega
        | (simp; done)
        | (intro u hu; simp at hu; subst hu; rfl)
        | (simp; omega)
      have hoA : OwnI w4 (w.heap.size + 1) vx (p.1 ++ [t + m]) := by
        unfold OwnI
        rw [List.length_append, List.map_append, hl1]
        exact hown2
      have hpA := (HP.out.alloc (.cells #[.int .i64 (t + m)] 3)).of (hgrow.block _ (HP.out.alloc (.cells #[.int .i64 (t + m)] 3)).lt (fun e => NN.out.1 e.symm))
      have hB3 : Building (w4.setCell ⟨w.heap.size + 1 + 1 + 1, 0, none⟩ vx) (w.heap.size + 1) (w.heap.size + 1 + 1 + 1) (p.1 ++ [t + m], p.2) := Building.in1 (p := p) HP.out hB O1.out O2.out AA.out.2 NN.out.1 NN.out.2 rfl hoA hgrow (hat.imp_right (fun e c q => by rw [e] at q; cases q; exact Nat.le_of_eq (Go.Deep.nblk_alloc _ _)))
      have hW3 : Below (w.heap.size + 1) w3 (w4.setCell ⟨w.heap.size + 1 + 1 + 1, 0, none⟩ vx) := (((Below.refl _ _).alloc hszB (.cells #[.int .i64 (t + m)] 3)).grown hgrow (by rw [Go.Deep.nblk_alloc]; omega) (fun g hg => (hown.lt g hg).1)).setCell hB vx
      obtain ⟨avx, cvx, rfl⟩ := own_slice3 hown2
      have cA := hpA.cell0
      have fA := hpA.frozen 0
      obtain ⟨w5, h3⟩ : ∃ X, X = w4.setCell ⟨w.heap.size + 1 + 1 + 1, 0, none⟩ (.slice avx (k + 1) cvx) := ⟨_, rfl⟩
      rw [← h3] at hB3 hW3
      have H3 := Lib.hid h3.symm
      clear h3 hpA hoA hown2 hgrow hat hown O1 O2 AA NN HP c0 hltp hszB
      go_upto_region 8 with fail
      rw [H3.out]
      clear cA fA H3
      have hgr := gtrans hgr hW3 (by omega)
      have hrd3 := hrd3.below hW3 (by omega)
      have hpr := hpr.of (hW3.block _ (by omega))
      clear hW3
      obtain ⟨p2, hp2⟩ : ∃ p2 : List Int × List Int, p2 = (p.1 ++ [t + m], p.2) := ⟨_, rfl⟩
      have hl21 : p2.1.length = k + 1 := by rw [hp2]; simp [hl1]
      have hl22 : p2.2.length = k := by rw [hp2]; exact hl2
      rw [← hp2] at hB3
      clear hp2 w1 w1' w2 w2' hm'
      go_wp2_with (go_at_call 36; refine (pick hrd3 (by omega) (by omega) (by omega)).mono ?_)
      rintro e w6 ⟨r3, rfl, h30, h31, hrd6, hg6⟩
      have h31' := h31 (by omega)
      have hbu := hB3.picked hg6 (by omega)
      have hgr := gpick hgr hg6
      have hpr := hpr.of (hg6.block _ hpr.lt (by simp; omega))
      clear hg6 hrd3 h31 hB3
      have w1 : IntKind.i64.wrap (t + m + 1) = t + m + 1 := IntWalk.i64_in _ (by omega)
      have w1' : wrap64 (t + m + 1) = t + m + 1 := (IntWalk.i64_left _).symm.trans w1
      have w2 : IntKind.i64.wrap (t + m + 1 + r3) = t + m + 1 + r3 := IntWalk.i64_in _ (by omega)
      have w2' : wrap64 (t + m + 1 + r3) = t + m + 1 + r3 := (IntWalk.i64_left _).symm.trans w2
      go_upto_region 9 with fail
      obtain ⟨u1, u2, hp, hB, o1, o2, a1, a2, n1, n2⟩ := hbu
      have hltp := hp.lt
      have c0 := hp.cell1
      have HP := Lib.hid hp
      have hown := o2
      unfold OwnI at hown
      rw [hl22] at hown
      obtain ⟨av, cv, rfl⟩ := own_slice3 hown
      have hszB : w.heap.size + 1 ≤ w6.heap.size := by omega
      have O1 := Lib.hid o1
      have O2 := Lib.hid o2
      have AA := Lib.hid (And.intro a1 a2)
      have NN := Lib.hid (And.intro n1 n2)
      clear hp o1 o2 a1 a2 n1 n2
      go_wp2_with (at_builtin; refine wpList_append_own_at _ rfl _ _ 27 rfl (w.heap.size + 1) 3 i0 (.int .i64 0) 1 8 Try.underlying27 hi hz0 hz1 hz2 rfl (by decide) _ _ _ rfl (hown.alloc _) ⟨w6.heap.size, 0, none⟩ 1 1 [.int .i64 (t + m + 1 + r3)] rfl rfl ?y1 ?y2 ?y3 ?y4 ?y5 ?_)
      all_goals first
        | (intro vy w7 hown2 hgrow _ hat)
        | exact cell_one_new _ _ _
        | rfl
        | (simp only [maxLen]; omega)
        | omega
        | (simp; done)
        | (intro u hu; simp at hu; subst hu; rfl)
        | (simp; omega)
      have hoA : OwnI w7 (w.heap.size + 1) vy (p2.2 ++ [t + m + 1 + r3]) := by
        unfold OwnI
        rw [List.length_append, List.map_append, hl22]
        exact hown2
      have hpA := (HP.out.alloc (.cells #[.int .i64 (t + m + 1 + r3)] 3)).of (hgrow.block _ (HP.out.alloc (.cells #[.int .i64 (t + m + 1 + r3)] 3)).lt (fun e => NN.out.2 e.symm))
      have hB3 : Building (w7.setCell ⟨w.heap.size + 1 + 1 + 1, 1, none⟩ vy) (w.heap.size + 1) (w.heap.size + 1 + 1 + 1) (p2.1, p2.2 ++ [t + m + 1 + r3]) := Building.in2 (p := p2) HP.out hB O1.out O2.out AA.out.1 NN.out.1 NN.out.2 rfl hoA hgrow (hat.imp_right (fun e c q => by rw [e] at q; cases q; exact Nat.le_of_eq (Go.Deep.nblk_alloc _ _)))
      have hW3 : Below (w.heap.size + 1) w6 (w7.setCell ⟨w.heap.size + 1 + 1 + 1, 1, none⟩ vy) := (((Below.refl _ _).alloc hszB (.cells #[.int .i64 (t + m + 1 + r3)] 3)).grown hgrow (by rw [Go.Deep.nblk_alloc]; omega) (fun g hg => (hown.lt g hg).1)).setCell hB vy
      obtain ⟨avy, cvy, rfl⟩ := own_slice3 hown2
      have cA := hpA.cell1
      have fA := hpA.frozen 1
      obtain ⟨w8, h3⟩ : ∃ X, X = w7.setCell ⟨w.heap.size + 1 + 1 + 1, 1, none⟩ (.slice avy (k + 1) cvy) := ⟨_, rfl⟩
      rw [← h3] at hB3 hW3
      have H3 := Lib.hid h3.symm
      clear h3 hpA hoA hown2 hgrow hat hown O1 O2 AA NN HP c0 hltp hszB
      have hgr := gtrans hgr hW3 (by omega)
      have hrd8 := hrd6.below hW3 (by omega)
      have hpr := hpr.of (hW3.block _ (by omega))
      have HB := Lib.hid (And.intro (show (p2.1, p2.2 ++ [t + m + 1 + r3]).1.length = k + 1 from hl21) (show (p2.1, p2.2 ++ [t + m + 1 + r3]).2.length = k + 1 by simp [hl22]))
      go_wp2_with fail
      rw [H3.out]
      exact ⟨⟨k + 1, q' + 1 + 1 + 1, t + m + 1 + r3, _, by omega, by go_num, rfl, by omega, by omega, HB.out.1, HB.out.2, hB3, hrd8, by omega, hgr, hpr⟩, by simp [intOf]; omega⟩
    · obtain rfl : k = n := by omega
      have hk0 : (0 : Int) < (k : Int) := by omega
      go_wp2_with (go_at_call 36; refine (pick hrd (by omega) (by omega) (by omega)).mono ?_)
      rintro e w2 ⟨r, rfl, hr0, hr1, hrd2, hg2⟩
      have hbu := hbu.picked hg2 (by omega)
      have hgr := gpick hgr hg2
      have hpr := hpr.of (hg2.block _ hpr.lt (by simp; omega))
      clear hg2 hrd hr1
      obtain ⟨u1, u2, hp, hB, o1, o2, a1, a2, n1, n2⟩ := hbu
      rcases o1.shape with ⟨-, e⟩ | ⟨g1, k1, rfl, hg1, hl1'⟩
      · rw [e] at hl1; simp at hl1; omega
      rcases o2.shape with ⟨-, e⟩ | ⟨g2, k2, rfl, hg2, hl2'⟩
      · rw [e] at hl2; simp at hl2; omega
      rw [hl1] at hp o1 a1 a2 n1
      rw [hl2] at hp o2 a1 a2 n2
      simp only [Value.ownBlock, ne_eq, Option.some.injEq, reduceCtorEq, false_or] at a1 n1 n2
      have j1 := o1.at 0 (by omega)
      have j2 := o2.at 0 (by omega)
      have j3 := o1.at (k - 1) (by omega)
      have f1 := o2.frozenAt 0
      have f2 := o1.frozenAt (k - 1)
      have f3 := o2.frozenAt (k - 1)
      have c0 := hp.cell0
      have c1 := hp.cell1
      have HP := Lib.hid hp
      have O1 := Lib.hid o1
      have O2 := Lib.hid o2
      have PR := Lib.hid hpr
      have RD := Lib.hid hrd2
      have GR := Lib.hid hgr
      clear hp o1 o2 a2 hpr hrd2 hgr
      have hk0' : 0 < k := by omega
      have m0 := PR.out.cell0
      by_cases r0 : r = 0
      · subst r0
        generalize p.1.getD 0 0 = x0 at j1
        have HP := Lib.hid ((HP.out.other (a := ⟨g2, 0, none⟩) (by simp only; omega) (.int .i64 x0)).drew)
        have PR := Lib.hid ((PR.out.other (a := ⟨g2, 0, none⟩) (by simp only; omega) (.int .i64 x0)).drew)
        have O1 := Lib.hid (O1.out.setApart (a := ⟨g2, 0, none⟩) (by simp only [Value.ownBlock, ne_eq, Option.some.injEq]; exact a1) (.int .i64 x0)).drew
        have O2 := Lib.hid ((O2.out.stored 0 x0)).drew
        have BB := Lib.hid (show Below (w.heap.size + 1) w2 (w2.setCell ⟨g2, 0, none⟩ (.int .i64 x0)).drew from ((Below.refl _ _).setCell (by simp only; omega) _).drew)
        have RD := Lib.hid (RD.out.below BB.out (by omega))
        have GR := Lib.hid (gtrans GR.out BB.out (by omega))
        go_wp2_with fail
        go_region
        all_goals go_upto_region 20 with fail
        obtain ⟨X, hX⟩ : ∃ X, X = (w2.setCell ⟨g2, 0, none⟩ (.int .i64 x0)).drew := ⟨_, rfl⟩
        rw [← hX] at HP PR O1 O2 RD GR
        rw [← hX]
        clear hX
        have z0 := HP.out.cell0
        have z1 := HP.out.cell1
        have l0 := PR.out.cell0
        have l1 := PR.out.cell1
        have l2 := PR.out.frozen 0
        have l3 := PR.out.frozen 1
        have pr2 := stored_pair (x' := .slice (some ⟨g1, 0, none⟩) k k1) (y' := .slice (some ⟨g2, 0, none⟩) k k2) PR.out
        have l4 := pr2.cell0
        have l5 := pr2.cell1
        have OA := (O1.out.setBelow (a := ⟨w.heap.size, 0, none⟩) (by simp only; omega) (.slice (some ⟨g1, 0, none⟩) k k1)).setBelow (a := ⟨w.heap.size, 1, none⟩) (by simp only; omega) (.slice (some ⟨g2, 0, none⟩) k k2)
        have OB := (O2.out.setBelow (a := ⟨w.heap.size, 0, none⟩) (by simp only; omega) (.slice (some ⟨g1, 0, none⟩) k k1)).setBelow (a := ⟨w.heap.size, 1, none⟩) (by simp only; omega) (.slice (some ⟨g2, 0, none⟩) k k2)
        have D := Lib.hid (drawn_end (q := q) (OA.ints (by omega)) (OB.ints (by rw [List.length_set]; omega)) RD.out (by omega) hg GR.out (fun c e => by simp only [Value.ownBlock, Option.some.injEq] at e; omega) (fun c e => by simp only [Value.ownBlock, Option.some.injEq] at e; omega))
        clear pr2 OA OB HP PR RD GR O1 O2
        go_wp2_with fail
        exact bodyPost_ret (v := .agg #[.slice (some ⟨g1, 0, none⟩) k k1, .slice (some ⟨g2, 0, none⟩) k k2]) (by simp [results, Try.results50, go_sem, l4, l5]) rfl D.out
      by_cases r1 : r = 1
      · subst r1
        have HP := Lib.hid (HP.out.other (a := ⟨g1, k - 1, none⟩) (by simp only; omega) (.int .i64 (-1)))
        have PR := Lib.hid (PR.out.other (a := ⟨g1, k - 1, none⟩) (by simp only; omega) (.int .i64 (-1)))
        have O2 := Lib.hid (O2.out.setApart (a := ⟨g1, k - 1, none⟩) (by simp only [Value.ownBlock, ne_eq, Option.some.injEq]; omega) (.int .i64 (-1)))
        have O1 := Lib.hid (O1.out.stored (k - 1) (-1))
        have BB := Lib.hid (show Below (w.heap.size + 1) w2 (w2.setCell ⟨g1, k - 1, none⟩ (.int .i64 (-1))) from (Below.refl _ _).setCell (by simp only; omega) _)
        have RD := Lib.hid (RD.out.below BB.out (by omega))
        have GR := Lib.hid (gtrans GR.out BB.out (by omega))
        have hk1 : IntKind.i64.wrap ((k : Int) - 1) = ((k - 1 : Nat) : Int) := by rw [IntWalk.i64_in _ (by omega)]; omega
        have hk2 : wrap64 ((k : Int) - 1) = ((k - 1 : Nat) : Int) := (IntWalk.i64_left _).symm.trans hk1
        go_upto_region 20 with fail
        obtain ⟨X, hX⟩ : ∃ X, X = w2.setCell ⟨g1, k - 1, none⟩ (.int .i64 (-1)) := ⟨_, rfl⟩
        rw [← hX] at HP PR O1 O2 RD GR
        rw [← hX]
        clear hX
        have z0 := HP.out.cell0
        have z1 := HP.out.cell1
        have l0 := PR.out.cell0
        have l1 := PR.out.cell1
        have l2 := PR.out.frozen 0
        have l3 := PR.out.frozen 1
        have pr2 := stored_pair (x' := .slice (some ⟨g1, 0, none⟩) k k1) (y' := .slice (some ⟨g2, 0, none⟩) k k2) PR.out
        have l4 := pr2.cell0
        have l5 := pr2.cell1
        have OA := (O1.out.setBelow (a := ⟨w.heap.size, 0, none⟩) (by simp only; omega) (.slice (some ⟨g1, 0, none⟩) k k1)).setBelow (a := ⟨w.heap.size, 1, none⟩) (by simp only; omega) (.slice (some ⟨g2, 0, none⟩) k k2)
        have OB := (O2.out.setBelow (a := ⟨w.heap.size, 0, none⟩) (by simp only; omega) (.slice (some ⟨g1, 0, none⟩) k k1)).setBelow (a := ⟨w.heap.size, 1, none⟩) (by simp only; omega) (.slice (some ⟨g2, 0, none⟩) k k2)
        have D := Lib.hid (drawn_end (q := q) (OA.ints (by rw [List.length_set]; omega)) (OB.ints (by omega)) RD.out (by omega) hg GR.out (fun c e => by simp only [Value.ownBlock, Option.some.injEq] at e; omega) (fun c e => by simp only [Value.ownBlock, Option.some.injEq] at e; omega))
        clear pr2 OA OB HP PR RD GR O1 O2
        go_wp2_with fail
        exact bodyPost_ret (v := .agg #[.slice (some ⟨g1, 0, none⟩) k k1, .slice (some ⟨g2, 0, none⟩) k k2]) (by simp [results, Try.results50, go_sem, l4, l5]) rfl D.out
      by_cases r2 : r = 2
      · subst r2
        have hk1 : IntKind.i64.wrap ((k : Int) - 1) = ((k - 1 : Nat) : Int) := by rw [IntWalk.i64_in _ (by omega)]; omega
        have hk2 : wrap64 ((k : Int) - 1) = ((k - 1 : Nat) : Int) := (IntWalk.i64_left _).symm.trans hk1
        have hk3 : ((k - 1 : Nat) : Int) < (k : Int) := by omega
        have hlt1 : k - 1 < k := by omega
        have MM := Lib.hid (show Mid w g g1 g2 (w.heap.size + 1 + 1 + 1) k k1 k2 (q' + 1 + 2) p.1 2 w2.drew from ⟨HP.out, PR.out, O1.out, ⟨p.2, hl2, O2.out⟩, ⟨q' + 1, by omega, RD.out.below ((Below.refl w2.heap.size w2).drew) RD.out.lt⟩, gtrans GR.out ((Below.refl w2.heap.size w2).drew) GR.out.size⟩)
        clear HP PR O1 O2 RD GR c0 c1 j1 j2 j3 f1 f2 f3 m0
        go_upto_region 17 with fail
        refine wp_region_goods (G := G17 g g2 (w.heap.size + 1 + 1 + 1) k k2) (c := fun i => i == 6 || i == 10) (R := Mid w g g1 g2 (w.heap.size + 1 + 1 + 1) k k1 k2 (q' + 1 + 2) p.1) (T := Keeps g g2) (by kernel_rfl) (by kernel_rfl) MM.out G17.kept ⟨?s0, ?s1, ?s2, ?s3, ?s4, ?s5, ?s6, ?s7, ?s8, ?s9, ?s10, trivial⟩ ?hend
        case s0 =>
          intro a' w' m hR hrest _ K hK
          have e : a'.tmps.getD 5 undef = .pointer (some ⟨w.heap.size + 1 + 1 + 1, 0, none⟩) := hrest 5 (by kernel_rfl)
          have e' := slot_of e
          go_simp
          exact hK _ _ rfl hR (Keeps.refl _ _ _)
        case s1 =>
          intro a' w' m hR _ hdep K hK
          have e : a'.tmps.getD 64 undef = .pointer (some ⟨w.heap.size + 1 + 1 + 1, 1, none⟩) := hdep 0 (by kernel_rfl)
          have e' := slot_of e
          have hc := hR.hp.cell1
          go_simp
          exact hK _ _ rfl hR (Keeps.refl _ _ _)
        case s2 =>
          intro a' w' m hR hrest _ K hK
          have e : a'.tmps.getD 1 undef = .int .i64 k := hrest 1 (by kernel_rfl)
          have e' := slot_of e
          go_simp
          exact hK _ _ rfl hR (Keeps.refl _ _ _)
        case s3 =>
          intro a' w' m hR _ hdep K hK
          have e : a'.tmps.getD 66 undef = .int .i64 k := hdep 2 (by kernel_rfl)
          have e' := slot_of e
          go_simp
          exact hK _ _ rfl hR (Keeps.refl _ _ _)
        case s4 =>
          intro a' w' m hR _ _ K hK
          have hsz := hR.gr.size
          have hlg := hR.rd
          have hg2lt : g2 < w'.heap.size := by
            obtain ⟨ys, _, o⟩ := hR.o2
            exact o.under2 g2 rfl
          have hne1 : w'.heap.size ≠ g := by omega
          have hne2 : w'.heap.size ≠ g2 := by omega
          go_simp
          refine hK (.slice (some ⟨w'.heap.size, 0, none⟩) 2 2) _ ⟨w'.heap.size, rfl, hne1, hne2, fun j hj => ?_⟩ (hR.alloc _) ⟨by rw [Go.Deep.nblk_alloc]; omega, fun b hb _ _ => Go.Deep.blk_alloc_lt _ _ _ hb⟩
          have hn : (w'.alloc (.cells #[.int .i64 2000, .int .i64 2001] 3)).heap[w'.heap.size]? = some (.cells #[.int .i64 2000, .int .i64 2001] 3 (0, 0)) := Go.Deep.blk_alloc_new _ _
          rcases (by omega : j = 0 ∨ j = 1) with rfl | rfl
          · exact ⟨2000, by simp only [World.cell?, hn]; rfl⟩
          · exact ⟨2001, by simp only [World.cell?, hn]; rfl⟩
        case s5 =>
          intro a' w' m hR hrest _ K hK
          have e : a'.tmps.getD 0 undef = .pointer (some ⟨g, 0, none⟩) := hrest 0 (by kernel_rfl)
          have e' := slot_of e
          go_simp
          exact hK _ _ rfl hR (Keeps.refl _ _ _)
        case s6 =>
          intro a' w' m hR _ hdep K hK
          have e : a'.tmps.getD 69 undef = .pointer (some ⟨g, 0, none⟩) := hdep 5 (by kernel_rfl)
          have e' := slot_of e
          have hR' : Mid w g g1 g2 (w.heap.size + 1 + 1 + 1) k k1 k2 (q' + 1 + 2) p.1 (m + 1) w' := hR
          obtain ⟨pp, hpp, hrd⟩ := hR'.rd
          go_simp
          refine (pick hrd (by omega) (by omega) (by omega)).mono ?_
          rintro e w4 ⟨r, rfl, hr0, hr1, hr4, g4⟩
          refine hK _ _ ⟨r, rfl, hr0, hr1 (by omega)⟩ ⟨hR'.hp.of (g4.block _ hR'.hp.lt (by simp; omega)), hR'.pr.of (g4.block _ hR'.pr.lt (by simp; omega)), hR'.o1.kept g4 (.inr (by simp [Value.ownBlock]; omega)), ?_, ⟨pp + 1, by omega, hr4⟩, gpick hR'.gr g4⟩ ⟨g4.size, fun b hb hbg _ => g4.block b hb (by simp; exact hbg)⟩
          obtain ⟨ys, hl, o⟩ := hR'.o2
          exact ⟨ys, hl, o.kept g4 (.inr (by simp [Value.ownBlock]; omega))⟩
        case s7 =>
          intro a' w' m hR _ hdep K hK
          obtain ⟨b, e, h1, h2, hc⟩ : ∃ b : Nat, a'.tmps.getD 68 undef = .slice (some ⟨b, 0, none⟩) 2 2 ∧ b ≠ g ∧ b ≠ g2 ∧ ∀ j, j < 2 → ∃ z : Int, w'.cell? ⟨b, j, none⟩ = some (.int .i64 z) := hdep 4 (by kernel_rfl)
          obtain ⟨r, e2, hr0, hr1⟩ : ∃ r : Int, a'.tmps.getD 70 undef = .int .i64 r ∧ 0 ≤ r ∧ r < 2 := hdep 6 (by kernel_rfl)
          have e' := slot_of e
          have e2' := slot_of e2
          obtain ⟨z, hz⟩ := hc r.toNat (by omega)
          have HH := Lib.hid (show G17 g g2 (w.heap.size + 1 + 1 + 1) k k2 7 (.pointer (some ⟨b, r.toNat, none⟩)) w' from ⟨b, r.toNat, z, rfl, h1, h2, hz⟩)
          clear hc hz hdep
          go_simp
          exact hK (.pointer (some ⟨b, r.toNat, none⟩)) _ HH.out hR (Keeps.refl _ _ _)
        case s8 =>
          intro a' w' m hR _ hdep K hK
          obtain ⟨b, j, z, e, h1, h2, hc⟩ : ∃ (b j : Nat) (z : Int), a'.tmps.getD 71 undef = .pointer (some ⟨b, j, none⟩) ∧ b ≠ g ∧ b ≠ g2 ∧ w'.cell? ⟨b, j, none⟩ = some (.int .i64 z) := hdep 7 (by kernel_rfl)
          have e' := slot_of e
          go_simp
          exact hK _ _ ⟨z, rfl⟩ hR (Keeps.refl _ _ _)
        case s9 =>
          intro a' w' m hR _ hdep K hK
          have e : a'.tmps.getD 65 undef = .slice (some ⟨g2, 0, none⟩) k k2 := hdep 1 (by kernel_rfl)
          have e2 : a'.tmps.getD 67 undef = .int .i64 ((k - 1 : Nat) : Int) := hdep 3 (by kernel_rfl)
          have e' := slot_of e
          have e2' := slot_of e2
          go_simp
          exact hK (.pointer (some ⟨g2, k - 1, none⟩)) _ rfl hR (Keeps.refl _ _ _)
        case s10 =>
          intro a' w' m hR _ hdep K hK
          have e : a'.tmps.getD 73 undef = .pointer (some ⟨g2, k - 1, none⟩) := hdep 9 (by kernel_rfl)
          obtain ⟨z, e2⟩ : ∃ z : Int, a'.tmps.getD 72 undef = .int .i64 z := hdep 8 (by kernel_rfl)
          have e' := slot_of e
          have e2' := slot_of e2
          have hR' : Mid w g g1 g2 (w.heap.size + 1 + 1 + 1) k k1 k2 (q' + 1 + 2) p.1 (m + 1) w' := hR
          obtain ⟨ys, hyl, hyo⟩ := hR'.o2
          have hc := hyo.at (k - 1) (by omega)
          have hf := hyo.frozenAt (k - 1)
          generalize ys.getD (k - 1) 0 = y at hc
          have HM := Lib.hid (hR'.store (k - 1) z (by omega) (by omega) hg (by omega))
          go_simp
          exact hK undef _ trivial HM.out ⟨by rw [Go.Deep.nblk_setCell]; exact Nat.le_refl _, fun b _ _ hb2 => Go.Deep.blk_setCell_other _ _ _ _ hb2⟩
        case hend =>
          rintro ⟨tm, df⟩ X hsz hdf hR hrest _
          have hdf' : df = [] := hdf
          subst hdf'
          have e4 : tm.getD 4 undef = .pointer (some ⟨w.heap.size, 0, none⟩) := hrest 4 (by kernel_rfl)
          have e5 : tm.getD 5 undef = .pointer (some ⟨w.heap.size + 1 + 1 + 1, 0, none⟩) := hrest 5 (by kernel_rfl)
          have e4' : tm[4]?.getD undef = _ := slot_of (a := ⟨tm, []⟩) e4
          have e5' : tm[5]?.getD undef = _ := slot_of (a := ⟨tm, []⟩) e5
          have hts : tm.size = 81 := hsz
          have e4n : tm[4]'(by omega) = .pointer (some ⟨w.heap.size, 0, none⟩) := by have q := e4'; rw [Array.getElem?_eq_getElem (by omega)] at q; exact q
          have e5n : tm[5]'(by omega) = .pointer (some ⟨w.heap.size + 1 + 1 + 1, 0, none⟩) := by have q := e5'; rw [Array.getElem?_eq_getElem (by omega)] at q; exact q
          have e6' : ∀ v, (tm.setIfInBounds 80 v)[4]?.getD undef = .pointer (some ⟨w.heap.size, 0, none⟩) := fun v => by rw [Array.getElem?_setIfInBounds, if_neg (by decide)]; exact e4'
          obtain ⟨ys, hyl, hyo⟩ := hR.o2
          obtain ⟨pp, hpp, hrd⟩ := hR.rd
          have HP := Lib.hid hR.hp
          have PR := Lib.hid hR.pr
          have O1 := Lib.hid hR.o1
          have O2 := Lib.hid hyo
          have RD := Lib.hid hrd
          have GR := Lib.hid hR.gr
          clear hR hrest hyo hrd
          have z0 := HP.out.cell0
          have z1 := HP.out.cell1
          have l0 := PR.out.cell0
          have l1 := PR.out.cell1
          have l2 := PR.out.frozen 0
          have l3 := PR.out.frozen 1
          have pr2 := stored_pair (x' := .slice (some ⟨g1, 0, none⟩) k k1) (y' := .slice (some ⟨g2, 0, none⟩) k k2) PR.out
          have l4 := pr2.cell0
          have l5 := pr2.cell1
          have OA := (O1.out.setBelow (a := ⟨w.heap.size, 0, none⟩) (by simp only; omega) (.slice (some ⟨g1, 0, none⟩) k k1)).setBelow (a := ⟨w.heap.size, 1, none⟩) (by simp only; omega) (.slice (some ⟨g2, 0, none⟩) k k2)
          have OB := (O2.out.setBelow (a := ⟨w.heap.size, 0, none⟩) (by simp only; omega) (.slice (some ⟨g1, 0, none⟩) k k1)).setBelow (a := ⟨w.heap.size, 1, none⟩) (by simp only; omega) (.slice (some ⟨g2, 0, none⟩) k k2)
          have D := Lib.hid (drawn_end (q := q) (OA.ints (by omega)) (OB.ints (by omega)) RD.out (by omega) hg GR.out (fun c e => by simp only [Value.ownBlock, Option.some.injEq] at e; omega) (fun c e => by simp only [Value.ownBlock, Option.some.injEq] at e; omega))
          clear pr2 OA OB HP PR RD GR O1 O2
          go_wp2_with fail
          exact bodyPost_ret (v := .agg #[.slice (some ⟨g1, 0, none⟩) k k1, .slice (some ⟨g2, 0, none⟩) k k2]) (by simp [results, Try.results50, go_sem, e4', l4, l5]) rfl D.out
      by_cases r3 : r = 3
      · subst r3
        have hkc : k ≤ k2 := by
          have q := O2.out.ints (by omega)
          obtain ⟨_, _, e, hlen, _⟩ := q
          simp only [Value.slice.injEq] at e
          omega
        by_cases hk2 : k2 = 1
        · obtain rfl : k = 1 := by omega
          subst hk2
          have fb := HP.out.frozen 1
          have HP := Lib.hid (HP.out.set1 (.slice (some ⟨g2, 0, none⟩) 0 0))
          have PR := Lib.hid (PR.out.other (a := ⟨w.heap.size + 1 + 1 + 1, 1, none⟩) (by simp only; omega) (.slice (some ⟨g2, 0, none⟩) 0 0))
          have O1 := Lib.hid (O1.out.setApart (a := ⟨w.heap.size + 1 + 1 + 1, 1, none⟩) (by simp only [Value.ownBlock, ne_eq, Option.some.injEq]; omega) (.slice (some ⟨g2, 0, none⟩) 0 0))
          have O2 := Lib.hid (O2.out.setApart (a := ⟨w.heap.size + 1 + 1 + 1, 1, none⟩) (by simp only [Value.ownBlock, ne_eq, Option.some.injEq]; omega) (.slice (some ⟨g2, 0, none⟩) 0 0))
          have BB := Lib.hid (show Below (w.heap.size + 1) w2 (w2.setCell ⟨w.heap.size + 1 + 1 + 1, 1, none⟩ (.slice (some ⟨g2, 0, none⟩) 0 0)) from (Below.refl _ _).setCell (by simp only; omega) _)
          have RD := Lib.hid (RD.out.below BB.out (by omega))
          have GR := Lib.hid (gtrans GR.out BB.out (by omega))
          go_upto_region 20 with fail
          obtain ⟨X, hX⟩ : ∃ X, X = w2.setCell ⟨w.heap.size + 1 + 1 + 1, 1, none⟩ (.slice (some ⟨g2, 0, none⟩) 0 0) := ⟨_, rfl⟩
          rw [← hX] at HP PR O1 O2 RD GR
          rw [← hX]
          clear hX
          have z0 := HP.out.cell0
          have z1 := HP.out.cell1
          have l0 := PR.out.cell0
          have l1 := PR.out.cell1
          have l2 := PR.out.frozen 0
          have l3 := PR.out.frozen 1
          have pr2 := stored_pair (x' := .slice (some ⟨g1, 0, none⟩) 1 k1) (y' := .slice (some ⟨g2, 0, none⟩) 0 0) PR.out
          have l4 := pr2.cell0
          have l5 := pr2.cell1
          have OA := (O1.out.setBelow (a := ⟨w.heap.size, 0, none⟩) (by simp only; omega) (.slice (some ⟨g1, 0, none⟩) 1 k1)).setBelow (a := ⟨w.heap.size, 1, none⟩) (by simp only; omega) (.slice (some ⟨g2, 0, none⟩) 0 0)
          have OB := (O2.out.setBelow (a := ⟨w.heap.size, 0, none⟩) (by simp only; omega) (.slice (some ⟨g1, 0, none⟩) 1 k1)).setBelow (a := ⟨w.heap.size, 1, none⟩) (by simp only; omega) (.slice (some ⟨g2, 0, none⟩) 0 0)
          have D := Lib.hid (drawn_end (q := q) (OA.ints (by omega)) (empty_ints _ (some ⟨g2, 0, none⟩) 0) RD.out (by omega) hg GR.out (fun c e => by simp only [Value.ownBlock, Option.some.injEq] at e; omega) (fun c e => by simp only [Value.ownBlock, Option.some.injEq] at e; omega))
          clear pr2 OA OB HP PR RD GR O1 O2
          go_wp2_with fail
          exact bodyPost_ret (v := .agg #[.slice (some ⟨g1, 0, none⟩) 1 k1, .slice (some ⟨g2, 0, none⟩) 0 0]) (by simp [results, Try.results50, go_sem, l4, l5]) rfl D.out
        · have hk3 : ¬ (k2 : Int) = 1 := by omega
          have hk4 : (1 : Int) ≤ (k : Int) := by omega
          have hk5 : (1 : Int) ≤ (k2 : Int) := by omega
          have hk6 : 1 ≤ k := by omega
          have hk7 : 1 ≤ k2 := by omega
          have fb := HP.out.frozen 1
          have HP := Lib.hid (HP.out.set1 (.slice (some ⟨g2, 1, none⟩) (k - 1) (k2 - 1)))
          have PR := Lib.hid (PR.out.other (a := ⟨w.heap.size + 1 + 1 + 1, 1, none⟩) (by simp only; omega) (.slice (some ⟨g2, 1, none⟩) (k - 1) (k2 - 1)))
          have O1 := Lib.hid (O1.out.setApart (a := ⟨w.heap.size + 1 + 1 + 1, 1, none⟩) (by simp only [Value.ownBlock, ne_eq, Option.some.injEq]; omega) (.slice (some ⟨g2, 1, none⟩) (k - 1) (k2 - 1)))
          have O2 := Lib.hid (O2.out.setApart (a := ⟨w.heap.size + 1 + 1 + 1, 1, none⟩) (by simp only [Value.ownBlock, ne_eq, Option.some.injEq]; omega) (.slice (some ⟨g2, 1, none⟩) (k - 1) (k2 - 1)))
          have BB := Lib.hid (show Below (w.heap.size + 1) w2 (w2.setCell ⟨w.heap.size + 1 + 1 + 1, 1, none⟩ (.slice (some ⟨g2, 1, none⟩) (k - 1) (k2 - 1))) from (Below.refl _ _).setCell (by simp only; omega) _)
          have RD := Lib.hid (RD.out.below BB.out (by omega))
          have GR := Lib.hid (gtrans GR.out BB.out (by omega))
          go_upto_region 20 with fail
          obtain ⟨X, hX⟩ : ∃ X, X = w2.setCell ⟨w.heap.size + 1 + 1 + 1, 1, none⟩ (.slice (some ⟨g2, 1, none⟩) (k - 1) (k2 - 1)) := ⟨_, rfl⟩
          rw [← hX] at HP PR O1 O2 RD GR
          rw [← hX]
          clear hX
          have z0 := HP.out.cell0
          have z1 := HP.out.cell1
          have l0 := PR.out.cell0
          have l1 := PR.out.cell1
          have l2 := PR.out.frozen 0
          have l3 := PR.out.frozen 1
          have pr2 := stored_pair (x' := .slice (some ⟨g1, 0, none⟩) k k1) (y' := .slice (some ⟨g2, 1, none⟩) (k - 1) (k2 - 1)) PR.out
          have l4 := pr2.cell0
          have l5 := pr2.cell1
          have OA := (O1.out.setBelow (a := ⟨w.heap.size, 0, none⟩) (by simp only; omega) (.slice (some ⟨g1, 0, none⟩) k k1)).setBelow (a := ⟨w.heap.size, 1, none⟩) (by simp only; omega) (.slice (some ⟨g2, 1, none⟩) (k - 1) (k2 - 1))
          have OB := (O2.out.setBelow (a := ⟨w.heap.size, 0, none⟩) (by simp only; omega) (.slice (some ⟨g1, 0, none⟩) k k1)).setBelow (a := ⟨w.heap.size, 1, none⟩) (by simp only; omega) (.slice (some ⟨g2, 1, none⟩) (k - 1) (k2 - 1))
          have D := Lib.hid (drawn_end (q := q) (OA.ints (by omega)) (OB.tail (by omega) (by omega)) RD.out (by omega) hg GR.out (fun c e => by simp only [Value.ownBlock, Option.some.injEq] at e; omega) (fun c e => by simp only [Value.ownBlock, Option.some.injEq] at e; omega))
          clear pr2 OA OB HP PR RD GR O1 O2
          go_wp2_with fail
          exact bodyPost_ret (v := .agg #[.slice (some ⟨g1, 0, none⟩) k k1, .slice (some ⟨g2, 1, none⟩) (k - 1) (k2 - 1)]) (by simp [results, Try.results50, go_sem, l4, l5]) rfl D.out
      · have t0' : (r == 0) = false := by simpa using r0
        have t1' : (r == 1) = false := by simpa using r1
        have t2' : (r == 2) = false := by simpa using r2
        have t3' : (r == 3) = false := by simpa using r3
        clear r0 r1 r2 r3
        go_upto_region 20 with fail
        obtain ⟨X, hX⟩ : ∃ X, X = w2 := ⟨_, rfl⟩
        rw [← hX] at HP PR O1 O2 RD GR
        rw [← hX]
        clear hX
        have z0 := HP.out.cell0
        have z1 := HP.out.cell1
        have l0 := PR.out.cell0
        have l1 := PR.out.cell1
        have l2 := PR.out.frozen 0
        have l3 := PR.out.frozen 1
        have pr2 := stored_pair (x' := .slice (some ⟨g1, 0, none⟩) k k1) (y' := .slice (some ⟨g2, 0, none⟩) k k2) PR.out
        have l4 := pr2.cell0
        have l5 := pr2.cell1
        have OA := (O1.out.setBelow (a := ⟨w.heap.size, 0, none⟩) (by simp only; omega) (.slice (some ⟨g1, 0, none⟩) k k1)).setBelow (a := ⟨w.heap.size, 1, none⟩) (by simp only; omega) (.slice (some ⟨g2, 0, none⟩) k k2)
        have OB := (O2.out.setBelow (a := ⟨w.heap.size, 0, none⟩) (by simp only; omega) (.slice (some ⟨g1, 0, none⟩) k k1)).setBelow (a := ⟨w.heap.size, 1, none⟩) (by simp only; omega) (.slice (some ⟨g2, 0, none⟩) k k2)
        have D := Lib.hid (drawn_end (q := q) (OA.ints (by omega)) (OB.ints (by omega)) RD.out (by omega) hg GR.out (fun c e => by simp only [Value.ownBlock, Option.some.injEq] at e; omega) (fun c e => by simp only [Value.ownBlock, Option.some.injEq] at e; omega))
        clear pr2 OA OB HP PR RD GR O1 O2
        go_wp2_with fail
        exact bodyPost_ret (v := .agg #[.slice (some ⟨g1, 0, none⟩) k k1, .slice (some ⟨g2, 0, none⟩) k k2]) (by simp [results, Try.results50, go_sem, l4, l5]) rfl D.out

end Go.Proofs.Ytoebgdcgcdigaab
