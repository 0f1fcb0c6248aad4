/-
  Drawn blocks. For codes of at most 1048576 bytes.
-/
import Derived.Test.YtedbfmmklmidjabDrawE
import Derived.Test.YtedbfmmklmidjabLawC
import Derived.Test.YtedbfmmklmidjabManyS
namespace Go.Proofs.Ytedbfmmklmidjab
open Go.RowKit Go.Sort

/-- A drawn number of cycles. -/
def DrawnCycle (w : World) (e : Ending) (w' : World) : Prop := ∃ n : Int, e = .returned (.int .i64 n) ∧ -1 ≤ n ∧ n ≤ 7 ∧ Below w.heap.size w w'

set_option maxHeartbeats 1000000 in
theorem drawCycle {w : World} {a : Option Addr} {len cap : Nat} {zs : List Int} (h : IsRowK .u8 w a len cap zs) (hl : len ≤ 1048576) :
    Calls Try.prog 39 #[.slice a len cap] w (DrawnCycle w) := by
  go_enter Try.func39, Try.ntmps39
  go_wp2_with (go_at_call 49; refine (openRd h hl).mono ?_)
  rintro e w1 ⟨g, rfl, hg, hr, b1⟩
  go_wp2_with (go_at_call 51; refine (pick hr (by omega) (by omega) (by omega)).mono ?_)
  rintro e w2 ⟨r, rfl, hr0, hr1, _, g2⟩
  have hr1' := hr1 (by omega)
  have hw : IntKind.i64.wrap (r - 1) = r - 1 := IntWalk.i64_in _ (by omega)
  go_wp2_with fail
  go_ret
  exact ⟨_, rfl, by omega, by omega, b1.grown g2 b1.size (fun k hk => by simp only [Option.some.injEq] at hk; omega)⟩

/-- A drawn block. -/
def DrawnBlk (w : World) (g p : Nat) (e : Ending) (w' : World) : Prop := ∃ (b : Blk) (q : Nat), e = .returned (bkV b) ∧ Rd w' g q ∧ q ≤ p + 4 ∧ w.grownBy w' (some g)
theorem kgrown_new {w w1 w2 : World} {row r2 : Option Nat} (h : w.grownBy w1 row) (k : w1.grownBy w2 r2) (hr : ∀ b, r2 = some b → w.heap.size ≤ b) : w.grownBy w2 row :=
  ⟨k.os.trans h.os, k.tape.trans h.tape, k.output.trans h.output, Nat.le_trans h.size k.size, fun i hi hne => (k.block i (Nat.lt_of_lt_of_le hi h.size) (fun e => by have := hr i e.symm; omega)).trans (h.block i hi hne)⟩
theorem blk_end {w w1 : World} {g p q : Nat} (b : Blk) (hg : g < w.heap.size) (h : w.grownBy w1 (some g)) (hr : Rd w1 g q) (hq : q ≤ p + 4) (x y z : Value) : DrawnBlk w g p (.returned (bkV b)) (((w1.setCell ⟨w.heap.size, 0, none⟩ x).setCell ⟨w.heap.size, 1, none⟩ y).setCell ⟨w.heap.size, 2, none⟩ z) := by
  have hb : Below w.heap.size w1 (((w1.setCell ⟨w.heap.size, 0, none⟩ x).setCell ⟨w.heap.size, 1, none⟩ y).setCell ⟨w.heap.size, 2, none⟩ z) := stored_below (Below.refl _ _) (Nat.le_refl _) x y z
  exact ⟨b, q, rfl, hr.below hb hg, hq, ⟨hb.os.trans h.os, hb.tape.trans h.tape, hb.output.trans h.output, Nat.le_trans h.size hb.size, fun i hi hne => (hb.block i hi).trans (h.block i hi hne)⟩⟩

set_option maxHeartbeats 1000000 in
theorem drawBlk {w : World} {g p : Nat} (h : Rd w g p) (hp : p ≤ 1000) :
    Calls Try.prog 50 #[.pointer (some ⟨g, 0, none⟩)] w (DrawnBlk w g p) := by
  have hgw := h.lt
  obtain ⟨W, hW⟩ : ∃ W, W = w.alloc (.cells #[.int .i64 0, .bool false, .bool false] 25) := ⟨_, rfl⟩
  have t1 := Tri3.new w (.int .i64 0) (.bool false) (.bool false) 25
  have b1 := below_alloc w (.cells #[.int .i64 0, .bool false, .bool false] 25)
  have g1 : w.grownBy (w.alloc (.cells #[.int .i64 0, .bool false, .bool false] 25)) (some g) := World.grownBy_alloc w _ _
  rw [← hW] at t1 b1 g1
  have HW := Lib.hid hW.symm
  have hr := h.below b1 hgw
  clear hW b1 h
  go_enter Try.func50, Try.ntmps50
  go_upto_region 1 with fail
  rw [HW.out]
  go_wp2_with (go_at_call 51; refine (pick hr (by omega) (by omega) (by omega)).mono ?_)
  rintro e w1 ⟨r, rfl, hr0, hr1, hrd1, k1⟩
  have t1 := t1.of (k1.block _ t1.lt (by simp; omega))
  have g2 := grown_trans g1 k1
  clear g1 k1 hr hr1
  by_cases h0 : r = 0
  · subst h0
    go_wp2_with (go_at_call 51; refine (pick hrd1 (by omega) (by omega) (by omega)).mono ?_)
    rintro e w2 ⟨x, rfl, hx0, hx1, hrd2, k2⟩
    have t2 := t1.of (k2.block _ t1.lt (by simp; omega))
    have g3 := grown_trans g2 k2
    have hx1' := hx1 (by omega)
    clear t1 g2 k2 hrd1 hx1
    have hw : IntKind.i64.wrap (x - 1) = x - 1 := IntWalk.i64_in _ (by omega)
    go_wp2_with (go_at_call 51; refine (pick hrd2 (by omega) (by omega) (by omega)).mono ?_)
    rintro e w3 ⟨y, rfl, hy0, hy1, hrd3, k3⟩
    have t3 := t2.of (k3.block _ t2.lt (by simp; omega))
    have g4 := grown_trans g3 k3
    clear t2 g3 k3 hrd2
    go_wp2_with (go_at_call 51; refine (pick hrd3 (by omega) (by omega) (by omega)).mono ?_)
    rintro e w4 ⟨z, rfl, hz0, hz1, hrd4, k4⟩
    have t4 := t3.of (k4.block _ t3.lt (by simp; omega))
    have g5 := grown_trans g4 k4
    clear t3 g4 k4 hrd3
    have l0 := t4.cell0
    have l1 := t4.cell1
    have l2 := t4.cell2
    have f0 := t4.frozen 0
    have f1 := t4.frozen 1
    have f2 := t4.frozen 2
    have ts := t4.stored (.int .i64 (x - 1)) (.bool (y == 0)) (.bool (z == 0))
    have s0 := ts.cell0
    have s1 := ts.cell1
    have s2 := ts.cell2
    have E := Lib.hid (blk_end (p := p) (x - 1, y == 0, z == 0) hgw g5 hrd4 (by omega) (.int .i64 (x - 1)) (.bool (y == 0)) (.bool (z == 0)))
    clear ts t4 g5 hrd4
    go_wp2_with fail
    exact bodyPost_ret (v := bkV (x - 1, y == 0, z == 0)) (by simp [results, bkV, Try.results50, go_sem, s0, s1, s2]) rfl E.out
  · have h0' : (r == 0) = false := by simpa using h0
    go_wp2_with (go_at_call 44; refine (l3All _).mono ?_)
    rintro e w2 ⟨rfl, a2, b2⟩
    have hrd2 := hrd1.below b2 hrd1.lt
    have t2 := t1.below b2
    have g3 := kgrown_new g2 (below_grown b2) (fun b e => by cases e)
    have hs1 := g2.size
    have hs2 := a2.lt
    clear t1 g2 b2 hrd1
    go_wp2_with (go_at_call 51; refine (pick hrd2 (by omega) (by omega) (by omega)).mono ?_)
    rintro e w3 ⟨i, rfl, hi0, hi1, hrd3, k3⟩
    have hi1' := hi1 (by omega)
    obtain ⟨i, rfl⟩ : ∃ m : Nat, i = (m : Int) := ⟨i.toNat, by omega⟩
    have a3 := a2.grown k3 (by simp only [ne_eq, Option.some.injEq]; omega)
    have t3 := t2.of (k3.block _ t2.lt (by simp; omega))
    have g4 := grown_trans g3 k3
    have hi5 : i < 5 := by omega
    have c0 := a3.at0 hi5
    have c1 := a3.at1 hi5
    have c2 := a3.at2 hi5
    clear t2 a2 a3 g3 k3 hrd2 hi1
    have l0 := t3.cell0
    have l1 := t3.cell1
    have l2 := t3.cell2
    have f0 := t3.frozen 0
    have f1 := t3.frozen 1
    have f2 := t3.frozen 2
    obtain ⟨b, hb⟩ : ∃ b, b = bkAt i := ⟨_, rfl⟩
    rw [← hb] at c0 c1 c2
    have ts := t3.stored (.int .i64 b.1) (.bool b.2.1) (.bool b.2.2)
    have s0 := ts.cell0
    have s1 := ts.cell1
    have s2 := ts.cell2
    have E := Lib.hid (blk_end (p := p) b hgw g4 hrd3 (by omega) (.int .i64 b.1) (.bool b.2.1) (.bool b.2.2))
    clear ts t3 g4 hrd3 hb
    go_wp2_with fail
    exact bodyPost_ret (v := bkV b) (by simp [results, bkV, Try.results50, go_sem, s0, s1, s2]) rfl E.out

theorem row_under {k : IntKind} {w w' : World} {a : Option Addr} {n c : Nat} {z : List Int} (h : IsRowK k w a n c z) (hb : Below w.heap.size w w') : IsRowK k w' a n c z := by
  rcases h with h | ⟨x, rfl, h1, h2, h3, h4, h5⟩
  · exact .inl h
  · refine .inr ⟨x, rfl, h1, h2, h3, fun i hi => ?_, h5⟩
    have hx := World.block_lt_of_cell? w _ (h4 i hi)
    exact (hb.cell (p := x.add i) hx).trans (h4 i hi)
/-- A drawn block, from the outside. -/
def DrawnB (w : World) (e : Ending) (w' : World) : Prop := ∃ b : Blk, e = .returned (bkV b) ∧ Below w.heap.size w w'

set_option maxHeartbeats 1000000 in
theorem drawNextB {w : World} {a : Option Addr} {len cap : Nat} {zs : List Int} (h : IsRowK .u8 w a len cap zs) (hl : len ≤ 1048576) :
    Calls Try.prog 25 #[.slice a len cap] w (DrawnB w) := by
  have b0 := below_alloc w (.cells #[.int .i64 0, .bool false, .bool false] 25)
  have t0 := Tri3.new w (.int .i64 0) (.bool false) (.bool false) 25
  obtain ⟨W, hW⟩ : ∃ W, W = w.alloc (.cells #[.int .i64 0, .bool false, .bool false] 25) := ⟨_, rfl⟩
  rw [← hW] at b0 t0
  have HW := Lib.hid hW.symm
  have OP := Lib.hid (openRd (row_under h b0) hl)
  clear hW h
  go_enter Try.func25, Try.ntmps25
  go_upto_region 1 with fail
  rw [HW.out]
  go_wp2_with (go_at_call 49; refine OP.out.mono ?_)
  rintro e w1 ⟨g, rfl, hg, hr, b1⟩
  have DB := Lib.hid (drawBlk hr (by omega))
  have t1 := t0.below b1
  have hgt : w.heap.size < g := Nat.lt_of_lt_of_le t0.lt hg
  clear t0 OP
  go_wp2_with (go_at_call 50; refine DB.out.mono ?_)
  rintro e w2 ⟨b, q, rfl, _, _, k2⟩
  have t2 := t1.of (k2.block _ t1.lt (by simp; omega))
  have B2 := (b0.trans (b1.mono b0.size)).grown k2 (Nat.le_trans b0.size b1.size) (fun b hb => by simp only [Option.some.injEq] at hb; omega)
  have l0 := t2.cell0
  have l1 := t2.cell1
  have l2 := t2.cell2
  have f0 := t2.frozen 0
  have f1 := t2.frozen 1
  have f2 := t2.frozen 2
  have ts := t2.stored (.int .i64 b.1) (.bool b.2.1) (.bool b.2.2)
  have s0 := ts.cell0
  have s1 := ts.cell1
  have s2 := ts.cell2
  have E := Lib.hid (show DrawnB w (.returned (bkV b)) (((w2.setCell ⟨w.heap.size, 0, none⟩ (.int .i64 b.1)).setCell ⟨w.heap.size, 1, none⟩ (.bool b.2.1)).setCell ⟨w.heap.size, 2, none⟩ (.bool b.2.2)) from ⟨b, rfl, stored_below B2 (Nat.le_refl _) _ _ _⟩)
  clear ts t2 t1 k2 B2 b1 b0 DB hr
  unfold bkV
  go_wp2_with fail
  exact bodyPost_ret (v := bkV b) (by simp [results, bkV, Try.results25, go_sem, s0, s1, s2]) rfl E.out

end Go.Proofs.Ytedbfmmklmidjab
