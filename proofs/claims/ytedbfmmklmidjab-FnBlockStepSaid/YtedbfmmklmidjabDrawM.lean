/-
  Drawn blocks with a number, a text or another block. For codes of at most 1048576 bytes.
-/
import Derived.Test.YtedbfmmklmidjabDrawK
import Derived.Test.YtedbfmmklmidjabWayI
namespace Go.Proofs.Ytedbfmmklmidjab
open Go.RowKit Go.Sort

set_option maxHeartbeats 1000000 in
theorem drawTrains {w : World} {a : Option Addr} {len cap : Nat} {zs : List Int} (h : IsRowK .u8 w a len cap zs) (hl : len ≤ 1048576) :
    Calls Try.prog 31 #[.slice a len cap] w (ShortText w 33) := by
  go_enter Try.func31, Try.ntmps31
  go_wp2_with (go_at_call 49; refine (openRd h hl).mono ?_)
  rintro e w1 ⟨g, rfl, hg, hr, b1⟩
  go_wp2_with (go_at_call 57; refine (legalText hr (by omega) hg).mono ?_)
  rintro e w2 ⟨S, q, rfl, hS, -, -, b2⟩
  go_wp2_with fail
  go_ret
  exact ⟨S, rfl, hS, b1.trans b2⟩

set_option maxHeartbeats 1000000 in
theorem drawNormal {w : World} {a : Option Addr} {len cap : Nat} {zs : List Int} (h : IsRowK .u8 w a len cap zs) (hl : len ≤ 1048576) :
    Calls Try.prog 35 #[.slice a len cap] w (ShortText w 33) := by
  go_enter Try.func35, Try.ntmps35
  go_wp2_with (go_at_call 49; refine (openRd h hl).mono ?_)
  rintro e w1 ⟨g, rfl, hg, hr, b1⟩
  go_wp2_with (go_at_call 57; refine (legalText hr (by omega) hg).mono ?_)
  rintro e w2 ⟨S, q, rfl, hS, -, -, b2⟩
  go_wp2_with fail
  go_ret
  exact ⟨S, rfl, hS, b1.trans b2⟩

/-- The state in which a drawing stands that has drawn its block: the result's cell, the reader, the block. -/
structure At (w : World) (g q n : Nat) (b : Blk) (W : World) : Prop where
  cell : Tri3 W w.heap.size (.int .i64 0) (.bool false) (.bool false) 25
  blk : Tri3 W n (.int .i64 b.1) (.bool b.2.1) (.bool b.2.2) 25
  rd : Rd W g q
  lo : w.heap.size < g
  hi : g < n
  bel : Below w.heap.size w W
theorem At.drew {w W : World} {g q n : Nat} {b : Blk} (h : At w g q n b W) : At w g q n b W.drew := ⟨h.cell, h.blk, h.rd, h.lo, h.hi, h.bel.drew⟩
theorem At.below {w W X : World} {g q n : Nat} {b : Blk} (h : At w g q n b W) (hb : Below W.heap.size W X) : At w g q n b X :=
  ⟨h.cell.below hb, h.blk.below hb, h.rd.below hb h.rd.lt, h.lo, h.hi, h.bel.trans (hb.mono h.bel.size)⟩
theorem At.grown {w W X : World} {g q q' n : Nat} {b : Blk} (h : At w g q n b W) (hg : W.grownBy X (some g)) (hr : Rd X g q') : At w g q' n b X :=
  ⟨h.cell.of (hg.block _ h.cell.lt (by have := h.lo; simp; omega)), h.blk.of (hg.block _ h.blk.lt (by have := h.hi; simp; omega)), hr, h.lo, h.hi, h.bel.grown hg h.bel.size (fun c hc => by have := h.lo; simp only [Option.some.injEq] at hc; omega)⟩
theorem At.new {w W : World} {g q : Nat} {b : Blk} (hc : Tri3 W w.heap.size (.int .i64 0) (.bool false) (.bool false) 25) (hr : Rd W g q) (hl : w.heap.size < g) (hb : Below w.heap.size w W) : At w g q W.heap.size b (W.alloc (.cells #[.int .i64 b.1, .bool b.2.1, .bool b.2.2] 25)) :=
  have e := below_alloc W (.cells #[.int .i64 b.1, .bool b.2.1, .bool b.2.2] 25)
  ⟨hc.below e, Tri3.new _ _ _ _ _, hr.below e hr.lt, hl, hr.lt, hb.trans (e.mono hb.size)⟩
/-- What is behind the last store. -/
theorem At.fin {w W : World} {g q n : Nat} {b : Blk} (h : At w g q n b W) (x y z : Value) : Tri3 (((W.setCell ⟨w.heap.size, 0, none⟩ x).setCell ⟨w.heap.size, 1, none⟩ y).setCell ⟨w.heap.size, 2, none⟩ z) w.heap.size x y z 25 ∧ Below w.heap.size w (((W.setCell ⟨w.heap.size, 0, none⟩ x).setCell ⟨w.heap.size, 1, none⟩ y).setCell ⟨w.heap.size, 2, none⟩ z) :=
  ⟨h.cell.stored x y z, stored_below h.bel (Nat.le_refl _) x y z⟩

/-- A drawn block and a drawn number. -/
def DrawnBN (w : World) (e : Ending) (w' : World) : Prop := ∃ (b : Blk) (n : Int), e = .returned (.tuple #[bkV b, .int .i64 n]) ∧ -1 ≤ n ∧ n ≤ 31 ∧ Below w.heap.size w w'

theorem lit_num {x : Int} (h0 : 0 ≤ x) (h1 : x < 3) : ∃ y : Int, -1 ≤ y ∧ y ≤ 31 ∧ (∀ h, ([.int .i64 (-1), .int .i64 30, .int .i64 31] : List Value)[x.toNat]'h = .int .i64 y) ∧ ∀ W : World, (W.alloc (.cells #[.int .i64 (-1), .int .i64 30, .int .i64 31] 3)).cell? ⟨W.heap.size, x.toNat, none⟩ = some (.int .i64 y) := by
  have h : x = 0 ∨ x = 1 ∨ x = 2 := by omega
  rcases h with rfl | rfl | rfl
  · exact ⟨-1, by omega, by omega, fun _ => rfl, fun W => by have hn : (W.alloc (.cells #[.int .i64 (-1), .int .i64 30, .int .i64 31] 3)).heap[W.heap.size]? = some (.cells #[.int .i64 (-1), .int .i64 30, .int .i64 31] 3 (0, 0)) := Go.Deep.blk_alloc_new _ _; simp only [World.cell?, hn]; rfl⟩
  · exact ⟨30, by omega, by omega, fun _ => rfl, fun W => by have hn : (W.alloc (.cells #[.int .i64 (-1), .int .i64 30, .int .i64 31] 3)).heap[W.heap.size]? = some (.cells #[.int .i64 (-1), .int .i64 30, .int .i64 31] 3 (0, 0)) := Go.Deep.blk_alloc_new _ _; simp only [World.cell?, hn]; rfl⟩
  · exact ⟨31, by omega, by omega, fun _ => rfl, fun W => by have hn : (W.alloc (.cells #[.int .i64 (-1), .int .i64 30, .int .i64 31] 3)).heap[W.heap.size]? = some (.cells #[.int .i64 (-1), .int .i64 30, .int .i64 31] 3 (0, 0)) := Go.Deep.blk_alloc_new _ _; simp only [World.cell?, hn]; rfl⟩

set_option maxHeartbeats 4000000 in
theorem drawManyB {w : World} {a : Option Addr} {len cap : Nat} {zs : List Int} (h : IsRowK .u8 w a len cap zs) (hl : len ≤ 1048576) :
    Calls Try.prog 29 #[.slice a len cap] w (DrawnBN w) := by
  have b0 := below_alloc w (.cells #[.int .i64 0, .bool false, .bool false] 25)
  have t0 := Tri3.new w (.int .i64 0) (.bool false) (.bool false) 25
  obtain ⟨W, hW⟩ : ∃ W, W = w.alloc (.cells #[.int .i64 0, .bool false, .bool false] 25) := ⟨_, rfl⟩
  rw [← hW] at b0 t0
  have HW := Lib.hid hW.symm
  have OP := Lib.hid (openRd (row_under h b0) hl)
  clear hW h
  go_enter Try.func29, Try.ntmps29
  go_upto_region 1 with fail
  rw [HW.out]
  go_wp2_with (go_at_call 49; refine OP.out.mono ?_)
  rintro e w1 ⟨g, rfl, hg, hr, b1⟩
  have DB := Lib.hid (drawBlk hr (by omega))
  have t1 := t0.below b1
  have hgt : w.heap.size < g := Nat.lt_of_lt_of_le t0.lt hg
  clear t0 OP hr
  go_wp2_with (go_at_call 50; refine DB.out.mono ?_)
  rintro e w2 ⟨b, q, rfl, hrd2, hq2, k2⟩
  have t2 := t1.of (k2.block _ t1.lt (by simp; omega))
  have B2 := (b0.trans (b1.mono b0.size)).grown k2 (Nat.le_trans b0.size b1.size) (fun b hb => by simp only [Option.some.injEq] at hb; omega)
  have A0 := At.new (b := b) t2 hrd2 hgt B2
  obtain ⟨W2, hW2⟩ : ∃ X, X = w2.alloc (.cells #[.int .i64 b.1, .bool b.2.1, .bool b.2.2] 25) := ⟨_, rfl⟩
  rw [← hW2] at A0
  have HW2 := Lib.hid hW2.symm
  clear hW2 t1 t2 k2 B2 b1 b0 DB hrd2
  unfold bkV
  go_upto_region 3 with fail
  rw [HW2.out]
  have hlo := A0.lo
  have hhi := A0.hi
  go_wp2_with (go_at_call 51; refine (pick A0.rd (by omega) (by omega) (by omega)).mono ?_)
  rintro e w3 ⟨r, rfl, hr0, hr1, hrd3, k3⟩
  have A1 := A0.grown k3 hrd3
  have AA := Lib.hid A1
  have l0 := A1.blk.cell0
  have l1 := A1.blk.cell1
  have l2 := A1.blk.cell2
  have j0 := A1.cell.cell0
  have j1 := A1.cell.cell1
  have j2 := A1.cell.cell2
  have f0 := A1.cell.frozen 0
  have f1 := A1.cell.frozen 1
  have f2 := A1.cell.frozen 2
  have lt1 := A1.blk.lt
  have lt2 := A1.cell.lt
  clear A0 A1 k3 hrd3 hr1
  by_cases h0 : r = 0
  · subst h0
    have q0 := AA.out.drew.below (below_alloc _ (.cells #[.int .i64 (-1), .int .i64 30, .int .i64 31] 3))
    have hsz : w3.drew.heap.size = w3.heap.size := rfl
    go_wp2_with fail
    go_region_with (go_at_call 51; first
      | (refine (pick AA.out.drew.rd (by omega) (by omega) (by omega)).mono ?_; rintro e wA ⟨x, rfl, hx0, hx1, hrd, k⟩; have hx1' := hx1 (by omega); obtain ⟨y, hy0, hy1, hyl, hy⟩ := lit_num hx0 hx1'; have A2 := AA.out.drew.grown k hrd; have hz := hy wA; have z0 := A2.blk.cell0; have z1 := A2.blk.cell1; have z2 := A2.blk.cell2; have i0 := A2.cell.cell0; have i1 := A2.cell.cell1; have i2 := A2.cell.cell2; have g0 := A2.cell.frozen 0; have g1 := A2.cell.frozen 1; have g2 := A2.cell.frozen 2; have h2 := A2.cell.lt; have h3 := A2.blk.lt)
      | (refine (pick q0.rd (by omega) (by omega) (by omega)).mono ?_; rintro e wA ⟨x, rfl, hx0, hx1, hrd, k⟩; have hx1' := hx1 (by omega); obtain ⟨y, hy0, hy1, hyl, hy⟩ := lit_num hx0 hx1'; have A2 := q0.grown k hrd; have hz := (World.cell?_of_block (a := ⟨w3.heap.size, x.toNat, none⟩) (k.block w3.heap.size (by simp) (by simp; omega))).trans (hy w3.drew); have z0 := A2.blk.cell0; have z1 := A2.blk.cell1; have z2 := A2.blk.cell2; have i0 := A2.cell.cell0; have i1 := A2.cell.cell1; have i2 := A2.cell.cell2; have g0 := A2.cell.frozen 0; have g1 := A2.cell.frozen 1; have g2 := A2.cell.frozen 2))
    all_goals first
      | (have ts := A2.fin (.int .i64 b.1) (.bool b.2.1) (.bool b.2.2); have s0 := ts.1.cell0; have s1 := ts.1.cell1; have s2 := ts.1.cell2; have E := Lib.hid ts.2; clear ts; go_wp2_with fail; exact bodyPost_ret (v := .tuple #[bkV b, .int .i64 y]) (by simp [results, bkV, Try.results29, go_sem, s0, s1, s2]) rfl ⟨b, y, rfl, by omega, by omega, E.out⟩)
      | (have ts := (A2.below (below_alloc _ (.cells #[.int .i64 (-1), .int .i64 30, .int .i64 31] 3))).fin (.int .i64 b.1) (.bool b.2.1) (.bool b.2.2); have s0 := ts.1.cell0; have s1 := ts.1.cell1; have s2 := ts.1.cell2; have E := Lib.hid ts.2; clear ts; go_wp2_with fail; exact bodyPost_ret (v := .tuple #[bkV b, .int .i64 y]) (by simp [results, bkV, Try.results29, go_sem, s0, s1, s2, hyl]) rfl ⟨b, y, rfl, by omega, by omega, E.out⟩)
      | (have tt := A2.fin (.int .i64 b.1) (.bool b.2.1) (.bool b.2.2); have ts := tt.1.below (below_alloc _ (.cells #[.int .i64 (-1), .int .i64 30, .int .i64 31] 3)); have s0 := ts.cell0; have s1 := ts.cell1; have s2 := ts.cell2; have E := Lib.hid (tt.2.alloc tt.2.size (.cells #[.int .i64 (-1), .int .i64 30, .int .i64 31] 3)); clear ts tt; go_wp2_with fail; exact bodyPost_ret (v := .tuple #[bkV b, .int .i64 y]) (by simp [results, bkV, Try.results29, go_sem, s0, s1, s2]) rfl ⟨b, y, rfl, by omega, by omega, E.out⟩)
  · have h0' : (r == 0) = false := by simpa using h0
    go_wp2_with fail
    go_region_with (go_at_call 51; refine (pick AA.out.drew.rd (by omega) (by omega) (by omega)).mono ?_; rintro e wA ⟨x, rfl, hx0, hx1, hrd, k⟩; have A2 := AA.out.drew.grown k hrd; have z0 := A2.blk.cell0; have z1 := A2.blk.cell1; have z2 := A2.blk.cell2; have i0 := A2.cell.cell0; have i1 := A2.cell.cell1; have i2 := A2.cell.cell2; have g0 := A2.cell.frozen 0; have g1 := A2.cell.frozen 1; have g2 := A2.cell.frozen 2; have hx1' := hx1 (by omega))
    all_goals
      have ts := A2.fin (.int .i64 b.1) (.bool b.2.1) (.bool b.2.2)
      have s0 := ts.1.cell0
      have s1 := ts.1.cell1
      have s2 := ts.1.cell2
      have E := Lib.hid ts.2
      clear ts
      go_wp2_with fail
      exact bodyPost_ret (v := .tuple #[bkV b, .int .i64 x]) (by simp [results, bkV, Try.results29, go_sem, s0, s1, s2]) rfl ⟨b, x, rfl, by omega, by omega, E.out⟩

end Go.Proofs.Ytedbfmmklmidjab
