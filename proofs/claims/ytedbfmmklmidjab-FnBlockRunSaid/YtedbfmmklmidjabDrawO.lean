/-
  A drawn block with a text. For codes of at most 1048576 bytes.
-/
import Derived.Test.YtedbfmmklmidjabDrawM
namespace Go.Proofs.Ytedbfmmklmidjab
open Go.RowKit Go.Sort

/-- A drawn block and a drawn text. -/
def DrawnBT (w : World) (e : Ending) (w' : World) : Prop := ∃ (b : Blk) (S : ByteArray), e = .returned (.tuple #[bkV b, .string S]) ∧ S.size ≤ 33 ∧ Below w.heap.size w w'

set_option maxHeartbeats 4000000 in
theorem drawRunB {w : World} {a : Option Addr} {len cap : Nat} {zs : List Int} (h : IsRowK .u8 w a len cap zs) (hl : len ≤ 1048576) :
    Calls Try.prog 27 #[.slice a len cap] w (DrawnBT w) := by
  have b0 := below_alloc w (.cells #[.int .i64 0, .bool false, .bool false] 25)
  have t0 := Tri3.new w (.int .i64 0) (.bool false) (.bool false) 25
  obtain ⟨W, hW⟩ : ∃ W, W = w.alloc (.cells #[.int .i64 0, .bool false, .bool false] 25) := ⟨_, rfl⟩
  rw [← hW] at b0 t0
  have HW := Lib.hid hW.symm
  have OP := Lib.hid (openRd (row_under h b0) hl)
  clear hW h
  go_enter Try.func27, Try.ntmps27
  go_upto_region 1 with fail
  rw [HW.out]
  go_wp2_with (go_at_call 49; refine OP.out.mono ?_)
  rintro e w1 ⟨g, rfl, hg, hr, b1⟩
  have DB := Lib.hid (drawBlk hr (by omega))
  have t1 := t0.below b1
  have hgt : w.heap.size < g := Nat.lt_of_lt_of_le t0.lt hg
  clear t0 OP hr
  go_wp2_with (go_at_call 50; refine DB.out.mono ?_)
  rintro e w2 ⟨b, q, rfl, hrd2, hq2, k2⟩
  have t2 := t1.of (k2.block _ t1.lt (by simp; omega))
  have B2 := (b0.trans (b1.mono b0.size)).grown k2 (Nat.le_trans b0.size b1.size) (fun b hb => by simp only [Option.some.injEq] at hb; omega)
  have A0 := At.new (b := b) t2 hrd2 hgt B2
  obtain ⟨W2, hW2⟩ : ∃ X, X = w2.alloc (.cells #[.int .i64 b.1, .bool b.2.1, .bool b.2.2] 25) := ⟨_, rfl⟩
  rw [← hW2] at A0
  have HW2 := Lib.hid hW2.symm
  clear hW2 t1 t2 k2 B2 b1 b0 DB hrd2
  unfold bkV
  go_upto_region 3 with fail
  rw [HW2.out]
  have l0 := A0.blk.cell0
  have l1 := A0.blk.cell1
  have l2 := A0.blk.cell2
  have j0 := A0.cell.cell0
  have j1 := A0.cell.cell1
  have j2 := A0.cell.cell2
  have f0 := A0.cell.frozen 0
  have f1 := A0.cell.frozen 1
  have f2 := A0.cell.frozen 2
  have AA := Lib.hid A0
  clear A0
  go_region_with (first
    | (go_at_call 51; refine (pick AA.out.drew.rd (by omega) (by omega) (by omega)).mono ?_; rintro e wA ⟨r, rfl, hr0, hr1, hrd, k⟩; have hr1' := hr1 (by omega); have A2 := AA.out.drew.grown k hrd; have z0 := A2.blk.cell0; have z1 := A2.blk.cell1; have z2 := A2.blk.cell2; have i0 := A2.cell.cell0; have i1 := A2.cell.cell1; have i2 := A2.cell.cell2; have g0 := A2.cell.frozen 0; have g1 := A2.cell.frozen 1; have g2 := A2.cell.frozen 2)
    | (go_at_call 56; refine (eventsG A2.rd (by omega) b r (by omega)).mono ?_; rintro e wB ⟨S, q4, rfl, hS, hrd4, hq4, k4⟩; have A3 := A2.grown k4 hrd4; have x0 := A3.blk.cell0; have x1 := A3.blk.cell1; have x2 := A3.blk.cell2; have y0 := A3.cell.cell0; have y1 := A3.cell.cell1; have y2 := A3.cell.cell2; have e0 := A3.cell.frozen 0; have e1 := A3.cell.frozen 1; have e2 := A3.cell.frozen 2))
  all_goals
    have ts := A3.fin (.int .i64 b.1) (.bool b.2.1) (.bool b.2.2)
    have s0 := ts.1.cell0
    have s1 := ts.1.cell1
    have s2 := ts.1.cell2
    have E := Lib.hid ts.2
    clear ts
    go_wp2_with fail
    exact bodyPost_ret (v := .tuple #[bkV b, .string S]) (by simp [results, bkV, Try.results27, go_sem, s0, s1, s2]) rfl ⟨b, S, rfl, hS, E.out⟩

end Go.Proofs.Ytedbfmmklmidjab
