/-
  Two drawn blocks, and a drawn block with a text. For codes of at most 1048576 bytes.
-/
import Derived.Test.YtedbfmmklmidjabDrawM
namespace Go.Proofs.Ytedbfmmklmidjab
open Go.RowKit Go.Sort

/-- Two drawn blocks. -/
def DrawnBB (w : World) (e : Ending) (w' : World) : Prop := ∃ b c : Blk, e = .returned (.tuple #[bkV b, bkV c]) ∧ Below w.heap.size w w'

set_option maxHeartbeats 4000000 in
theorem drawWayB {w : World} {a : Option Addr} {len cap : Nat} {zs : List Int} (h : IsRowK .u8 w a len cap zs) (hl : len ≤ 1048576) :
    Calls Try.prog 30 #[.slice a len cap] w (DrawnBB w) := by
  obtain ⟨W, hW⟩ : ∃ W, W = (w.alloc (.cells #[.int .i64 0, .bool false, .bool false] 25)).alloc (.cells #[.int .i64 0, .bool false, .bool false] 25) := ⟨_, rfl⟩
  obtain ⟨t0, u0, b0, -⟩ := two_tri w (.int .i64 0) (.bool false) (.bool false) 25 (.int .i64 0) (.bool false) (.bool false) 25 W hW
  have HW := Lib.hid hW.symm
  have OP := Lib.hid (openRd (row_under h b0) hl)
  clear hW h
  go_enter Try.func30, Try.ntmps30
  go_upto_region 1 with fail
  rw [HW.out]
  go_wp2_with (go_at_call 49; refine OP.out.mono ?_)
  rintro e w1 ⟨g, rfl, hg, hr, b1⟩
  have DB := Lib.hid (drawBlk hr (by omega))
  have t1 := t0.below b1
  have u1 := u0.below b1
  have hgt : w.heap.size + 1 < g := Nat.lt_of_lt_of_le u0.lt hg
  clear t0 u0 OP hr
  go_wp2_with (go_at_call 50; refine DB.out.mono ?_)
  rintro e w2 ⟨b, q, rfl, hrd2, hq2, k2⟩
  have t2 := t1.of (k2.block _ t1.lt (by simp; omega))
  have u2 := u1.of (k2.block _ u1.lt (by simp; omega))
  have B2 := (b0.trans (b1.mono b0.size)).grown k2 (Nat.le_trans b0.size b1.size) (fun b hb => by simp only [Option.some.injEq] at hb; omega)
  have A0 := At.new (b := b) t2 hrd2 (by omega) B2
  have u3 := u2.below (below_alloc w2 (.cells #[.int .i64 b.1, .bool b.2.1, .bool b.2.2] 25))
  obtain ⟨W2, hW2⟩ : ∃ X, X = w2.alloc (.cells #[.int .i64 b.1, .bool b.2.1, .bool b.2.2] 25) := ⟨_, rfl⟩
  rw [← hW2] at A0 u3
  have HW2 := Lib.hid hW2.symm
  clear hW2 t1 t2 u1 u2 k2 B2 b1 b0 DB hrd2
  unfold bkV
  go_upto_region 3 with fail
  rw [HW2.out]
  have hlo := A0.lo
  have hhi := A0.hi
  have l0 := A0.blk.cell0
  have l1 := A0.blk.cell1
  have l2 := A0.blk.cell2
  have j0 := A0.cell.cell0
  have j1 := A0.cell.cell1
  have j2 := A0.cell.cell2
  have f0 := A0.cell.frozen 0
  have f1 := A0.cell.frozen 1
  have f2 := A0.cell.frozen 2
  have AA := Lib.hid A0
  have UU := Lib.hid u3
  clear A0 u3
  go_region_with (go_at_call 50; refine (drawBlk AA.out.drew.rd (by omega)).mono ?_; rintro e wA ⟨c, q', rfl, hrd, -, k⟩; unfold bkV; have A2 := AA.out.drew.grown k hrd; have u4 := UU.out.of (k.block (w.heap.size + 1) UU.out.lt (by simp; omega)); have z0 := A2.blk.cell0; have z1 := A2.blk.cell1; have z2 := A2.blk.cell2; have i0 := A2.cell.cell0; have i1 := A2.cell.cell1; have i2 := A2.cell.cell2; have g0 := A2.cell.frozen 0; have g1 := A2.cell.frozen 1; have g2 := A2.cell.frozen 2; have x0 := u4.cell0; have x1 := u4.cell1; have x2 := u4.cell2; have y0 := u4.frozen 0; have y1 := u4.frozen 1; have y2 := u4.frozen 2)
  all_goals
    have ts := A2.fin (.int .i64 b.1) (.bool b.2.1) (.bool b.2.2)
    have us := ((u4.other (a := ⟨w.heap.size, 0, none⟩) (by simp) (.int .i64 b.1)).other (a := ⟨w.heap.size, 1, none⟩) (by simp) (.bool b.2.1)).other (a := ⟨w.heap.size, 2, none⟩) (by simp) (.bool b.2.2)
    have tt := ((ts.1.other (a := ⟨w.heap.size + 1, 0, none⟩) (by simp) (.int .i64 c.1)).other (a := ⟨w.heap.size + 1, 1, none⟩) (by simp) (.bool c.2.1)).other (a := ⟨w.heap.size + 1, 2, none⟩) (by simp) (.bool c.2.2)
    have uu := us.stored (.int .i64 c.1) (.bool c.2.1) (.bool c.2.2)
    have s0 := tt.cell0
    have s1 := tt.cell1
    have s2 := tt.cell2
    have s3 := uu.cell0
    have s4 := uu.cell1
    have s5 := uu.cell2
    have E := Lib.hid (stored_below ts.2 (show w.heap.size ≤ w.heap.size + 1 by omega) (.int .i64 c.1) (.bool c.2.1) (.bool c.2.2))
    clear ts us tt uu
    go_wp2_with fail
    exact bodyPost_ret (v := .tuple #[bkV b, bkV c]) (by simp [results, bkV, Try.results30, go_sem, s0, s1, s2, s3, s4, s5]) rfl ⟨b, c, rfl, E.out⟩

end Go.Proofs.Ytedbfmmklmidjab
