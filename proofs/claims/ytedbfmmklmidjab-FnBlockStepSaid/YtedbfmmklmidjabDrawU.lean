/-
  A drawn block with a letter. For codes of at most 1048576 bytes.
-/
import Derived.Test.YtedbfmmklmidjabDrawM
namespace Go.Proofs.Ytedbfmmklmidjab
open Go.RowKit Go.Sort

/-- A drawn block and a short drawn text. -/
def DrawnBL (w : World) (e : Ending) (w' : World) : Prop := ∃ (b : Blk) (S : ByteArray), e = .returned (.tuple #[bkV b, .string S]) ∧ S.size ≤ 2 ∧ Below w.heap.size w w'
def tenS : Array Value := #[.string ⟨#[111]⟩, .string ⟨#[114]⟩, .string ⟨#[97]⟩, .string ⟨#[99]⟩, .string ⟨#[101]⟩, .string ⟨#[108]⟩, .string ⟨#[102]⟩, .string ⟨#[120]⟩, .string ⟨#[]⟩, .string ⟨#[111, 97]⟩]
theorem ten_shorts (w : World) (t : TypeId) : Shorts (w.alloc (.cells tenS t)) (.slice (some ⟨w.heap.size, 0, none⟩) 10 10) 10 := by
  have hn : (w.alloc (.cells tenS t)).heap[w.heap.size]? = some (.cells tenS t (0, 0)) := Go.Deep.blk_alloc_new _ _
  refine ⟨w.heap.size, 10, rfl, (Array.getElem?_eq_some_iff.1 hn).1, fun i hi => ?_⟩
  match i, hi with
  | 0, _ => exact ⟨⟨#[111]⟩, by simp only [World.cell?, hn]; rfl, by decide⟩
  | 1, _ => exact ⟨⟨#[114]⟩, by simp only [World.cell?, hn]; rfl, by decide⟩
  | 2, _ => exact ⟨⟨#[97]⟩, by simp only [World.cell?, hn]; rfl, by decide⟩
  | 3, _ => exact ⟨⟨#[99]⟩, by simp only [World.cell?, hn]; rfl, by decide⟩
  | 4, _ => exact ⟨⟨#[101]⟩, by simp only [World.cell?, hn]; rfl, by decide⟩
  | 5, _ => exact ⟨⟨#[108]⟩, by simp only [World.cell?, hn]; rfl, by decide⟩
  | 6, _ => exact ⟨⟨#[102]⟩, by simp only [World.cell?, hn]; rfl, by decide⟩
  | 7, _ => exact ⟨⟨#[120]⟩, by simp only [World.cell?, hn]; rfl, by decide⟩
  | 8, _ => exact ⟨⟨#[]⟩, by simp only [World.cell?, hn]; rfl, by decide⟩
  | 9, _ => exact ⟨⟨#[111, 97]⟩, by simp only [World.cell?, hn]; rfl, by decide⟩

set_option maxRecDepth 100000 in
set_option maxHeartbeats 8000000 in
theorem drawStepB {w : World} {a : Option Addr} {len cap : Nat} {zs : List Int} (h : IsRowK .u8 w a len cap zs) (hl : len ≤ 1048576) :
    Calls Try.prog 18 #[.slice a len cap] w (DrawnBL w) := by
  have b0 := below_alloc w (.cells #[.int .i64 0, .bool false, .bool false] 25)
  have t0 := Tri3.new w (.int .i64 0) (.bool false) (.bool false) 25
  obtain ⟨W, hW⟩ : ∃ W, W = w.alloc (.cells #[.int .i64 0, .bool false, .bool false] 25) := ⟨_, rfl⟩
  rw [← hW] at b0 t0
  have HW := Lib.hid hW.symm
  have OP := Lib.hid (openRd (row_under h b0) hl)
  clear hW h
  go_enter Try.func18, Try.ntmps18
  go_upto_region 1 with fail
  rw [HW.out]
  go_wp2_with (go_at_call 49; refine OP.out.mono ?_)
  rintro e w1 ⟨g, rfl, hg, hr, b1⟩
  have DB := Lib.hid (drawBlk hr (by omega))
  have t1 := t0.below b1
  have hgt : w.heap.size < g := Nat.lt_of_lt_of_le t0.lt hg
  clear t0 OP hr
  go_wp2_with (go_at_call 50; refine DB.out.mono ?_)
  rintro e w2 ⟨b, q, rfl, hrd2, hq2, k2⟩
  have t2 := t1.of (k2.block _ t1.lt (by simp; omega))
  have B2 := (b0.trans (b1.mono b0.size)).grown k2 (Nat.le_trans b0.size b1.size) (fun b hb => by simp only [Option.some.injEq] at hb; omega)
  have A0 := At.new (b := b) t2 hrd2 hgt B2
  obtain ⟨W2, hW2⟩ : ∃ X, X = w2.alloc (.cells #[.int .i64 b.1, .bool b.2.1, .bool b.2.2] 25) := ⟨_, rfl⟩
  rw [← hW2] at A0
  have HW2 := Lib.hid hW2.symm
  clear hW2 t1 t2 k2 B2 b1 b0 DB hrd2
  unfold bkV
  go_upto_region 3 with fail
  rw [HW2.out]
  have l0 := A0.blk.cell0
  have l1 := A0.blk.cell1
  have l2 := A0.blk.cell2
  obtain ⟨N, hN⟩ : ∃ N, N = nxS b := ⟨_, rfl⟩
  have hNs : N.size ≤ 7 := by rw [hN]; exact nxB_size b 7
  have SN := Lib.hid (specNext b)
  rw [← hN] at SN
  have AA := Lib.hid A0
  clear A0 hN
  go_wp2_with (go_at_call 26; refine (SN.out _).mono ?_)
  rintro e w3 ⟨rfl, b3⟩
  have A3 := Lib.hid (AA.out.below b3)
  have EQ := empty_is N
  clear l0 l1 l2 b3 AA
  by_cases hz : N.size = 0
  · rw [decide_eq_true hz] at EQ
    have L0 := A3.out.drew.below (below_alloc _ (.cells tenS 9))
    have SH := Lib.hid (ten_shorts w3.drew 9)
    have Q0 := Lib.hid L0
    have l0 := A3.out.blk.cell0
    have l1 := A3.out.blk.cell1
    have l2 := A3.out.blk.cell2
    have j0 := A3.out.cell.cell0
    have j1 := A3.out.cell.cell1
    have j2 := A3.out.cell.cell2
    have f0 := A3.out.cell.frozen 0
    have f1 := A3.out.cell.frozen 1
    have f2 := A3.out.cell.frozen 2
    have lt1 := A3.out.blk.lt
    have lt2 := A3.out.cell.lt
    have lo := A3.out.lo
    have hi := A3.out.hi
    clear L0
    go_wp2_with fail
    go_region_with (go_at_call 52; refine (ofRd Q0.out.rd SH.out (by omega) (by omega) (by omega) (fun b' o k c e => by simp only [Value.slice.injEq, Option.some.injEq, Addr.mk.injEq] at e; have := e.1.1; have hd : w3.drew.heap.size = w3.heap.size := rfl; omega)).mono ?_; rintro e wA ⟨S, rfl, hS, hrd, k⟩; have A5 := Q0.out.grown k hrd; have z0 := A5.blk.cell0; have z1 := A5.blk.cell1; have z2 := A5.blk.cell2; have i0 := A5.cell.cell0; have i1 := A5.cell.cell1; have i2 := A5.cell.cell2; have g0 := A5.cell.frozen 0; have g1 := A5.cell.frozen 1; have g2 := A5.cell.frozen 2)
    all_goals
      have ts := A5.fin (.int .i64 b.1) (.bool b.2.1) (.bool b.2.2)
      have s0 := ts.1.cell0
      have s1 := ts.1.cell1
      have s2 := ts.1.cell2
      have E := Lib.hid ts.2
      clear ts
      go_wp2_with fail
      exact bodyPost_ret (v := .tuple #[bkV b, .string S]) (by simp [results, bkV, Try.results18, go_sem, s0, s1, s2]) rfl ⟨b, S, rfl, hS, E.out⟩
  · rw [decide_eq_false hz] at EQ
    go_wp2_with (go_at_call 51; refine (pick A3.out.rd (by omega) (by omega) (by omega)).mono ?_)
    rintro e w4 ⟨r, rfl, hr0, hr1, hrd4, k4⟩
    have A4 := Lib.hid (A3.out.grown k4 hrd4)
    clear hrd4 k4 hr1 A3
    by_cases h0 : 0 < r
    · have hd : decide (0 < r) = true := decide_eq_true h0
      go_wp2_with (go_at_call 51; refine (pick A4.out.rd (by omega) (by omega) (by omega)).mono ?_)
      rintro e w5 ⟨j, rfl, hj0, hj1, hrd5, k5⟩
      have hj1' := hj1 (by omega)
      obtain ⟨j, rfl⟩ : ∃ m : Nat, j = (m : Int) := ⟨j.toNat, by omega⟩
      have A5 := A4.out.grown k5 hrd5
      obtain ⟨Q, hQ⟩ : ∃ Q, Q = N.extract j (j + 1) := ⟨_, rfl⟩
      have hQs : Q.size ≤ 2 := by rw [hQ, ByteArray.size_extract]; omega
      have hsl : ∀ w, (Instr.slice 9 (.string N) (some (.int .i64 j)) (some (.int .i64 ((j : Int) + 1))) none).run Try.prog w = .ok (.string Q) w := by
        intro w
        rw [run_slice_string _ _ _ _ _ _ _ Try.underlying9 (by omega) (by omega) (by omega), hQ]
        rfl
      have hw1 : IntKind.i64.wrap ((j : Int) + 1) = (j : Int) + 1 := IntWalk.i64_in _ (by omega)
      have hw2 : wrap64 ((j : Int) + 1) = (j : Int) + 1 := (IntWalk.i64_left _).symm.trans hw1
      have z0 := A5.drew.blk.cell0
      have z1 := A5.drew.blk.cell1
      have z2 := A5.drew.blk.cell2
      have i0 := A5.drew.cell.cell0
      have i1 := A5.drew.cell.cell1
      have i2 := A5.drew.cell.cell2
      have g0 := A5.drew.cell.frozen 0
      have g1 := A5.drew.cell.frozen 1
      have g2 := A5.drew.cell.frozen 2
      have y0 := A5.blk.cell0
      have y1 := A5.blk.cell1
      have y2 := A5.blk.cell2
      have x0 := A5.cell.cell0
      have x1 := A5.cell.cell1
      have x2 := A5.cell.cell2
      have e0 := A5.cell.frozen 0
      have e1 := A5.cell.frozen 1
      have e2 := A5.cell.frozen 2
      have ts := A5.drew.fin (.int .i64 b.1) (.bool b.2.1) (.bool b.2.2)
      have tt := A5.fin (.int .i64 b.1) (.bool b.2.1) (.bool b.2.2)
      have s0 := tt.1.cell0
      have s1 := tt.1.cell1
      have s2 := tt.1.cell2
      have E := Lib.hid ts.2
      clear ts tt A5 k5 hrd5 hj1 A4 hQ
      go_wp2_with fail
      go_region
      all_goals
        go_wp2_with fail
        exact bodyPost_ret (v := .tuple #[bkV b, .string Q]) (by simp [results, bkV, Try.results18, go_sem, s0, s1, s2]) rfl ⟨b, Q, rfl, hQs, E.out⟩
    · have hd : decide (0 < r) = false := decide_eq_false h0
      have L0 := A4.out.drew.below (below_alloc _ (.cells tenS 9))
      have SH := Lib.hid (ten_shorts w4.drew 9)
      have Q0 := Lib.hid L0
      have l0 := A4.out.blk.cell0
      have l1 := A4.out.blk.cell1
      have l2 := A4.out.blk.cell2
      have j0 := A4.out.cell.cell0
      have j1 := A4.out.cell.cell1
      have j2 := A4.out.cell.cell2
      have f0 := A4.out.cell.frozen 0
      have f1 := A4.out.cell.frozen 1
      have f2 := A4.out.cell.frozen 2
      have lt1 := A4.out.blk.lt
      have lt2 := A4.out.cell.lt
      have lo := A4.out.lo
      have hi := A4.out.hi
      clear L0
      go_wp2_with fail
      go_region_with (go_at_call 52; refine (ofRd Q0.out.rd SH.out (by omega) (by omega) (by omega) (fun b' o k c e => by simp only [Value.slice.injEq, Option.some.injEq, Addr.mk.injEq] at e; have := e.1.1; have hd : w4.drew.heap.size = w4.heap.size := rfl; omega)).mono ?_; rintro e wA ⟨S, rfl, hS, hrd, k⟩; have A5 := Q0.out.grown k hrd; have z0 := A5.blk.cell0; have z1 := A5.blk.cell1; have z2 := A5.blk.cell2; have i0 := A5.cell.cell0; have i1 := A5.cell.cell1; have i2 := A5.cell.cell2; have g0 := A5.cell.frozen 0; have g1 := A5.cell.frozen 1; have g2 := A5.cell.frozen 2)
      all_goals
        have ts := A5.fin (.int .i64 b.1) (.bool b.2.1) (.bool b.2.2)
        have s0 := ts.1.cell0
        have s1 := ts.1.cell1
        have s2 := ts.1.cell2
        have E := Lib.hid ts.2
        clear ts
        go_wp2_with fail
        exact bodyPost_ret (v := .tuple #[bkV b, .string S]) (by simp [results, bkV, Try.results18, go_sem, s0, s1, s2]) rfl ⟨b, S, rfl, hS, E.out⟩

end Go.Proofs.Ytedbfmmklmidjab
