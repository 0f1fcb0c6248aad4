/-
  A drawn state of tokens with a drawn text of events. For codes of at most 1048576 bytes.
-/
import Derived.Test.YthjodagbgmpbhaaDrawTk
import Derived.Test.YthjodagbgmpbhaaTokC
namespace Go.Proofs.Ythjodagbgmpbhaa
open Go.RowKit Go.Sort

def DrawnTextG (w : World) (g P m : Nat) (e : Ending) (w' : World) : Prop :=
  ∃ (S : ByteArray) (q : Nat), e = .returned (.string S) ∧ S.size ≤ m ∧ Rdr w' g q ∧ q ≤ P ∧ w.grownBy w' (some g)
theorem ggt {w0 w w' : World} {g B : Nat} (h : w0.grownBy w (some g)) (k : Below B w w') (hB : w0.heap.size ≤ B) : w0.grownBy w' (some g) :=
  ⟨k.os.trans h.os, k.tape.trans h.tape, k.output.trans h.output, Nat.le_trans h.size k.size, fun i hi hne => (k.block i (by omega)).trans (h.block i hi hne)⟩

set_option maxHeartbeats 8000000 in
theorem tkEvents {w : World} {g p : Nat} (h : Rdr w g p) (hp : p ≤ 500) (b : Tk) :
    Calls Try.prog 23 #[.pointer (some ⟨g, 0, none⟩), .agg #[.int .i64 b.1, .int .i64 b.2.1, .int .i64 b.2.2]] w (DrawnTextG w g (p + 40) 33) := by
  have hgw := h.lt
  obtain ⟨W, hW⟩ : ∃ W, W = w.alloc (.cells #[.int .i64 b.1, .int .i64 b.2.1, .int .i64 b.2.2] 24) := ⟨_, rfl⟩
  have t1 := Tri3.new w (.int .i64 b.1) (.int .i64 b.2.1) (.int .i64 b.2.2) 24
  have b1 := below_alloc w (.cells #[.int .i64 b.1, .int .i64 b.2.1, .int .i64 b.2.2] 24)
  rw [← hW] at t1 b1
  have HW := Lib.hid hW
  have HT := Lib.hid t1
  have HB := Lib.hid (show w.grownBy W (some g) by rw [hW]; exact World.grownBy_alloc _ _ _)
  have HR := Lib.hid (h.below b1 hgw)
  have hs0 : w.heap.size < W.heap.size := t1.lt
  clear hW t1 b1 h
  go_enter Try.func23, Try.ntmps23
  go_upto_region 2 with fail
  rw [← HW.out]
  go_wp2_with (go_at_call 25; refine (pick HR.out (by omega) (by omega) (by omega)).mono ?_)
  rintro e w1 ⟨n, rfl, hn0, hn1, hr, g1⟩
  have hn12 : n ≤ 12 := by have := hn1 (by omega); omega
  have R1 := Lib.hid hr
  have T1 := Lib.hid (HT.out.of (g1.block w.heap.size (by omega) (by simp; omega)))
  have B1 := Lib.hid (grown_trans HB.out g1)
  clear hr hn1 g1
  go_wp2_with fail
  go_loopw [5, 7] (fun s i wr => ∃ (k q : Nat) (S : ByteArray) (x : Tk), (k : Int) ≤ 12 ∧ i = .int .i64 k ∧ s = .string S ∧ S.size ≤ 2 * k ∧ q ≤ p + 1 + k ∧ Rdr wr g q ∧ Tri3 wr w.heap.size (.int .i64 x.1) (.int .i64 x.2.1) (.int .i64 x.2.2) 24 ∧ w.grownBy wr (some g)) (fun _ i _ => 13 - (intOf i).toNat)
  case atStart => exact ⟨0, p + 1, ⟨#[]⟩, b, by omega, rfl, rfl, Nat.le_refl _, by omega, R1.out, T1.out, B1.out⟩
  case round =>
    obtain ⟨k, q, S, x, hk, rfl, rfl, hS, hq, hr, t1, hbel⟩ := hrel
    have hgr := hr.lt
    have hsz : w.heap.size < wr.heap.size := t1.lt
    have R1 := Lib.hid hr
    have T1 := Lib.hid t1
    have RB := Lib.hid hbel
    clear hr t1 hbel
    by_cases hlt : (k : Int) < n
    · have sh := lit_shorts5 wr ⟨#[97]⟩ ⟨#[98]⟩ ⟨#[112]⟩ ⟨#[113]⟩ ⟨#[112]⟩ 9 (by decide) (by decide) (by decide) (by decide) (by decide)
      have q3 := below_alloc wr (.cells #[.string ⟨#[97]⟩, .string ⟨#[98]⟩, .string ⟨#[112]⟩, .string ⟨#[113]⟩, .string ⟨#[112]⟩] 9)
      obtain ⟨W3, hW3⟩ : ∃ X, X = wr.alloc (.cells #[.string ⟨#[97]⟩, .string ⟨#[98]⟩, .string ⟨#[112]⟩, .string ⟨#[113]⟩, .string ⟨#[112]⟩] 9) := ⟨_, rfl⟩
      rw [← hW3] at sh q3
      have HW3 := Lib.hid hW3
      have R4 := Lib.hid (R1.out.below q3 hgr)
      have T4 := Lib.hid (T1.out.below q3)
      have SH := Lib.hid sh
      have B4 := Lib.hid (ggt RB.out q3 (by omega))
      have s3 : wr.heap.size ≤ W3.heap.size := q3.size
      clear hW3 sh q3
      go_wp2_with (rw [← HW3.out]; go_at_call 20; refine (ofRd R4.out SH.out (by omega) (by omega) (by omega) (lit_apart hgr)).mono ?_)
      rintro e w4 ⟨s, rfl, hs, hr, g4⟩
      have R5 := Lib.hid hr
      have T5 := Lib.hid (T4.out.of (g4.block w.heap.size (by omega) (by simp; omega)))
      have B5 := Lib.hid (grown_trans B4.out g4)
      have hs4 : W3.heap.size ≤ w4.heap.size := g4.size
      have hadd : ¬ 9223372036854775807 < S.size + s.size := by omega
      have hsq : (S ++ s).size ≤ 2 * (k + 1) := by rw [ByteArray.size_append]; omega
      have SR := specTokenStepE x s
      obtain ⟨y, hy⟩ : ∃ y, y = (tkOne x s).getD nt := ⟨_, rfl⟩
      obtain ⟨t, ht⟩ : ∃ t, t = (tkOne x s).isSome := ⟨_, rfl⟩
      rw [← hy, ← ht] at SR
      have SR := Lib.hid SR
      have l0 := T5.out.cell0
      have l1 := T5.out.cell1
      have l2 := T5.out.cell2
      have hg4 : g < w4.heap.size := hr.lt
      clear hr g4 hy ht
      go_wp2_with (go_at_call 8; refine (SR.out _).mono ?_)
      rintro e w5 ⟨rfl, b5⟩
      have q5 := below_alloc w5 (.cells #[.int .i64 y.1, .int .i64 y.2.1, .int .i64 y.2.2] 24)
      have v5 := Tri3.new w5 (.int .i64 y.1) (.int .i64 y.2.1) (.int .i64 y.2.2) 24
      have t5 := (T5.out.below b5).below q5
      obtain ⟨W5, hW5⟩ : ∃ X, X = w5.alloc (.cells #[.int .i64 y.1, .int .i64 y.2.1, .int .i64 y.2.2] 24) := ⟨_, rfl⟩
      rw [← hW5] at q5 v5 t5
      have HW5 := Lib.hid hW5.symm
      have R6 := Lib.hid (R5.out.below (chain b5 q5) hg4)
      have B6 := Lib.hid (ggt B5.out (chain b5 q5) (by omega))
      clear hW5 q5 b5 l0 l1 l2
      go_upto_region 8 with fail
      rw [HW5.out]
      cases t
      · have T6 := Lib.hid t5
        clear t5 v5
        go_wp2_with fail
        go_roundw
        case rel => exact ⟨k + 1, q + 1, S, x, by omega, by go_num, rfl, by omega, by omega, R6.out, T6.out, B6.out⟩
        case measure => simp [intOf]; omega
      · have l0 := v5.cell0
        have l1 := v5.cell1
        have l2 := v5.cell2
        have c0 := t5.cell0
        have c1 := t5.cell1
        have c2 := t5.cell2
        have f0 := t5.frozen 0
        have f1 := t5.frozen 1
        have f2 := t5.frozen 2
        have T6 := Lib.hid (t5.stored (.int .i64 y.1) (.int .i64 y.2.1) (.int .i64 y.2.2))
        have R7 := Lib.hid (R6.out.below (stored_below (Below.refl w.heap.size _) (Nat.le_refl _) (.int .i64 y.1) (.int .i64 y.2.1) (.int .i64 y.2.2)) hgw)
        have B7 := Lib.hid (ggt B6.out (stored_below (Below.refl w.heap.size _) (Nat.le_refl _) (.int .i64 y.1) (.int .i64 y.2.1) (.int .i64 y.2.2)) (Nat.le_refl _))
        clear t5 v5
        go_wp2_with fail
        go_roundw
        case rel => exact ⟨k + 1, q + 1, S ++ s, y, by omega, by go_num, rfl, hsq, by omega, R7.out, T6.out, B7.out⟩
        case measure => simp [intOf]; omega
    · go_wp2_with (go_at_call 25; refine (pick R1.out (by omega) (by omega) (by omega)).mono ?_)
      rintro e w2 ⟨r, rfl, hr0, hr1, hr, g2⟩
      have B3 := Lib.hid (grown_trans RB.out g2)
      have R3 := Lib.hid hr
      have hs2 : wr.heap.size ≤ w2.heap.size := g2.size
      have hg2 : g < w2.heap.size := hr.lt
      clear hr g2 hr1
      by_cases h0 : r = 0
      · subst h0
        have sh := lit_shorts3 w2 ⟨#[120]⟩ ⟨#[112, 112]⟩ ⟨#[97, 98]⟩ 9 (by decide) (by decide) (by decide)
        have q3 := below_alloc w2 (.cells #[.string ⟨#[120]⟩, .string ⟨#[112, 112]⟩, .string ⟨#[97, 98]⟩] 9)
        obtain ⟨W3, hW3⟩ : ∃ X, X = w2.alloc (.cells #[.string ⟨#[120]⟩, .string ⟨#[112, 112]⟩, .string ⟨#[97, 98]⟩] 9) := ⟨_, rfl⟩
        rw [← hW3] at sh q3
        have HW3 := Lib.hid hW3
        have R4 := Lib.hid (R3.out.below q3 (by omega))
        have SH := Lib.hid sh
        have B4 := Lib.hid (ggt B3.out q3 (by omega))
        clear hW3 sh q3
        go_wp2_with (rw [← HW3.out]; go_at_call 20; refine (ofRd R4.out SH.out (by omega) (by omega) (by omega) (lit_apart hg2)).mono ?_)
        rintro e w4 ⟨s, rfl, hs, hr, g4⟩
        have B5 := Lib.hid (grown_trans B4.out g4)
        have hadd : ¬ 9223372036854775807 < S.size + s.size := by omega
        have hsq : (S ++ s).size ≤ 33 := by rw [ByteArray.size_append]; omega
        clear g4
        go_wp2_with fail
        go_ret
        exact ⟨S ++ s, q + 1 + 1, rfl, hsq, hr, by omega, B5.out⟩
      · have t0 : (r == 0) = false := by simpa using h0
        go_wp2_with fail
        go_ret
        exact ⟨S, q + 1, rfl, by omega, R3.out, by omega, B3.out⟩

/-- The state in which a drawing stands that has drawn its tokens: the result's cell, the reader, the tokens. -/
structure AtT (w : World) (g q n : Nat) (b : Tk) (W : World) : Prop where
  cell : Tri3 W w.heap.size (.int .i64 0) (.int .i64 0) (.int .i64 0) 24
  blk : Tri3 W n (.int .i64 b.1) (.int .i64 b.2.1) (.int .i64 b.2.2) 24
  rd : Rdr W g q
  lo : w.heap.size < g
  hi : g < n
  bel : Below w.heap.size w W
theorem AtT.drew {w W : World} {g q n : Nat} {b : Tk} (h : AtT w g q n b W) : AtT w g q n b W.drew := ⟨h.cell, h.blk, h.rd, h.lo, h.hi, h.bel.drew⟩
theorem AtT.grown {w W X : World} {g q q' n : Nat} {b : Tk} (h : AtT w g q n b W) (hg : W.grownBy X (some g)) (hr : Rdr X g q') : AtT w g q' n b X :=
  ⟨h.cell.of (hg.block _ h.cell.lt (by have := h.lo; simp; omega)), h.blk.of (hg.block _ h.blk.lt (by have := h.hi; simp; omega)), hr, h.lo, h.hi, h.bel.grown hg h.bel.size (fun c hc => by have := h.lo; simp only [Option.some.injEq] at hc; omega)⟩
theorem AtT.new {w W : World} {g q : Nat} {b : Tk} (hc : Tri3 W w.heap.size (.int .i64 0) (.int .i64 0) (.int .i64 0) 24) (hr : Rdr W g q) (hl : w.heap.size < g) (hb : Below w.heap.size w W) : AtT w g q W.heap.size b (W.alloc (.cells #[.int .i64 b.1, .int .i64 b.2.1, .int .i64 b.2.2] 24)) :=
  have e := below_alloc W (.cells #[.int .i64 b.1, .int .i64 b.2.1, .int .i64 b.2.2] 24)
  ⟨hc.below e, Tri3.new _ _ _ _ _, hr.below e hr.lt, hl, hr.lt, hb.trans (e.mono hb.size)⟩
/-- What is behind the last store. -/
theorem AtT.fin {w W : World} {g q n : Nat} {b : Tk} (h : AtT w g q n b W) (x y z : Value) : Tri3 (((W.setCell ⟨w.heap.size, 0, none⟩ x).setCell ⟨w.heap.size, 1, none⟩ y).setCell ⟨w.heap.size, 2, none⟩ z) w.heap.size x y z 24 ∧ Below w.heap.size w (((W.setCell ⟨w.heap.size, 0, none⟩ x).setCell ⟨w.heap.size, 1, none⟩ y).setCell ⟨w.heap.size, 2, none⟩ z) :=
  ⟨h.cell.stored x y z, stored_below h.bel (Nat.le_refl _) x y z⟩

set_option maxHeartbeats 4000000 in
theorem drawTokenRun {w : World} {a : Option Addr} {len cap : Nat} {zs : List Int} (h : IsRowK .u8 w a len cap zs) (hl : len ≤ 1048576) :
    Calls Try.prog 11 #[.slice a len cap] w (DrawnTokS w 33) := by
  have b0 := below_alloc w (.cells #[.int .i64 0, .int .i64 0, .int .i64 0] 24)
  have t0 := Tri3.new w (.int .i64 0) (.int .i64 0) (.int .i64 0) 24
  obtain ⟨W, hW⟩ : ∃ W, W = w.alloc (.cells #[.int .i64 0, .int .i64 0, .int .i64 0] 24) := ⟨_, rfl⟩
  rw [← hW] at b0 t0
  have HW := Lib.hid hW.symm
  have OP := Lib.hid (openRd (row_under' h b0) hl)
  clear hW h
  go_enter Try.func11, Try.ntmps11
  go_upto_region 1 with fail
  rw [HW.out]
  go_wp2_with (go_at_call 18; refine OP.out.mono ?_)
  rintro e w1 ⟨g, rfl, hg, hr, b1⟩
  have hgt : w.heap.size < g := Nat.lt_of_lt_of_le t0.lt hg
  have DB := Lib.hid (drawTok hr (by omega) hg)
  have t1 := t0.below b1
  clear OP hr
  go_wp2_with (go_at_call 19; refine DB.out.mono ?_)
  rintro e w2 ⟨b, q, rfl, hF, hrd2, hq2, b2⟩
  have t2 := t1.of (b2.block _ t0.lt)
  have B2 := b0.trans ((b1.trans b2).mono b0.size)
  have A0 := AtT.new (b := b) t2 hrd2 hgt B2
  obtain ⟨W2, hW2⟩ : ∃ X, X = w2.alloc (.cells #[.int .i64 b.1, .int .i64 b.2.1, .int .i64 b.2.2] 24) := ⟨_, rfl⟩
  rw [← hW2] at A0
  have HW2 := Lib.hid hW2.symm
  clear hW2 t1 t2 b2 B2 b1 b0 DB hrd2 t0
  go_upto_region 3 with fail
  rw [HW2.out]
  have l0 := A0.blk.cell0
  have l1 := A0.blk.cell1
  have l2 := A0.blk.cell2
  have j0 := A0.cell.cell0
  have j1 := A0.cell.cell1
  have j2 := A0.cell.cell2
  have f0 := A0.cell.frozen 0
  have f1 := A0.cell.frozen 1
  have f2 := A0.cell.frozen 2
  have AA := Lib.hid A0
  clear A0
  go_region_with (go_at_call 23; refine (tkEvents AA.out.drew.rd (by omega) b).mono ?_; rintro e wB ⟨S, q4, rfl, hS, hrd4, hq4, k4⟩; have A3 := AA.out.drew.grown k4 hrd4; have x0 := A3.blk.cell0; have x1 := A3.blk.cell1; have x2 := A3.blk.cell2; have y0 := A3.cell.cell0; have y1 := A3.cell.cell1; have y2 := A3.cell.cell2; have e0 := A3.cell.frozen 0; have e1 := A3.cell.frozen 1; have e2 := A3.cell.frozen 2)
  all_goals
    have ts := A3.fin (.int .i64 b.1) (.int .i64 b.2.1) (.int .i64 b.2.2)
    have s0 := ts.1.cell0
    have s1 := ts.1.cell1
    have s2 := ts.1.cell2
    have E := Lib.hid ts.2
    clear ts
    go_wp2_with fail
    exact bodyPost_ret (v := .tuple #[.agg #[.int .i64 b.1, .int .i64 b.2.1, .int .i64 b.2.2], .string S]) (by simp [results, Try.results11, go_sem, s0, s1, s2]) rfl ⟨b, S, rfl, hF, hS, E.out⟩

end Go.Proofs.Ythjodagbgmpbhaa
