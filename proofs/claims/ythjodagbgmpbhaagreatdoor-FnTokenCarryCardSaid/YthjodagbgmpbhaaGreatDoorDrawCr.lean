/-
  A drawn state of tokens with drawn directions. For codes of at most 1048576 bytes.
-/
import Derived.Test.YthjodagbgmpbhaaGreatDoorDrawTr
namespace Go.Proofs.YthjodagbgmpbhaaGreatDoor
open Go.RowKit Go.Sort

set_option maxHeartbeats 2000000 in
theorem drawDirsG {w : World} {g p : Nat} (h : Rdr w g p) (hp : p ≤ 500) (most : Nat) (hm : most ≤ 40) :
    Calls Tryz.prog 26 #[.pointer (some ⟨g, 0, none⟩), .int .i64 most] w (DrawnTextG w g (p + 50) 100) := by
  have hgw := h.lt
  have hmi : (most : Int) ≤ 40 := by omega
  go_enter Tryz.func26, Tryz.ntmps26
  go_wp2_with (go_at_call 36; refine (pick h (by omega) (by omega) (by omega)).mono ?_)
  rintro e w1 ⟨n, rfl, hn0, hn1, hr, g1⟩
  have hn1' := hn1 (by omega)
  have hn40 : n ≤ 40 := by omega
  have B1 := Lib.hid g1
  have R1 := Lib.hid hr
  have hs1 : w.heap.size ≤ w1.heap.size := g1.size
  clear hr hn1 g1 h
  go_wp2_with fail
  go_loopw [5, 7] (fun s i wr => ∃ (k q : Nat) (S : ByteArray), (k : Int) ≤ 40 ∧ i = .int .i64 k ∧ s = .string S ∧ S.size ≤ 2 * k ∧ q ≤ p + 1 + k ∧ Rdr wr g q ∧ w.grownBy wr (some g) ∧ w.heap.size ≤ wr.heap.size) (fun _ i _ => 41 - (intOf i).toNat)
  case atStart => exact ⟨0, p + 1, ⟨#[]⟩, by omega, rfl, rfl, Nat.le_refl _, by omega, R1.out, B1.out, hs1⟩
  case round =>
    obtain ⟨k, q, S, hk, rfl, rfl, hS, hq, hr, hbel, hsz⟩ := hrel
    have hgr := hr.lt
    have R2 := Lib.hid hr
    have BB := Lib.hid hbel
    clear hr hbel
    by_cases hlt : (k : Int) < n
    · have sh := lit_shorts2 wr ⟨#[85]⟩ ⟨#[68]⟩ 9 (by decide) (by decide)
      have q3 := below_alloc wr (.cells #[.string ⟨#[85]⟩, .string ⟨#[68]⟩] 9)
      obtain ⟨W3, hW3⟩ : ∃ X, X = wr.alloc (.cells #[.string ⟨#[85]⟩, .string ⟨#[68]⟩] 9) := ⟨_, rfl⟩
      rw [← hW3] at sh q3
      have HW3 := Lib.hid hW3
      have R4 := Lib.hid (R2.out.below q3 hgr)
      have SH := Lib.hid sh
      have B4 := Lib.hid (ggt BB.out q3 (by omega))
      have s3 : wr.heap.size ≤ W3.heap.size := q3.size
      clear hW3 sh q3
      go_wp2_with (rw [← HW3.out]; go_at_call 41; refine (ofRd R4.out SH.out (by omega) (by omega) (by omega) (lit_apart hgr)).mono ?_)
      rintro e w4 ⟨s, rfl, hs, hr, g4⟩
      have B5 := Lib.hid (grown_trans B4.out g4)
      have R5 := Lib.hid hr
      have hadd : ¬ 9223372036854775807 < S.size + s.size := by omega
      have hsq : (S ++ s).size ≤ 2 * (k + 1) := by rw [ByteArray.size_append]; omega
      have hs5 : w.heap.size ≤ w4.heap.size := Nat.le_trans (Nat.le_trans hsz s3) g4.size
      clear g4 hr
      go_wp2_with fail
      go_roundw
      case rel => exact ⟨k + 1, q + 1, S ++ s, by omega, by go_num, rfl, hsq, by omega, R5.out, B5.out, hs5⟩
      case measure => simp [intOf]; omega
    · go_wp2_with (go_at_call 36; refine (pick R2.out (by omega) (by omega) (by omega)).mono ?_)
      rintro e w2 ⟨r, rfl, hr0, hr1, hr, g2⟩
      have B3 := Lib.hid (grown_trans BB.out g2)
      have R3 := Lib.hid hr
      have hs2 : w.heap.size ≤ w2.heap.size := Nat.le_trans hsz g2.size
      have hg2 : g < w2.heap.size := hr.lt
      clear hr g2 hr1
      by_cases h0 : r = 0
      · subst h0
        have sh := lit_shorts3 w2 ⟨#[120]⟩ ⟨#[117]⟩ ⟨#[32]⟩ 9 (by decide) (by decide) (by decide)
        have q3 := below_alloc w2 (.cells #[.string ⟨#[120]⟩, .string ⟨#[117]⟩, .string ⟨#[32]⟩] 9)
        obtain ⟨W3, hW3⟩ : ∃ X, X = w2.alloc (.cells #[.string ⟨#[120]⟩, .string ⟨#[117]⟩, .string ⟨#[32]⟩] 9) := ⟨_, rfl⟩
        rw [← hW3] at sh q3
        have HW3 := Lib.hid hW3
        have R4 := Lib.hid (R3.out.below q3 hg2)
        have SH := Lib.hid sh
        have B4 := Lib.hid (ggt B3.out q3 (by omega))
        clear hW3 sh q3
        go_wp2_with (rw [← HW3.out]; go_at_call 41; refine (ofRd R4.out SH.out (by omega) (by omega) (by omega) (lit_apart hg2)).mono ?_)
        rintro e w4 ⟨s, rfl, hs, hr, g4⟩
        have B5 := Lib.hid (grown_trans B4.out g4)
        have hadd : ¬ 9223372036854775807 < S.size + s.size := by omega
        have hsq : (S ++ s).size ≤ 100 := by rw [ByteArray.size_append]; omega
        clear g4
        go_wp2_with fail
        go_ret
        exact ⟨S ++ s, q + 1 + 1, rfl, hsq, hr, by omega, B5.out⟩
      · have t0 : (r == 0) = false := by simpa using h0
        go_wp2_with fail
        go_ret
        exact ⟨S, q + 1, rfl, by omega, R3.out, by omega, B3.out⟩

theorem Tri3.set2 {w : World} {b : Nat} {x y z : Value} {t : TypeId} (h : Tri3 w b x y z t) (v : Value) : Tri3 (w.setCell ⟨b, 2, none⟩ v) b x y v t := by
  unfold Tri3 at h ⊢
  simp [World.setCell, Array.getElem?_modify, h]

theorem AtT.set2 {w W : World} {g q n : Nat} {b : Tk} (h : AtT w g q n b W) : AtT w g q n (b.1, b.2.1, 0) (W.setCell ⟨n, 2, none⟩ (.int .i64 0)) :=
  have hlo := h.lo
  have hhi := h.hi
  ⟨h.cell.other (a := ⟨n, 2, none⟩) (by simp only; omega) _, h.blk.set2 _, h.rd.below ((Below.refl n W).setCell (p := ⟨n, 2, none⟩) (Nat.le_refl _) _) hhi, hlo, hhi, h.bel.setCell (p := ⟨n, 2, none⟩) (by simp only; omega) _⟩

set_option maxHeartbeats 4000000 in
theorem drawTokenCarry {w : World} {a : Option Addr} {len cap : Nat} {zs : List Int} (h : IsRowK .u8 w a len cap zs) (hl : len ≤ 1048576) :
    Calls Tryz.prog 17 #[.slice a len cap] w (DrawnTokS w 100) := by
  have b0 := below_alloc w (.cells #[.int .i64 0, .int .i64 0, .int .i64 0] 29)
  have t0 := Tri3.new w (.int .i64 0) (.int .i64 0) (.int .i64 0) 29
  obtain ⟨W, hW⟩ : ∃ W, W = w.alloc (.cells #[.int .i64 0, .int .i64 0, .int .i64 0] 29) := ⟨_, rfl⟩
  rw [← hW] at b0 t0
  have HW := Lib.hid hW.symm
  have OP := Lib.hid (openRd (row_under' h b0) hl)
  clear hW h
  go_enter Tryz.func17, Tryz.ntmps17
  go_upto_region 1 with fail
  rw [HW.out]
  go_wp2_with (go_at_call 27; refine OP.out.mono ?_)
  rintro e w1 ⟨g, rfl, hg, hr, b1⟩
  have hgt : w.heap.size < g := Nat.lt_of_lt_of_le t0.lt hg
  have DB := Lib.hid (drawTok hr (by omega) hg)
  have t1 := t0.below b1
  clear OP hr
  go_wp2_with (go_at_call 35; refine DB.out.mono ?_)
  rintro e w2 ⟨b, q, rfl, hF, hrd2, hq2, b2⟩
  have t2 := t1.of (b2.block _ t0.lt)
  have B2 := b0.trans ((b1.trans b2).mono b0.size)
  have A0 := AtT.new (b := b) t2 hrd2 hgt B2
  obtain ⟨W2, hW2⟩ : ∃ X, X = w2.alloc (.cells #[.int .i64 b.1, .int .i64 b.2.1, .int .i64 b.2.2] 29) := ⟨_, rfl⟩
  rw [← hW2] at A0
  have HW2 := Lib.hid hW2.symm
  clear hW2 t1 t2 b2 B2 b1 b0 DB hrd2 t0
  go_upto_region 3 with fail
  rw [HW2.out]
  have AA := Lib.hid A0
  clear A0
  go_wp2_with (go_at_call 36; refine (pick AA.out.rd (by omega) (by omega) (by omega)).mono ?_)
  rintro e w3 ⟨r, rfl, hr0, hr1, hr, g3⟩
  have A1 := AA.out.grown g3 hr
  clear hr g3 hr1 AA
  by_cases h0 : 0 < r
  · have l2 := A1.blk.cell2
    have f2 := A1.blk.frozen 2
    have A2 := A1.set2
    have hF2 : tkFits (b.1, b.2.1, 0) := by unfold tkFits at hF ⊢; simp only; omega
    clear A1
    go_upto_region 5 with fail
    obtain ⟨W3, hW3⟩ : ∃ X, X = w3.setCell ⟨w2.heap.size, 2, none⟩ (.int .i64 0) := ⟨_, rfl⟩
    rw [← hW3] at A2 ⊢
    clear hW3 l2 f2
    have l0 := A2.blk.cell0
    have l1 := A2.blk.cell1
    have l2 := A2.blk.cell2
    have j0 := A2.cell.cell0
    have j1 := A2.cell.cell1
    have j2 := A2.cell.cell2
    have f0 := A2.cell.frozen 0
    have f1 := A2.cell.frozen 1
    have f2 := A2.cell.frozen 2
    have AA := Lib.hid A2
    clear A2
    go_region_with (go_at_call 26; refine (drawDirsG AA.out.drew.rd (by omega) 8 (by omega)).mono ?_; rintro e wB ⟨S, q4, rfl, hS, hrd4, hq4, k4⟩; have A3 := AA.out.drew.grown k4 hrd4; have x0 := A3.blk.cell0; have x1 := A3.blk.cell1; have x2 := A3.blk.cell2; have y0 := A3.cell.cell0; have y1 := A3.cell.cell1; have y2 := A3.cell.cell2; have e0 := A3.cell.frozen 0; have e1 := A3.cell.frozen 1; have e2 := A3.cell.frozen 2)
    all_goals
      have ts := A3.fin (.int .i64 b.1) (.int .i64 b.2.1) (.int .i64 0)
      have s0 := ts.1.cell0
      have s1 := ts.1.cell1
      have s2 := ts.1.cell2
      have E := Lib.hid ts.2
      clear ts
      go_wp2_with fail
      exact bodyPost_ret (v := .tuple #[.agg #[.int .i64 b.1, .int .i64 b.2.1, .int .i64 0], .string S]) (by simp [results, Tryz.results17, go_sem, s0, s1, s2]) rfl ⟨(b.1, b.2.1, 0), S, rfl, hF2, hS, E.out⟩
  · go_upto_region 5 with fail
    have l0 := A1.blk.cell0
    have l1 := A1.blk.cell1
    have l2 := A1.blk.cell2
    have j0 := A1.cell.cell0
    have j1 := A1.cell.cell1
    have j2 := A1.cell.cell2
    have f0 := A1.cell.frozen 0
    have f1 := A1.cell.frozen 1
    have f2 := A1.cell.frozen 2
    have AA := Lib.hid A1
    clear A1
    go_region_with (go_at_call 26; refine (drawDirsG AA.out.drew.rd (by omega) 8 (by omega)).mono ?_; rintro e wB ⟨S, q4, rfl, hS, hrd4, hq4, k4⟩; have A3 := AA.out.drew.grown k4 hrd4; have x0 := A3.blk.cell0; have x1 := A3.blk.cell1; have x2 := A3.blk.cell2; have y0 := A3.cell.cell0; have y1 := A3.cell.cell1; have y2 := A3.cell.cell2; have e0 := A3.cell.frozen 0; have e1 := A3.cell.frozen 1; have e2 := A3.cell.frozen 2)
    all_goals
      have ts := A3.fin (.int .i64 b.1) (.int .i64 b.2.1) (.int .i64 b.2.2)
      have s0 := ts.1.cell0
      have s1 := ts.1.cell1
      have s2 := ts.1.cell2
      have E := Lib.hid ts.2
      clear ts
      go_wp2_with fail
      exact bodyPost_ret (v := .tuple #[.agg #[.int .i64 b.1, .int .i64 b.2.1, .int .i64 b.2.2], .string S]) (by simp [results, Tryz.results17, go_sem, s0, s1, s2]) rfl ⟨b, S, rfl, hF, hS, E.out⟩

end Go.Proofs.YthjodagbgmpbhaaGreatDoor
