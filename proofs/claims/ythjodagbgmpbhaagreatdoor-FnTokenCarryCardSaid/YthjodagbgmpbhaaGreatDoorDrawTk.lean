/-
  Drawn states of tokens. For codes of at most 1048576 bytes.
-/
import Derived.Test.YthjodagbgmpbhaaGreatDoorDrawA
import Derived.Test.YthjodagbgmpbhaaGreatDoorTokA
namespace Go.Proofs.YthjodagbgmpbhaaGreatDoor
open Go.RowKit Go.Sort

theorem wrap_fits (x : Int) : -9223372036854775808 ≤ wrap64 x ∧ wrap64 x ≤ 9223372036854775807 := by
  unfold wrap64
  omega
/-- A drawn state of tokens. -/
def DrawnTok (B : Nat) (w : World) (g P : Nat) (e : Ending) (w' : World) : Prop :=
  ∃ (t : Tk) (q : Nat), e = .returned (.agg #[.int .i64 t.1, .int .i64 t.2.1, .int .i64 t.2.2]) ∧ tkFits t ∧ Rdr w' g q ∧ q ≤ P ∧ Below B w w'

set_option maxHeartbeats 4000000 in
theorem drawTok {w : World} {g p B : Nat} (h : Rdr w g p) (hp : p ≤ 500) (hB : B ≤ g) :
    Calls Tryz.prog 35 #[.pointer (some ⟨g, 0, none⟩)] w (DrawnTok B w g (p + 6)) := by
  have hgw := h.lt
  have ba := below_alloc w (.cells #[.int .i64 0, .int .i64 0, .int .i64 0] 29)
  have tr := Tri3.new w (.int .i64 0) (.int .i64 0) (.int .i64 0) 29
  obtain ⟨W, hW⟩ : ∃ W, W = w.alloc (.cells #[.int .i64 0, .int .i64 0, .int .i64 0] 29) := ⟨_, rfl⟩
  rw [← hW] at ba tr
  have HW := Lib.hid hW
  have R0 := Lib.hid (h.below ba hgw)
  have BW := Lib.hid (show Below B w W from ba.mono (by omega))
  have TT := Lib.hid tr
  have hs0 : w.heap.size ≤ W.heap.size := ba.size
  clear hW ba tr h
  go_enter Tryz.func35, Tryz.ntmps35
  go_wp2_with (rw [← HW.out]; go_at_call 36; refine (pick R0.out (by omega) (by omega) (by omega)).mono ?_)
  rintro e w1 ⟨r, rfl, hr0, hr1, hr, g1⟩
  have B1 := Lib.hid (Below.pick BW.out (by omega) hB g1)
  have R1 := Lib.hid hr
  have T1 := Lib.hid (TT.out.of (g1.block w.heap.size TT.out.lt (by simp; omega)))
  have hs1 : w.heap.size ≤ w1.heap.size := Nat.le_trans hs0 g1.size
  clear hr hr1 g1
  by_cases h0 : r = 0
  · subst h0
    go_wp2_with (go_at_call 36; refine (pick R1.out (by omega) (by omega) (by omega)).mono ?_)
    rintro e w2 ⟨x, rfl, x0, x1, hr, g2⟩
    have x1' := x1 (by omega)
    have B2 := Lib.hid (Below.pick B1.out (by omega) hB g2)
    have R2 := Lib.hid hr
    have T2 := Lib.hid (T1.out.of (g2.block w.heap.size T1.out.lt (by simp; omega)))
    have hs2 : w.heap.size ≤ w2.heap.size := Nat.le_trans hs1 g2.size
    clear hr x1 g2
    go_wp2_with (go_at_call 36; refine (pick R2.out (by omega) (by omega) (by omega)).mono ?_)
    rintro e w3 ⟨y, rfl, y0, y1, hr, g3⟩
    have y1' := y1 (by omega)
    have B3 := Lib.hid (Below.pick B2.out (by omega) hB g3)
    have R3 := Lib.hid hr
    have T3 := Lib.hid (T2.out.of (g3.block w.heap.size T2.out.lt (by simp; omega)))
    have hs3 : w.heap.size ≤ w3.heap.size := Nat.le_trans hs2 g3.size
    clear hr y1 g3
    go_wp2_with (go_at_call 36; refine (pick R3.out (by omega) (by omega) (by omega)).mono ?_)
    rintro e w4 ⟨z, rfl, z0, z1, hr, g4⟩
    have z1' := z1 (by omega)
    have B4 := Lib.hid (Below.pick B3.out (by omega) hB g4)
    have R4 := Lib.hid hr
    have T4 := T3.out.of (g4.block w.heap.size T3.out.lt (by simp; omega))
    have c0 := T4.cell0
    have c1 := T4.cell1
    have c2 := T4.cell2
    have f0 := T4.frozen 0
    have f1 := T4.frozen 1
    have f2 := T4.frozen 2
    have st := T4.stored (.int .i64 (x - 1)) (.int .i64 (y - 1)) (.int .i64 (z - 1))
    have l0 := st.cell0
    have l1 := st.cell1
    have l2 := st.cell2
    have R5 := Lib.hid (R4.out.below (stored_below (Below.refl w.heap.size _) (Nat.le_refl _) (.int .i64 (x - 1)) (.int .i64 (y - 1)) (.int .i64 (z - 1))) hgw)
    have B5 := Lib.hid (stored_below B4.out (show B ≤ w.heap.size by omega) (.int .i64 (x - 1)) (.int .i64 (y - 1)) (.int .i64 (z - 1)))
    have F := Lib.hid (show tkFits (x - 1, y - 1, z - 1) by unfold tkFits; simp only; omega)
    clear hr z1 g4 T4 st
    go_wp2_with fail
    exact bodyPost_ret (v := .agg #[.int .i64 (x - 1), .int .i64 (y - 1), .int .i64 (z - 1)]) (by simp [results, Tryz.results35, go_sem, l0, l1, l2]) rfl ⟨(x - 1, y - 1, z - 1), p + 4, rfl, F.out, R5.out, by omega, B5.out⟩
  · have t0 : (r == 0) = false := by simpa using h0
    go_wp2_with (go_at_call 36; refine (pick R1.out (by omega) (by omega) (by omega)).mono ?_)
    rintro e w2 ⟨x, rfl, x0, x1, hr, g2⟩
    have x1' := x1 (by omega)
    have B2 := Lib.hid (Below.pick B1.out (by omega) hB g2)
    have R2 := Lib.hid hr
    have T2 := Lib.hid (T1.out.of (g2.block w.heap.size T1.out.lt (by simp; omega)))
    have hs2 : w.heap.size ≤ w2.heap.size := Nat.le_trans hs1 g2.size
    clear hr x1 g2
    go_wp2_with (go_at_call 36; refine (pick R2.out (by omega) (by omega) (by omega)).mono ?_)
    rintro e w3 ⟨y, rfl, y0, y1, hr, g3⟩
    have y1' := y1 (by omega)
    have B3 := Lib.hid (Below.pick B2.out (by omega) hB g3)
    have R3 := Lib.hid hr
    have T3 := Lib.hid (T2.out.of (g3.block w.heap.size T2.out.lt (by simp; omega)))
    have hs3 : w.heap.size ≤ w3.heap.size := Nat.le_trans hs2 g3.size
    clear hr y1 g3
    go_wp2_with (go_at_call 36; refine (pick R3.out (by omega) (by omega) (by omega)).mono ?_)
    rintro e w4 ⟨z, rfl, z0, z1, hr, g4⟩
    have z1' := z1 (by omega)
    have B4 := Lib.hid (Below.pick B3.out (by omega) hB g4)
    have R4 := Lib.hid hr
    have T4 := Lib.hid (T3.out.of (g4.block w.heap.size T3.out.lt (by simp; omega)))
    have hs4 : w.heap.size ≤ w4.heap.size := Nat.le_trans hs3 g4.size
    clear hr z1 g4
    have zz : z / 4 = 0 ∨ z / 4 = 1 := by omega
    go_wp2_with (go_at_call 36; refine (pick R4.out (by omega) (by omega) (by omega)).mono ?_)
    rintro e w5 ⟨v, rfl, v0, v1, hr, g5⟩
    have v1' := v1 (by omega)
    have B5 := Lib.hid (Below.pick B4.out (by omega) hB g5)
    have R5 := Lib.hid hr
    have T5 := T4.out.of (g5.block w.heap.size T4.out.lt (by simp; omega))
    have c0 := T5.cell0
    have c1 := T5.cell1
    have c2 := T5.cell2
    have f0 := T5.frozen 0
    have f1 := T5.frozen 1
    have f2 := T5.frozen 2
    have STO := Lib.hid (fun o => T5.stored (.int .i64 x) (.int .i64 y) (.int .i64 o))
    have RO := Lib.hid (fun (o : Int) => R5.out.below (stored_below (Below.refl w.heap.size _) (Nat.le_refl _) (.int .i64 x) (.int .i64 y) (.int .i64 o)) hgw)
    have BO := Lib.hid (fun (o : Int) => stored_below B5.out (show B ≤ w.heap.size by omega) (.int .i64 x) (.int .i64 y) (.int .i64 o))
    clear hr v1 g5 T5
    go_wp2_with fail
    have ho := wrap_fits (z / 4 * (1 + v))
    obtain ⟨o, hoo⟩ : ∃ o, o = wrap64 (z / 4 * (1 + v)) := ⟨_, rfl⟩
    rw [← hoo] at ho ⊢
    have st := STO.out o
    have l0 := st.cell0
    have l1 := st.cell1
    have l2 := st.cell2
    exact bodyPost_ret (v := .agg #[.int .i64 x, .int .i64 y, .int .i64 o]) (by simp [results, Tryz.results35, go_sem, l0, l1, l2]) rfl ⟨(x, y, o), p + 5, rfl, ⟨by simp only; omega, by simp only; omega, ho⟩, RO.out o, by omega, BO.out o⟩

/-- A drawn state and a short text. -/
def DrawnTokS (w : World) (m : Nat) (e : Ending) (w' : World) : Prop :=
  ∃ (t : Tk) (S : ByteArray), e = .returned (.tuple #[.agg #[.int .i64 t.1, .int .i64 t.2.1, .int .i64 t.2.2], .string S]) ∧ tkFits t ∧ S.size ≤ m ∧ Below w.heap.size w w'

theorem lit_shorts9 (w : World) (s1 s2 s3 s4 s5 s6 s7 s8 s9 : ByteArray) (t : TypeId) (h1 : s1.size ≤ 2) (h2 : s2.size ≤ 2) (h3 : s3.size ≤ 2) (h4 : s4.size ≤ 2) (h5 : s5.size ≤ 2) (h6 : s6.size ≤ 2) (h7 : s7.size ≤ 2) (h8 : s8.size ≤ 2) (h9 : s9.size ≤ 2) :
    Shorts (w.alloc (.cells #[.string s1, .string s2, .string s3, .string s4, .string s5, .string s6, .string s7, .string s8, .string s9] t)) (.slice (some ⟨w.heap.size, 0, none⟩) 9 9) 9 := by
  have hn : (w.alloc (.cells #[.string s1, .string s2, .string s3, .string s4, .string s5, .string s6, .string s7, .string s8, .string s9] t)).heap[w.heap.size]? = some (.cells #[.string s1, .string s2, .string s3, .string s4, .string s5, .string s6, .string s7, .string s8, .string s9] t (0, 0)) := Go.Deep.blk_alloc_new _ _
  refine ⟨w.heap.size, 9, rfl, (Array.getElem?_eq_some_iff.1 hn).1, fun i hi => ?_⟩
  match i, hi with
  | 0, _ => exact ⟨s1, by simp only [World.cell?, hn]; rfl, h1⟩
  | 1, _ => exact ⟨s2, by simp only [World.cell?, hn]; rfl, h2⟩
  | 2, _ => exact ⟨s3, by simp only [World.cell?, hn]; rfl, h3⟩
  | 3, _ => exact ⟨s4, by simp only [World.cell?, hn]; rfl, h4⟩
  | 4, _ => exact ⟨s5, by simp only [World.cell?, hn]; rfl, h5⟩
  | 5, _ => exact ⟨s6, by simp only [World.cell?, hn]; rfl, h6⟩
  | 6, _ => exact ⟨s7, by simp only [World.cell?, hn]; rfl, h7⟩
  | 7, _ => exact ⟨s8, by simp only [World.cell?, hn]; rfl, h8⟩
  | 8, _ => exact ⟨s9, by simp only [World.cell?, hn]; rfl, h9⟩

theorem lit_shorts5 (w : World) (s1 s2 s3 s4 s5 : ByteArray) (t : TypeId) (h1 : s1.size ≤ 2) (h2 : s2.size ≤ 2) (h3 : s3.size ≤ 2) (h4 : s4.size ≤ 2) (h5 : s5.size ≤ 2) :
    Shorts (w.alloc (.cells #[.string s1, .string s2, .string s3, .string s4, .string s5] t)) (.slice (some ⟨w.heap.size, 0, none⟩) 5 5) 5 := by
  have hn : (w.alloc (.cells #[.string s1, .string s2, .string s3, .string s4, .string s5] t)).heap[w.heap.size]? = some (.cells #[.string s1, .string s2, .string s3, .string s4, .string s5] t (0, 0)) := Go.Deep.blk_alloc_new _ _
  refine ⟨w.heap.size, 5, rfl, (Array.getElem?_eq_some_iff.1 hn).1, fun i hi => ?_⟩
  match i, hi with
  | 0, _ => exact ⟨s1, by simp only [World.cell?, hn]; rfl, h1⟩
  | 1, _ => exact ⟨s2, by simp only [World.cell?, hn]; rfl, h2⟩
  | 2, _ => exact ⟨s3, by simp only [World.cell?, hn]; rfl, h3⟩
  | 3, _ => exact ⟨s4, by simp only [World.cell?, hn]; rfl, h4⟩
  | 4, _ => exact ⟨s5, by simp only [World.cell?, hn]; rfl, h5⟩

theorem row_under' {k : IntKind} {w w' : World} {a : Option Addr} {n c : Nat} {z : List Int} (h : IsRowK k w a n c z) (hb : Below w.heap.size w w') : IsRowK k w' a n c z := by
  rcases h with h | ⟨x, h1, h2, h3, h4, hc, h5⟩
  · exact .inl h
  · exact .inr ⟨x, h1, h2, h3, h4, fun i hi => (hb.cell (p := x.add i) (World.block_lt_of_cell? w _ (hc i hi))).trans (hc i hi), h5⟩

end Go.Proofs.YthjodagbgmpbhaaGreatDoor
