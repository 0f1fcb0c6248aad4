/-
  A drawn track with a circuit. For codes of at most 1048576 bytes.
-/
import Derived.Test.YtmdkfhbkdeoahaaDoorDrwA
namespace Go.Proofs.YtmdkfhbkdeoahaaDoor
open Go.RowKit Go.Sort

/-- A drawn text and a number. -/
def DrawnTI (w : World) (m : Nat) (e : Ending) (w' : World) : Prop := ∃ (S : ByteArray) (i : Int), e = .returned (.tuple #[.string S, .int .i64 i]) ∧ S.size ≤ m ∧ Below w.heap.size w w'

set_option maxHeartbeats 2000000 in
theorem drawAt0 {w : World} {g p B : Nat} {n : Int} (h : Rdr w g p) (hp : p ≤ 1000100) (hB : B ≤ g) (hn0 : 0 ≤ n) (hn1 : n ≤ 1000) :
    Calls Tryd.prog 40 #[.pointer (some ⟨g, 0, none⟩), .int .i64 n] w fun e w' => ∃ x : Int, e = .returned (.int .i64 x) ∧ Below B w w' := by
  have hgl := h.lt
  have fin : ∀ (w1 : World) (q : Nat), Rdr w1 g q → q ≤ 1000101 → Below B w w1 → ∀ W3, W3 = w1.alloc (.cells #[.int .i64 (-1), .int .i64 n] 3) → Rdr W3 g q ∧ Below B w W3 ∧ B ≤ W3.heap.size ∧
      ∀ w2, W3.grownBy w2 (some g) → w2.cell? ⟨w1.heap.size, 0, none⟩ = some (.int .i64 (-1)) ∧ w2.cell? ⟨w1.heap.size, 1, none⟩ = some (.int .i64 n) := by
    intro w1 q hr hq b1 W3 hW3
    have hg := hr.lt
    have q3 := below_alloc w1 (.cells #[.int .i64 (-1), .int .i64 n] 3)
    have hn : (w1.alloc (.cells #[.int .i64 (-1), .int .i64 n] 3)).heap[w1.heap.size]? = some (.cells #[.int .i64 (-1), .int .i64 n] 3 (0, 0)) := Go.Deep.blk_alloc_new _ _
    rw [← hW3] at q3 hn
    have hB1 : B ≤ w1.heap.size := by omega
    refine ⟨hr.below q3 hg, b1.trans (q3.mono hB1), Nat.le_trans hB1 q3.size, fun w2 g2 => ?_⟩
    have e := g2.block w1.heap.size (Array.getElem?_eq_some_iff.1 hn).1 (by simp; omega)
    rw [hn] at e
    exact ⟨by simp only [World.cell?, e]; rfl, by simp only [World.cell?, e]; rfl⟩
  have FIN := Lib.hid fin
  clear fin
  have R0 := Lib.hid h
  clear h
  by_cases hz0 : n = 0
  · subst hz0
    obtain ⟨W3, hW3⟩ : ∃ X, X = w.alloc (.cells #[.int .i64 (-1), .int .i64 0] 3) := ⟨_, rfl⟩
    obtain ⟨r3, b3, s3, c3⟩ := FIN.out w p R0.out (by omega) (Below.refl _ _) W3 hW3
    have HW3 := Lib.hid hW3
    have C3 := Lib.hid c3
    have R3 := Lib.hid r3
    have B3 := Lib.hid b3
    clear hW3 c3 r3 b3
    go_enter Tryd.func40, Tryd.ntmps40
    go_wp2_with (go_at_call 39; rw [← HW3.out]; refine (pick R3.out (by omega) (by omega) (by omega)).mono ?_)
    rintro e w2 ⟨q, rfl, hq0, hq1, hrd2, g2⟩
    have hq1' := hq1 (by omega)
    obtain ⟨y0, y1⟩ := C3.out w2 g2
    have B4 := Lib.hid (Below.pick B3.out s3 hB g2)
    clear g2 hq1
    have h4 : q = 0 ∨ q = 1 := by omega
    rcases h4 with rfl | rfl
    · go_wp2_with fail
      go_ret
      exact ⟨-1, rfl, B4.out⟩
    · go_wp2_with fail
      go_ret
      exact ⟨0, rfl, B4.out⟩
  have hz : (n == 0) = false := by simpa using hz0
  go_enter Tryd.func40, Tryd.ntmps40
  go_wp2_with (go_at_call 39; refine (pick R0.out (by omega) (by omega) (by omega)).mono ?_)
  rintro e w1 ⟨r, rfl, hr0, hr1, hrd1, g1⟩
  have B1 := Lib.hid (Below.pick (Below.refl B w) (by omega) hB g1)
  have s1 := g1.size
  have R1 := Lib.hid hrd1
  clear hz hz0 hr1 g1 hrd1
  by_cases h0 : r = 0
  · subst h0
    obtain ⟨W3, hW3⟩ : ∃ X, X = w1.alloc (.cells #[.int .i64 (-1), .int .i64 n] 3) := ⟨_, rfl⟩
    obtain ⟨r3, b3, s3, c3⟩ := FIN.out w1 (p + 1) R1.out (by omega) B1.out W3 hW3
    have HW3 := Lib.hid hW3
    have C3 := Lib.hid c3
    have R3 := Lib.hid r3
    have B3 := Lib.hid b3
    clear hW3 c3 r3 b3
    go_wp2_with (go_at_call 39; rw [← HW3.out]; refine (pick R3.out (by omega) (by omega) (by omega)).mono ?_)
    rintro e w2 ⟨q, rfl, hq0, hq1, hrd2, g2⟩
    have hq1' := hq1 (by omega)
    obtain ⟨y0, y1⟩ := C3.out w2 g2
    have B4 := Lib.hid (Below.pick B3.out s3 hB g2)
    clear g2 hq1
    have h4 : q = 0 ∨ q = 1 := by omega
    rcases h4 with rfl | rfl
    · go_wp2_with fail
      go_ret
      exact ⟨-1, rfl, B4.out⟩
    · go_wp2_with fail
      go_ret
      exact ⟨n, rfl, B4.out⟩
  · have h0' : (r == 0) = false := by simpa using h0
    clear h0
    go_wp2_with (go_at_call 39; refine (pick R1.out (by omega) (by omega) (by omega)).mono ?_)
    rintro e w2 ⟨q, rfl, hq0, hq1, hrd2, g2⟩
    have B4 := Lib.hid (Below.pick B1.out (by omega) hB g2)
    clear g2 hq1
    go_wp2_with fail
    go_ret
    exact ⟨q, rfl, B4.out⟩

set_option maxHeartbeats 4000000 in
theorem drawTrackStep {w : World} {a : Option Addr} {len cap : Nat} {zs : List Int} (h : IsRowK .u8 w a len cap zs) (hl : len ≤ 1048576) :
    Calls Tryd.prog 11 #[.slice a len cap] w (DrawnTI w 100) := by
  go_enter Tryd.func11, Tryd.ntmps11
  go_wp2_with (go_at_call 37; refine (openRd h hl).mono ?_)
  rintro e w1 ⟨g, rfl, hg, hr, b1⟩
  go_wp2_with (go_at_call 39; refine (pick hr (by omega) (by omega) (by omega)).mono ?_)
  rintro e w2 ⟨r, rfl, hr0, hr1, hr2, g2⟩
  have hr1 := hr1 (by omega)
  have b2 := Below.pick b1 b1.size hg g2
  go_wp2_with (go_at_call 38; refine (drawTrack hr2 (by omega) hg (by omega) (by omega)).mono ?_)
  rintro e w3 ⟨S, q, rfl, hS, hrd3, hq, b3⟩
  have b3 := b2.trans b3
  have hSi : (S.size : Int) ≤ 100 := by omega
  have hg3 := hrd3.lt
  have SN := Lib.hid (specTrackNext S (by omega) w3)
  have hl8 := nxT_length S
  obtain ⟨xs, hxs⟩ : ∃ xs, xs = nxT S := ⟨_, rfl⟩
  rw [← hxs] at SN hl8
  have R3 := Lib.hid hrd3
  have B3 := Lib.hid b3
  have hli : (xs.length : Int) ≤ 8 := by omega
  clear hxs b1 b2 b3 hr hr2 g2 hrd3
  go_wp2_with (go_at_call 18; refine SN.out.mono ?_)
  rintro e w4 ⟨v4, rfl, o4, b4⟩
  have R4 := Lib.hid (R3.out.below b4 hg3)
  have B4 := Lib.hid (B3.out.trans (b4.mono B3.out.size))
  have hs3 : w.heap.size ≤ w4.heap.size := B4.out.size
  have OUT := Lib.hid (fun b e => (World.ownsRow.lt o4 b e).1)
  have O4 := Lib.hid o4
  obtain ⟨a4, n4, c4, rfl⟩ := own_is_slice o4
  obtain rfl : n4 = xs.length := by
    obtain ⟨_, _, e4, -⟩ := o4.ints (by omega)
    simp only [Value.slice.injEq] at e4
    exact e4.2.1
  clear b4
  by_cases h0 : xs.length = 0
  · obtain rfl : xs = [] := List.eq_nil_of_length_eq_zero h0
    have DA := Lib.hid (drawAt0 (n := (S.size : Int)) R4.out (by omega) hg (by omega) (by omega))
    clear h0
    go_wp2_with (go_at_call 40; refine DA.out.mono ?_)
    rintro e w5 ⟨x, rfl, b5⟩
    have B5 := Lib.hid (B4.out.trans b5)
    clear b5
    go_wp2_with fail
    go_ret2
    exact ⟨S, x, rfl, hS, B5.out⟩
  have hpos : (0 : Int) < (xs.length : Int) := by omega
  obtain ⟨b4, cap4, hv4, hb40, hb41⟩ : ∃ g cap, Value.slice a4 xs.length c4 = .slice (some ⟨g, 0, none⟩) xs.length cap ∧ w3.heap.size ≤ g ∧ g < w4.heap.size := by
    rcases o4.shape with ⟨_, q⟩ | q
    · rw [q] at h0; exact absurd rfl h0
    · exact q
  simp only [Value.slice.injEq, true_and] at hv4
  obtain ⟨rfl, rfl⟩ := hv4
  clear o4 h0
  go_wp2_with (go_at_call 39; refine (pick R4.out (by omega) (by omega) (by omega)).mono ?_)
  rintro e w5 ⟨r5, rfl, hr50, hr51, hr5, g5⟩
  have B5 := Lib.hid (Below.pick B4.out hs3 hg g5)
  have R5 := Lib.hid hr5
  have hs5 : w.heap.size ≤ w5.heap.size := Nat.le_trans hs3 g5.size
  have O5 := Lib.hid (O4.out.kept g5 (by
    cases e : (Value.slice (some ⟨b4, 0, none⟩) xs.length c4).ownBlock with
    | none => exact .inl rfl
    | some b =>
      refine .inr fun e2 => ?_
      have h1 := OUT.out b e
      simp only [Option.some.injEq] at e2
      omega))
  clear g5 hr5 hr51
  by_cases h5 : 0 < r5
  · have R6 := Lib.hid (show Rdr w5.drew g (q + 1) from R5.out)
    have KEEP0 := Lib.hid (fun (X : World) (o6 : OwnI X w3.heap.size (.slice (some ⟨b4, 0, none⟩) xs.length c4) xs) (j : Nat) (hj : j < xs.length) => (show X.cell? ⟨b4, j, none⟩ = some (.int .i64 (xs.getD j 0)) by
      have := World.ownsRow.cellAt o6 j (by simpa using hj)
      rw [this]
      simp [hj]))
    have KEEP := Lib.hid (fun (w6 : World) (g6 : w5.drew.grownBy w6 (some g)) => (show OwnI w6 w3.heap.size (.slice (some ⟨b4, 0, none⟩) xs.length c4) xs by
      have hne : b4 ≠ g := by have := OUT.out b4 rfl; omega
      exact OwnI.kept (w := w5.drew) (show OwnI w5.drew _ _ _ from O5.out) g6 (.inr (fun e => by simp only [Value.ownBlock, Option.some.injEq] at e; exact hne e))))
    have BD := Lib.hid (show Below w.heap.size w w5.drew from B5.out.drew)
    clear R5
    go_wp2_with fail
    go_region_held3 (fun X => ∀ j : Nat, j < xs.length → X.cell? ⟨b4, j, none⟩ = some (.int .i64 (xs.getD j 0)))
      (first | exact KEEP0.out _ (show OwnI w5.drew _ _ _ from O5.out) | exact KEEP0.out _ (KEEP.out _ g6) | go_keep)
      (first | (go_at_call 39; refine (pick R6.out (by omega) (by omega) (by omega)).mono ?_; rintro e w6 ⟨r6, rfl, h60, h61, hr6, g6⟩; have h62 := h61 (by omega); obtain ⟨j, rfl⟩ : ∃ j : Nat, r6 = j := ⟨r6.toNat, by omega⟩; have h63 : j < xs.length := by omega) | fail)
    all_goals
      go_wp2_with fail
      go_ret2
      exact ⟨S, _, rfl, hS, Below.pick BD.out (by have := hs5; exact this) hg g6⟩
  · have h5' : decide (0 < r5) = false := decide_eq_false h5
    have DA := Lib.hid (drawAt0 (n := (S.size : Int)) R5.out (by omega) hg (by omega) (by omega))
    clear h5
    go_wp2_with (go_at_call 40; refine DA.out.mono ?_)
    rintro e w6 ⟨x, rfl, b6⟩
    have B6 := Lib.hid (B5.out.trans b6)
    clear b6
    go_wp2_with fail
    go_ret2
    exact ⟨S, x, rfl, hS, B6.out⟩

end Go.Proofs.YtmdkfhbkdeoahaaDoor
