/-
  Drawn tracks, and a drawn track with a circuit. For codes of at most 1048576 bytes.
-/
import Derived.Test.YtilkphehonilbaaDoorDrawA
import Derived.Test.YtilkphehonilbaaDoorTrkE
import Derived.Deep.RegionHeld3
namespace Go.Proofs.YtilkphehonilbaaDoor
open Go.RowKit Go.Sort

/-- A list of strings of at most 9 bytes. -/
def Shorts9 (w : World) (v : Value) (n : Nat) : Prop :=
  ∃ b cap, v = .slice (some ⟨b, 0, none⟩) n cap ∧ b < w.heap.size ∧ ∀ i, i < n → ∃ s : ByteArray, w.cell? ⟨b, i, none⟩ = some (.string s) ∧ s.size ≤ 9

set_option maxHeartbeats 1000000 in
theorem ofRd9 {w : World} {g p n : Nat} {v : Value} (h : Rdr w g p) (hs : Shorts9 w v n) (hn1 : 1 ≤ n) (hn : n ≤ 100) (hp : p ≤ 1000000) (hne : ∀ b o k c, v = .slice (some ⟨b, o, none⟩) k c → b ≠ g) :
    Calls Tryd.prog 56 #[.pointer (some ⟨g, 0, none⟩), v] w fun e w' => ∃ s : ByteArray, e = .returned (.string s) ∧ s.size ≤ 9 ∧ Rdr w' g (p + 1) ∧ w.grownBy w' (some g) := by
  obtain ⟨b, cap, rfl, hb, hc⟩ := hs
  have hbg := hne b 0 n cap rfl
  have HC := Lib.hid hc
  clear hc hne
  go_enter Tryd.func56, Tryd.ntmps56
  go_wp2_with (go_at_call 35; refine (pick h (by omega) (by omega) (by omega)).mono ?_)
  rintro e w2 ⟨r, rfl, hr0, hr1, hr, g2⟩
  have hr1' := hr1 (by omega)
  obtain ⟨j, rfl⟩ : ∃ j : Nat, r = j := ⟨r.toNat, by omega⟩
  obtain ⟨s, hsc, hss⟩ := HC.out j (by omega)
  have c1 : w2.cell? ⟨b, 0 + j, none⟩ = some (.string s) := by
    rw [Nat.zero_add]
    exact (World.cell?_of_block (g2.block b hb (fun e => hbg (by simpa using e)))).trans hsc
  have c2 := c1
  rw [Nat.zero_add] at c2
  clear hr1 hsc
  go_wp2_with fail
  go_ret
  exact ⟨s, rfl, hss, hr, g2⟩

theorem lit_three (w : World) (s1 s2 s3 : ByteArray) (t : TypeId) (h1 : s1.size ≤ 9) (h2 : s2.size ≤ 9) (h3 : s3.size ≤ 9) : Shorts9 (w.alloc (.cells #[.string s1, .string s2, .string s3] t)) (.slice (some ⟨w.heap.size, 0, none⟩) 3 3) 3 := by
  have hn : (w.alloc (.cells #[.string s1, .string s2, .string s3] t)).heap[w.heap.size]? = some (.cells #[.string s1, .string s2, .string s3] t (0, 0)) := Go.Deep.blk_alloc_new _ _
  refine ⟨w.heap.size, 3, rfl, (Array.getElem?_eq_some_iff.1 hn).1, fun i hi => ?_⟩
  match i, hi with
  | 0, _ => exact ⟨s1, by simp only [World.cell?, hn]; rfl, h1⟩
  | 1, _ => exact ⟨s2, by simp only [World.cell?, hn]; rfl, h2⟩
  | 2, _ => exact ⟨s3, by simp only [World.cell?, hn]; rfl, h3⟩

set_option maxHeartbeats 2000000 in
theorem drawTrack {w : World} {g p B : Nat} (h : Rdr w g p) (hp : p ≤ 500) (hB : B ≤ g) {n : Int} (hn0 : 0 ≤ n) (hn : n ≤ 10) :
    Calls Tryd.prog 43 #[.pointer (some ⟨g, 0, none⟩), .int .i64 n] w (DrawnText B w g (p + 50) 100) := by
  have hgw := h.lt
  have R1 := Lib.hid h
  clear h
  go_enter Tryd.func43, Tryd.ntmps43
  go_wp2_with fail
  go_loopw [5, 6] (fun s i wr => ∃ (k q : Nat) (S : ByteArray), (k : Int) ≤ n ∧ i = .int .i64 k ∧ s = .string S ∧ S.size ≤ 9 * k ∧ q ≤ p + k ∧ Rdr wr g q ∧ Below B w wr ∧ w.heap.size ≤ wr.heap.size) (fun _ i _ => 41 - (intOf i).toNat)
  case atStart => exact ⟨0, p, ⟨#[]⟩, by omega, rfl, rfl, Nat.le_refl _, by omega, R1.out, Below.refl _ _, Nat.le_refl _⟩
  case round =>
    obtain ⟨k, q, S, hk, rfl, rfl, hS, hq, hr, hbel, hsz⟩ := hrel
    have hgr := hr.lt
    have R2 := Lib.hid hr
    have BB := Lib.hid hbel
    clear hr hbel
    by_cases hlt : (k : Int) < n
    · have sh := lit_three wr ⟨#[48]⟩ ⟨#[49]⟩ ⟨#[48]⟩ 9 (by decide) (by decide) (by decide)
      have q3 := below_alloc wr (.cells #[.string ⟨#[48]⟩, .string ⟨#[49]⟩, .string ⟨#[48]⟩] 9)
      obtain ⟨W3, hW3⟩ : ∃ X, X = wr.alloc (.cells #[.string ⟨#[48]⟩, .string ⟨#[49]⟩, .string ⟨#[48]⟩] 9) := ⟨_, rfl⟩
      rw [← hW3] at sh q3
      have HW3 := Lib.hid hW3
      have R4 := Lib.hid (R2.out.below q3 hgr)
      have SH := Lib.hid sh
      have hBr : B ≤ wr.heap.size := by omega
      have B4 := Lib.hid (BB.out.trans (q3.mono hBr))
      have s3 : wr.heap.size ≤ W3.heap.size := q3.size
      clear hW3 sh q3
      go_wp2_with (rw [← HW3.out]; go_at_call 56; refine (ofRd9 R4.out SH.out (by omega) (by omega) (by omega) (lit_apart hgr)).mono ?_)
      rintro e w4 ⟨s, rfl, hs, hr, g4⟩
      have B5 := Lib.hid (Below.pick B4.out (by omega) hB g4)
      have R5 := Lib.hid hr
      have hadd : ¬ 9223372036854775807 < S.size + s.size := by omega
      have hsq : (S ++ s).size ≤ 9 * (k + 1) := by rw [ByteArray.size_append]; omega
      have hs5 : w.heap.size ≤ w4.heap.size := Nat.le_trans (Nat.le_trans hsz s3) g4.size
      clear g4 hr
      go_wp2_with fail
      go_roundw
      case rel => exact ⟨k + 1, q + 1, S ++ s, by omega, by go_num, rfl, hsq, by omega, R5.out, B5.out, hs5⟩
      case measure => simp [intOf]; omega
    · go_wp2_with (go_at_call 35; refine (pick R2.out (by omega) (by omega) (by omega)).mono ?_)
      rintro e w2 ⟨r, rfl, hr0, hr1, hr, g2⟩
      have B3 := Lib.hid (Below.pick BB.out (by omega) hB g2)
      have R3 := Lib.hid hr
      have hs2 : w.heap.size ≤ w2.heap.size := Nat.le_trans hsz g2.size
      have hg2 : g < w2.heap.size := hr.lt
      clear hr g2 hr1
      by_cases h0 : r = 0
      · subst h0
        have sh := lit_three w2 ⟨#[120]⟩ ⟨#[50]⟩ ⟨#[48, 48, 48, 48, 48, 48, 48, 48, 48]⟩ 9 (by decide) (by decide) (by decide)
        have q3 := below_alloc w2 (.cells #[.string ⟨#[120]⟩, .string ⟨#[50]⟩, .string ⟨#[48, 48, 48, 48, 48, 48, 48, 48, 48]⟩] 9)
        obtain ⟨W3, hW3⟩ : ∃ X, X = w2.alloc (.cells #[.string ⟨#[120]⟩, .string ⟨#[50]⟩, .string ⟨#[48, 48, 48, 48, 48, 48, 48, 48, 48]⟩] 9) := ⟨_, rfl⟩
        rw [← hW3] at sh q3
        have HW3 := Lib.hid hW3
        have R4 := Lib.hid (R3.out.below q3 hg2)
        have SH := Lib.hid sh
        have hBr : B ≤ w2.heap.size := by omega
        have B4 := Lib.hid (B3.out.trans (q3.mono hBr))
        have s3 : w2.heap.size ≤ W3.heap.size := q3.size
        clear hW3 sh q3
        go_wp2_with (rw [← HW3.out]; go_at_call 56; refine (ofRd9 R4.out SH.out (by omega) (by omega) (by omega) (lit_apart hg2)).mono ?_)
        rintro e w4 ⟨s, rfl, hs, hr, g4⟩
        have B5 := Lib.hid (Below.pick B4.out (by omega) hB g4)
        have hadd : ¬ 9223372036854775807 < S.size + s.size := by omega
        have hsq : (S ++ s).size ≤ 100 := by rw [ByteArray.size_append]; omega
        clear g4
        go_wp2_with fail
        go_ret
        exact ⟨S ++ s, q + 1 + 1, rfl, hsq, hr, by omega, B5.out⟩
      · have t0 : (r == 0) = false := by simpa using h0
        go_wp2_with fail
        go_ret
        exact ⟨S, q + 1, rfl, by omega, R3.out, by omega, B3.out⟩

end Go.Proofs.YtilkphehonilbaaDoor
