/-
  The drawn texts of events: short strings. For codes of at most 1048576 bytes.
-/
import Derived.Test.YtilkphehonilbaaBlockN
import Derived.Test.YtilkphehonilbaaBlockH
import Derived.Test.YtilkphehonilbaaDraws1
namespace Go.Proofs.Ytilkphehonilbaa
open Go.RowKit Go.Sort

theorem Rdr.lt {w : World} {g p : Nat} (h : Rdr w g p) : g < w.heap.size := by
  obtain ⟨v, n, h1, _⟩ := h
  exact (Array.getElem?_eq_some_iff.1 h1).1
theorem Rdr.below {w w' : World} {g p B : Nat} (h : Rdr w g p) (hb : Below B w w') (hg : g < B) : Rdr w' g p := by
  obtain ⟨v, n, h1, hbt, hne⟩ := h
  refine ⟨v, n, (hb.block g hg).trans h1, ?_, hne⟩
  obtain ⟨a, cap, rfl, hm, hc⟩ := hbt
  refine ⟨a, cap, rfl, hm, ?_⟩
  rcases hc with h0 | ⟨b, o, rfl, hb', hcell⟩
  · exact .inl h0
  · by_cases h0 : n = 0
    · exact .inl h0
    · have hbg := hne (by omega) b o _ _ rfl
      refine .inr ⟨b, o, rfl, Nat.lt_of_lt_of_le hb' hb.size, fun i hi => ?_⟩
      obtain ⟨x, hx, hx2⟩ := hcell i hi
      exact ⟨x, (hb.cell (p := ⟨b, o + i, none⟩) (by simp only; omega)).trans hx, hx2⟩
/-- A pick, from a base below the reader's block on. -/
theorem Below.pick {B g : Nat} {w w1 w2 : World} (h : Below B w w1) (hB : B ≤ w1.heap.size) (hg : B ≤ g) (k : w1.grownBy w2 (some g)) : Below B w w2 :=
  h.grown k hB (fun b hb => by simp only [Option.some.injEq] at hb; omega)

/-- A list of short strings. -/
def Shorts (w : World) (v : Value) (n : Nat) : Prop :=
  ∃ b cap, v = .slice (some ⟨b, 0, none⟩) n cap ∧ b < w.heap.size ∧ ∀ i, i < n → ∃ s : ByteArray, w.cell? ⟨b, i, none⟩ = some (.string s) ∧ s.size ≤ 2

set_option maxHeartbeats 1000000 in
theorem ofRd {w : World} {g p n : Nat} {v : Value} (h : Rdr w g p) (hs : Shorts w v n) (hn1 : 1 ≤ n) (hn : n ≤ 100) (hp : p ≤ 1000000) (hne : ∀ b o k c, v = .slice (some ⟨b, o, none⟩) k c → b ≠ g) :
    Calls Try.prog 41 #[.pointer (some ⟨g, 0, none⟩), v] w fun e w' => ∃ s : ByteArray, e = .returned (.string s) ∧ s.size ≤ 2 ∧ Rdr w' g (p + 1) ∧ w.grownBy w' (some g) := by
  obtain ⟨b, cap, rfl, hb, hc⟩ := hs
  have hbg := hne b 0 n cap rfl
  have HC := Lib.hid hc
  clear hc hne
  go_enter Try.func41, Try.ntmps41
  go_wp2_with (go_at_call 21; refine (pick h (by omega) (by omega) (by omega)).mono ?_)
  rintro e w2 ⟨r, rfl, hr0, hr1, hr, g2⟩
  have hr1' := hr1 (by omega)
  obtain ⟨j, rfl⟩ : ∃ j : Nat, r = j := ⟨r.toNat, by omega⟩
  obtain ⟨s, hsc, hss⟩ := HC.out j (by omega)
  have c1 : w2.cell? ⟨b, 0 + j, none⟩ = some (.string s) := by
    rw [Nat.zero_add]
    exact (World.cell?_of_block (g2.block b hb (fun e => hbg (by simpa using e)))).trans hsc
  have c2 := c1
  rw [Nat.zero_add] at c2
  clear hr1 hsc
  go_wp2_with fail
  go_ret
  exact ⟨s, rfl, hss, hr, g2⟩

theorem lit_shorts3 (w : World) (s1 s2 s3 : ByteArray) (t : TypeId) (h1 : s1.size ≤ 2) (h2 : s2.size ≤ 2) (h3 : s3.size ≤ 2) : Shorts (w.alloc (.cells #[.string s1, .string s2, .string s3] t)) (.slice (some ⟨w.heap.size, 0, none⟩) 3 3) 3 := by
  have hn : (w.alloc (.cells #[.string s1, .string s2, .string s3] t)).heap[w.heap.size]? = some (.cells #[.string s1, .string s2, .string s3] t (0, 0)) := Go.Deep.blk_alloc_new _ _
  refine ⟨w.heap.size, 3, rfl, (Array.getElem?_eq_some_iff.1 hn).1, fun i hi => ?_⟩
  match i, hi with
  | 0, _ => exact ⟨s1, by simp only [World.cell?, hn]; rfl, h1⟩
  | 1, _ => exact ⟨s2, by simp only [World.cell?, hn]; rfl, h2⟩
  | 2, _ => exact ⟨s3, by simp only [World.cell?, hn]; rfl, h3⟩

theorem empty_is (N : ByteArray) : N.toList.isEmpty = decide (N.size = 0) := by
  have hl : N.data.toList.length = N.size := by simp only [Array.length_toList]; rfl
  rw [ByteArray.toList_eq, ← hl]
  cases N.data.toList <;> simp

/-- What a drawn text is. -/
def DrawnText (B : Nat) (w : World) (g P m : Nat) (e : Ending) (w' : World) : Prop :=
  ∃ (S : ByteArray) (q : Nat), e = .returned (.string S) ∧ S.size ≤ m ∧ Rdr w' g q ∧ q ≤ P ∧ Below B w w'

def DrawnTextG (w : World) (g P m : Nat) (e : Ending) (w' : World) : Prop :=
  ∃ (S : ByteArray) (q : Nat), e = .returned (.string S) ∧ S.size ≤ m ∧ Rdr w' g q ∧ q ≤ P ∧ w.grownBy w' (some g)
theorem ggt {w0 w w' : World} {g B : Nat} (h : w0.grownBy w (some g)) (k : Below B w w') (hB : w0.heap.size ≤ B) : w0.grownBy w' (some g) :=
  ⟨k.os.trans h.os, k.tape.trans h.tape, k.output.trans h.output, Nat.le_trans h.size k.size, fun i hi hne => (k.block i (by omega)).trans (h.block i hi hne)⟩

set_option maxHeartbeats 8000000 in
theorem eventsG {w : World} {g p : Nat} (h : Rdr w g p) (hp : p ≤ 1000) (b : Blk) (n : Int) (hn : n ≤ 31) :
    Calls Try.prog 56 #[.pointer (some ⟨g, 0, none⟩), bkV b, .int .i64 n] w (DrawnTextG w g (p + 40) 33) := by
  have hgw := h.lt
  unfold bkV
  obtain ⟨W, hW⟩ : ∃ W, W = w.alloc (.cells #[.int .i64 b.1, .bool b.2.1, .bool b.2.2] 79) := ⟨_, rfl⟩
  have t1 := Tri3.new w (.int .i64 b.1) (.bool b.2.1) (.bool b.2.2) 79
  have b1 := below_alloc w (.cells #[.int .i64 b.1, .bool b.2.1, .bool b.2.2] 79)
  rw [← hW] at t1 b1
  have HW := Lib.hid hW
  have HT := Lib.hid t1
  have HB := Lib.hid (show w.grownBy W (some g) by rw [hW]; exact World.grownBy_alloc _ _ _)
  have HR := Lib.hid (h.below b1 hgw)
  clear hW t1 b1 h
  go_enter Try.func56, Try.ntmps56
  go_wp2_with fail
  rw [← HW.out]
  go_loopw [7, 8] (fun s i wr => ∃ (k q : Nat) (S : ByteArray) (x : Blk), (k : Int) ≤ 31 ∧ i = .int .i64 k ∧ s = .string S ∧ S.size ≤ k ∧ q ≤ p + k ∧ Rdr wr g q ∧ Tri3 wr w.heap.size (.int .i64 x.1) (.bool x.2.1) (.bool x.2.2) 79 ∧ w.grownBy wr (some g)) (fun _ i _ => 32 - (intOf i).toNat)
  case atStart => exact ⟨0, p, ⟨#[]⟩, b, by omega, rfl, rfl, Nat.le_refl _, by omega, HR.out, HT.out, HB.out⟩
  case round =>
    obtain ⟨k, q, S, x, hk, rfl, rfl, hS, hq, hr, t1, hbel⟩ := hrel
    by_cases hlt : (k : Int) < n
    · obtain ⟨N, hN⟩ : ∃ N, N = nxS x := ⟨_, rfl⟩
      have hNs : N.size ≤ 7 := by rw [hN]; exact nxB_size x 7
      have NX := Lib.hid (specNext x)
      rw [← hN] at NX
      obtain ⟨t, ht⟩ : ∃ t, t = decide (N.size = 0) := ⟨_, rfl⟩
      have EQ := empty_is N
      rw [← ht] at EQ
      have HTT := Lib.hid ht
      have R1 := Lib.hid hr
      have T1 := Lib.hid t1
      have RB := Lib.hid hbel
      have c0 := t1.cell0
      have c1 := t1.cell1
      have c2 := t1.cell2
      have hgr := hr.lt
      have hsz : w.heap.size < wr.heap.size := t1.lt
      clear hN ht hr t1 hbel
      cases t
      · go_wp2_with (go_at_call 61; refine (NX.out _).mono ?_)
        rintro e w1 ⟨rfl, b1⟩
        have R2 := Lib.hid (R1.out.below b1 hgr)
        have T2 := Lib.hid (T1.out.below b1)
        have B2 := Lib.hid (ggt RB.out b1 (by omega))
        have hs1 : wr.heap.size ≤ w1.heap.size := b1.size
        clear b1 c0 c1 c2
        have hN1 : 1 ≤ N.size := by have := of_decide_eq_false HTT.out.symm; omega
        go_wp2_with (go_at_call 21; refine (pick R2.out (by omega) (by omega) (by omega)).mono ?_)
        rintro e w2 ⟨r, rfl, hr0, hr1, hr, g2⟩
        have hr1' := hr1 (by omega)
        obtain ⟨j, rfl⟩ : ∃ j : Nat, r = j := ⟨r.toNat, by omega⟩
        have R3 := Lib.hid hr
        have B3 := Lib.hid (grown_trans B2.out g2)
        have T3 := Lib.hid (T2.out.of (g2.block w.heap.size (by omega) (by simp; omega)))
        have hs2 : w1.heap.size ≤ w2.heap.size := g2.size
        clear hr g2 hr1
        have hjN : (j : Int) + 1 ≤ (N.size : Int) := by omega
        obtain ⟨Q, hQ⟩ : ∃ Q, Q = N.extract j (j + 1) := ⟨_, rfl⟩
        have hQs : Q.size ≤ 1 := by rw [hQ, ByteArray.size_extract]; omega
        have hsl : ∀ w, (Instr.slice 9 (.string N) (some (.int .i64 j)) (some (.int .i64 ((j : Int) + 1))) none).run Try.prog w = .ok (.string Q) w := by
          intro w
          rw [run_slice_string _ _ _ _ _ _ _ Try.underlying9 (by omega) (by omega) (by omega), hQ]
          rfl
        have hw1 : IntKind.i64.wrap ((j : Int) + 1) = (j : Int) + 1 := IntWalk.i64_in _ (by omega)
        have hw2 : wrap64 ((j : Int) + 1) = (j : Int) + 1 := (IntWalk.i64_left _).symm.trans hw1
        have hadd : ¬ 9223372036854775807 < S.size + Q.size := by omega
        have hsq : (S ++ Q).size ≤ k + 1 := by rw [ByteArray.size_append]; omega
        have SP := Lib.hid (specStepE x Q)
        obtain ⟨y, hy⟩ : ∃ y, y = (bkOne x Q).getD nb := ⟨_, rfl⟩
        rw [← hy] at SP
        have c0 := T3.out.cell0
        have c1 := T3.out.cell1
        have c2 := T3.out.cell2
        clear hy hQ
        go_upto_region 10 with fail
        have d0 : Below w2.heap.size w2 w2.drew := (Below.refl _ _).drew
        go_region_with (go_at_call 62; refine (SP.out _).mono ?_; rintro e wA ⟨rfl, bA⟩; have z := T3.out.below (d0.trans bA); have z0 := z.cell0; have z1 := z.cell1; have z2 := z.cell2; have g0 := z.frozen 0; have g1 := z.frozen 1; have g2 := z.frozen 2)
        all_goals
          have T5 := Lib.hid (z.stored (.int .i64 y.1) (.bool y.2.1) (.bool y.2.2))
          have R5 := Lib.hid ((R3.out.below (d0.trans bA) R3.out.lt).below (stored_below (Below.refl w.heap.size _) (Nat.le_refl _) (.int .i64 y.1) (.bool y.2.1) (.bool y.2.2)) hgw)
          have B5 := Lib.hid (ggt (ggt B3.out (d0.trans bA) (by omega)) (stored_below (Below.refl w.heap.size _) (Nat.le_refl _) (.int .i64 y.1) (.bool y.2.1) (.bool y.2.2)) (Nat.le_refl _))
          go_wp2_with fail
          go_roundw
          case rel => exact ⟨k + 1, q + 1, S ++ Q, y, by omega, by go_num, rfl, hsq, by omega, R5.out, T5.out, B5.out⟩
          case measure => simp [intOf]; omega
      · go_wp2_with (go_at_call 61; refine (NX.out _).mono ?_)
        rintro e w1 ⟨rfl, b1⟩
        have R2 := Lib.hid (R1.out.below b1 hgr)
        have T2 := Lib.hid (T1.out.below b1)
        have B2 := Lib.hid (ggt RB.out b1 (by omega))
        have hs1 : wr.heap.size ≤ w1.heap.size := b1.size
        clear b1 c0 c1 c2
        go_wp2_with fail
        go_ret
        exact ⟨S, q, rfl, by omega, R2.out, by omega, B2.out⟩
    · have hgr := hr.lt
      have hsz : w.heap.size < wr.heap.size := t1.lt
      go_wp2_with (go_at_call 21; refine (pick hr (by omega) (by omega) (by omega)).mono ?_)
      rintro e w2 ⟨r, rfl, hr0, hr1, hr, g2⟩
      have B3 := Lib.hid (grown_trans hbel g2)
      have R3 := Lib.hid hr
      have hs2 : wr.heap.size ≤ w2.heap.size := g2.size
      clear hr g2 hr1 hbel t1
      by_cases h0 : r = 0
      · subst h0
        have sh := lit_shorts3 w2 ⟨#[120]⟩ ⟨#[101]⟩ ⟨#[97, 97]⟩ 9 (by decide) (by decide) (by decide)
        have q3 := below_alloc w2 (.cells #[.string ⟨#[120]⟩, .string ⟨#[101]⟩, .string ⟨#[97, 97]⟩] 9)
        obtain ⟨W3, hW3⟩ : ∃ X, X = w2.alloc (.cells #[.string ⟨#[120]⟩, .string ⟨#[101]⟩, .string ⟨#[97, 97]⟩] 9) := ⟨_, rfl⟩
        rw [← hW3] at sh q3
        have HW3 := Lib.hid hW3
        have R4 := Lib.hid (R3.out.below q3 (by omega))
        have SH := Lib.hid sh
        have B4 := Lib.hid (ggt B3.out q3 (by omega))
        have s3 : W3.heap.size = w2.heap.size + 1 := by rw [hW3]; exact Go.Deep.nblk_alloc _ _
        clear hW3 sh q3
        go_wp2_with (rw [← HW3.out]; go_at_call 41; refine (ofRd R4.out SH.out (by omega) (by omega) (by omega) (fun b o k c e => by simp only [Value.slice.injEq, Option.some.injEq, Addr.mk.injEq] at e; omega)).mono ?_)
        rintro e w4 ⟨s, rfl, hs, hr, g4⟩
        have B5 := Lib.hid (grown_trans B4.out g4)
        have hadd : ¬ 9223372036854775807 < S.size + s.size := by omega
        have hsq : (S ++ s).size ≤ 33 := by rw [ByteArray.size_append]; omega
        clear g4
        go_wp2_with fail
        go_ret
        exact ⟨S ++ s, q + 1 + 1, rfl, hsq, hr, by omega, B5.out⟩
      · have t0 : (r == 0) = false := by simpa using h0
        go_wp2_with fail
        go_ret
        exact ⟨S, q + 1, rfl, by omega, R3.out, by omega, B3.out⟩

theorem events {w : World} {g p B : Nat} (h : Rdr w g p) (hp : p ≤ 1000) (hB : B ≤ g) (b : Blk) (n : Int) (hn : n ≤ 31) :
    Calls Try.prog 56 #[.pointer (some ⟨g, 0, none⟩), bkV b, .int .i64 n] w (DrawnText B w g (p + 40) 33) := by
  have hl := h.lt
  refine (eventsG h hp b n hn).mono ?_
  rintro e w' ⟨S, q, rfl, h1, h2, h3, h4⟩
  exact ⟨S, q, rfl, h1, h2, h3, Below.pick (Below.refl B w) (by omega) hB h4⟩

set_option maxHeartbeats 2000000 in
theorem legalText {w : World} {g p B : Nat} (h : Rdr w g p) (hp : p ≤ 500) (hB : B ≤ g) :
    Calls Try.prog 49 #[.pointer (some ⟨g, 0, none⟩)] w (DrawnText B w g (p + 50) 33) := by
  have hgw := h.lt
  go_enter Try.func49, Try.ntmps49
  go_wp2_with (go_at_call 21; refine (pick h (by omega) (by omega) (by omega)).mono ?_)
  rintro e w1 ⟨r, rfl, hr0, hr1, hr, g1⟩
  have B1 := Lib.hid (Below.pick (Below.refl B w) (by omega) hB g1)
  have R1 := Lib.hid hr
  have hs1 : w.heap.size ≤ w1.heap.size := g1.size
  clear hr hr1 g1
  by_cases h0 : r = 0
  · subst h0
    go_wp2_with (go_at_call 56; refine (events R1.out (by omega) hB nb 31 (by omega)).mono ?_)
    rintro e w2 ⟨S, q, rfl, hS, hr, hq, b2⟩
    go_wp2_with fail
    go_ret
    exact ⟨S, q, rfl, hS, hr, by omega, B1.out.trans b2⟩
  · have t0 : (r == 0) = false := by simpa using h0
    go_wp2_with (go_at_call 21; refine (pick R1.out (by omega) (by omega) (by omega)).mono ?_)
    rintro e w2 ⟨r2, rfl, hr0', hr1, hr, g2⟩
    have hr1' := hr1 (by omega)
    have B2 := Lib.hid (Below.pick B1.out (by omega) hB g2)
    have R2 := Lib.hid hr
    clear hr hr1 g2
    go_wp2_with (go_at_call 56; refine (events R2.out (by omega) hB nb r2 (by omega)).mono ?_)
    rintro e w3 ⟨S, q, rfl, hS, hr, hq, b3⟩
    go_wp2_with fail
    go_ret
    exact ⟨S, q, rfl, hS, hr, by omega, B2.out.trans b3⟩

/-- A short drawn text; nothing that was there has turned. -/
def ShortText (w : World) (m : Nat) (e : Ending) (w' : World) : Prop := ∃ S : ByteArray, e = .returned (.string S) ∧ S.size ≤ m ∧ Below w.heap.size w w'

end Go.Proofs.Ytilkphehonilbaa
