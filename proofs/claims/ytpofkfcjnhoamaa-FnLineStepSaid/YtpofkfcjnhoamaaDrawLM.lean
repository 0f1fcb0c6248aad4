/-
  A drawn move of a line. For codes of at most 1048576 bytes.
-/
import Derived.Test.YtpofkfcjnhoamaaDrawLW
import Derived.Test.YtpofkfcjnhoamaaLineS
namespace Go.Proofs.Ytpofkfcjnhoamaa
open Go.RowKit Go.Sort
set_option linter.unusedVariables false

/-- A list of strings of at most 9 bytes. -/
def Shorts9 (w : World) (v : Value) (n : Nat) : Prop :=
  ∃ b cap, v = .slice (some ⟨b, 0, none⟩) n cap ∧ b < w.heap.size ∧ ∀ i, i < n → ∃ s : ByteArray, w.cell? ⟨b, i, none⟩ = some (.string s) ∧ s.size ≤ 9

set_option maxHeartbeats 1000000 in
theorem ofRd9 {w : World} {g p n : Nat} {v : Value} (h : Rdr w g p) (hs : Shorts9 w v n) (hn1 : 1 ≤ n) (hn : n ≤ 100) (hp : p ≤ 1000000) (hne : ∀ b o k c, v = .slice (some ⟨b, o, none⟩) k c → b ≠ g) :
    Calls Try.prog 77 #[.pointer (some ⟨g, 0, none⟩), v] w fun e w' => ∃ s : ByteArray, e = .returned (.string s) ∧ s.size ≤ 9 ∧ Rdr w' g (p + 1) ∧ w.grownBy w' (some g) := by
  obtain ⟨b, cap, rfl, hb, hc⟩ := hs
  have hbg := hne b 0 n cap rfl
  have HC := Lib.hid hc
  clear hc hne
  go_enter Try.func77, Try.ntmps77
  go_wp2_with (go_at_call 48; refine (pick h (by omega) (by omega) (by omega)).mono ?_)
  rintro e w2 ⟨r, rfl, hr0, hr1, hr, g2⟩
  have hr1' := hr1 (by omega)
  obtain ⟨j, rfl⟩ : ∃ j : Nat, r = j := ⟨r.toNat, by omega⟩
  obtain ⟨s, hsc, hss⟩ := HC.out j (by omega)
  have c1 : w2.cell? ⟨b, 0 + j, none⟩ = some (.string s) := by
    rw [Nat.zero_add]
    exact (World.cell?_of_block (g2.block b hb (fun e => hbg (by simpa using e)))).trans hsc
  have c2 := c1
  rw [Nat.zero_add] at c2
  have hji : (j : Int) < (n : Int) := by omega
  clear hsc hr1
  go_wp2_with fail
  go_ret
  exact ⟨s, rfl, hss, hr, g2⟩

theorem lit_nine (w : World) (cs : Array Value) (t : TypeId) (h : ∀ i, i < cs.size → ∃ s : ByteArray, cs[i]? = some (.string s) ∧ s.size ≤ 9) : Shorts9 (w.alloc (.cells cs t)) (.slice (some ⟨w.heap.size, 0, none⟩) cs.size cs.size) cs.size := by
  refine ⟨w.heap.size, cs.size, rfl, by simp, fun i hi => ?_⟩
  obtain ⟨s, hs, hz⟩ := h i hi
  refine ⟨s, ?_, hz⟩
  unfold World.cell?
  simp only [heap_alloc_new]
  exact hs
theorem Rdr.pairM {w : World} {g p C : Nat} (h : Rdr w g p) (hC : g < C) (u v : Value) : Rdr ((w.setCell ⟨C, 0, none⟩ u).setCell ⟨C, 1, none⟩ v) g p := h.pair hC u v
/-- A named move's letter is one byte. -/
theorem lnMoves_one {l : Ln} {i : Nat} (h : i < (lnMoves l).length) : ((lnMoves l).getD i noMv).2.size = 1 := by
  obtain ⟨x, hx, -⟩ := lnMoves_do h
  obtain ⟨-, -, hd⟩ := step_ok hx
  obtain ⟨K, -, -, b, hb, -⟩ := lnDo_is hd
  unfold bkOne at hb
  split at hb
  · assumption
  · cases hb
/-- A drawn move. -/
def DrawnMove (w : World) (g p : Nat) (e : Ending) (w' : World) : Prop :=
  ∃ (s : Int) (S : ByteArray) (q : Nat), e = .returned (.agg #[.int .i64 s, .string S]) ∧ S.size ≤ 9 ∧ Rdr w' g q ∧ q ≤ p + 3 ∧ w.grownBy w' (some g)

set_option maxRecDepth 100000 in
set_option maxHeartbeats 4000000 in
theorem drawMove {w : World} {g p : Nat} {v : Value} {l : Ln} (h : Rdr w g p) (hp : p ≤ 1000) (hv : LineV w v l) :
    Calls Try.prog 49 #[.pointer (some ⟨g, 0, none⟩), v] w (DrawnMove w g p) := by
  have hgw := h.lt
  obtain ⟨a1, n1, c1, a2, n2, c2, rfl⟩ := hv.form
  obtain ⟨W, hW⟩ : ∃ X, X = (w.alloc (.cells #[.slice a1 n1 c1, .slice a2 n2 c2] 26)).alloc (.cells #[.int .i64 0, .string ⟨#[]⟩] 40) := ⟨_, rfl⟩
  have p1 := (Pair.new w (.slice a1 n1 c1) (.slice a2 n2 c2) 26).alloc (.cells #[.int .i64 0, .string ⟨#[]⟩] 40)
  have p2 := Pair.new (w.alloc (.cells #[.slice a1 n1 c1, .slice a2 n2 c2] 26)) (.int .i64 0) (.string ⟨#[]⟩) 40
  have b0 := chain (below_alloc w (.cells #[.slice a1 n1 c1, .slice a2 n2 c2] 26)) (below_alloc _ (.cells #[.int .i64 0, .string ⟨#[]⟩] 40))
  rw [← hW] at p1 p2 b0
  have hws : (w.alloc (.cells #[.slice a1 n1 c1, .slice a2 n2 c2] 26)).heap.size = w.heap.size + 1 := by simp
  rw [hws] at p2
  have HW := Lib.hid hW.symm
  have P1 := Lib.hid p1
  have P2 := Lib.hid p2
  have B0 := Lib.hid b0
  have R0 := Lib.hid (h.below b0 hgw)
  have LM := Lib.hid (specLineMoves (hv.below b0))
  have LL := lnMoves_len l
  have hl5 : (lnMoves l).length ≤ 35 := by
    unfold lnMoves
    split
    · rename_i hb
      have := mvsTo_len l l.1.length
      have := (lnB_is hb).1
      omega
    · simp
  have SZ := fun i (hi : i < (lnMoves l).length) => lnMoves_one hi
  obtain ⟨ms, hms⟩ : ∃ ms, ms = lnMoves l := ⟨_, rfl⟩
  rw [← hms] at LM hl5
  simp only [← hms] at SZ
  have SZ := Lib.hid SZ
  have c0 := p1.cell0
  have c1' := p1.cell1
  clear hW p1 p2 b0 hms h LL hv hws
  go_enter Try.func49, Try.ntmps49
  go_upto_region 1 with fail
  rw [HW.out]
  go_upto_region 2 with (go_at_call 29; refine LM.out.mono ?_; rintro e w3 ⟨vm, rfl, om, b3⟩)
  have hlW : W.heap.size = w.heap.size + 2 := by rw [← HW.out]; simp
  have R3 := Lib.hid (R0.out.below b3 R0.out.lt)
  have P3 := Lib.hid (P2.out.below b3)
  have G3 := Lib.hid (grown_of_below (B0.out.trans (b3.mono B0.out.size)) (some g))
  have hgg : g < W.heap.size := by omega
  have hl2 : w.heap.size + 1 < W.heap.size := by omega
  have hlW2 : W.heap.size ≤ w3.heap.size := b3.size
  clear hlW c0 c1' b3
  have OM := Lib.hid om
  rcases Ow.shape om with ⟨rfl, h0⟩ | ⟨gm, cm, rfl, hgm, hgl, hnc⟩
  · have R5 := R3
    have P5 := P3
    have G5 := G3
    have hq5 : p ≤ p + 1 := by omega
    clear h0
    go_upto_region 4 with fail
    go_wp2_with (go_at_call 48; refine (pick R5.out (by omega) (by omega) (by omega)).mono ?_)
    rintro e w6 ⟨r6, rfl, h60, h61, hr6, g6⟩
    have h62 := h61 (by omega)
    have hw6 : IntKind.i64.wrap (r6 - 1) = r6 - 1 := IntWalk.i64_in _ (by omega)
    have P6 := Lib.hid (P5.out.kept g6 (fun c e => by simp only [Option.some.injEq] at e; omega))
    have G6 := Lib.hid (grown_trans G5.out g6)
    have sh := lit_nine w6 #[.string ⟨#[111]⟩, .string ⟨#[97]⟩, .string ⟨#[101]⟩, .string ⟨#[108]⟩, .string ⟨#[102]⟩, .string ⟨#[114]⟩, .string ⟨#[99]⟩, .string ⟨#[]⟩, .string ⟨#[120]⟩] 9 (fun i hi => by
      have hi9 : i < 9 := hi
      rcases (by omega : i = 0 ∨ i = 1 ∨ i = 2 ∨ i = 3 ∨ i = 4 ∨ i = 5 ∨ i = 6 ∨ i = 7 ∨ i = 8) with rfl | rfl | rfl | rfl | rfl | rfl | rfl | rfl | rfl <;> exact ⟨_, rfl, by decide⟩)
    have q7 := below_alloc w6 (.cells #[.string ⟨#[111]⟩, .string ⟨#[97]⟩, .string ⟨#[101]⟩, .string ⟨#[108]⟩, .string ⟨#[102]⟩, .string ⟨#[114]⟩, .string ⟨#[99]⟩, .string ⟨#[]⟩, .string ⟨#[120]⟩] 9)
    have hg6 := hr6.lt
    obtain ⟨W7, hW7⟩ : ∃ X, X = w6.alloc (.cells #[.string ⟨#[111]⟩, .string ⟨#[97]⟩, .string ⟨#[101]⟩, .string ⟨#[108]⟩, .string ⟨#[102]⟩, .string ⟨#[114]⟩, .string ⟨#[99]⟩, .string ⟨#[]⟩, .string ⟨#[120]⟩] 9) := ⟨_, rfl⟩
    rw [← hW7] at sh q7
    have HW7 := Lib.hid hW7
    have SH := Lib.hid (show Shorts9 W7 (.slice (some ⟨w6.heap.size, 0, none⟩) 9 9) 9 from sh)
    have R7 := Lib.hid (hr6.below q7 hg6)
    have P7 := Lib.hid (P6.out.below q7)
    have G7 := Lib.hid (grown_trans G6.out (grown_of_below q7 (some g)))
    clear hW7 sh q7 hr6 g6 h61
    go_wp2_with (rw [← HW7.out]; go_at_call 77; refine (ofRd9 R7.out SH.out (by omega) (by omega) (by omega) (fun b o k c e => by simp only [Value.slice.injEq, Option.some.injEq, Addr.mk.injEq] at e; omega)).mono ?_)
    rintro e w8 ⟨S, rfl, hS, hr8, g8⟩
    have P8 := Lib.hid (P7.out.kept g8 (fun c e => by simp only [Option.some.injEq] at e; omega))
    have f0 := P8.out.frozen 0
    have f1 := P8.out.frozen 1
    have y0 := P8.out.cell0
    have y1 := P8.out.cell1
    have k0 := ((P8.out.set0 (.int .i64 (r6 - 1))).set1 (.string S)).cell0
    have k1 := ((P8.out.set0 (.int .i64 (r6 - 1))).set1 (.string S)).cell1
    have G8 := grown_trans G7.out g8
    go_wp2_with fail
    exact bodyPost_ret (v := .agg #[.int .i64 (r6 - 1), .string S]) (by simp [results, Try.results49, go_sem, k0, k1]) rfl ⟨_, S, _, rfl, hS, hr8.pairM (C := w.heap.size + 1) (by omega) _ _, by omega, grown_pair G8 (by omega) _ _⟩
  by_cases hm0 : ms.length = 0
  · have R5 := R3
    have P5 := P3
    have G5 := G3
    obtain rfl : ms = [] := List.eq_nil_of_length_eq_zero hm0
    clear hm0
    go_upto_region 4 with fail
    go_wp2_with (go_at_call 48; refine (pick R5.out (by omega) (by omega) (by omega)).mono ?_)
    rintro e w6 ⟨r6, rfl, h60, h61, hr6, g6⟩
    have h62 := h61 (by omega)
    have hw6 : IntKind.i64.wrap (r6 - 1) = r6 - 1 := IntWalk.i64_in _ (by omega)
    have P6 := Lib.hid (P5.out.kept g6 (fun c e => by simp only [Option.some.injEq] at e; omega))
    have G6 := Lib.hid (grown_trans G5.out g6)
    have sh := lit_nine w6 #[.string ⟨#[111]⟩, .string ⟨#[97]⟩, .string ⟨#[101]⟩, .string ⟨#[108]⟩, .string ⟨#[102]⟩, .string ⟨#[114]⟩, .string ⟨#[99]⟩, .string ⟨#[]⟩, .string ⟨#[120]⟩] 9 (fun i hi => by
      have hi9 : i < 9 := hi
      rcases (by omega : i = 0 ∨ i = 1 ∨ i = 2 ∨ i = 3 ∨ i = 4 ∨ i = 5 ∨ i = 6 ∨ i = 7 ∨ i = 8) with rfl | rfl | rfl | rfl | rfl | rfl | rfl | rfl | rfl <;> exact ⟨_, rfl, by decide⟩)
    have q7 := below_alloc w6 (.cells #[.string ⟨#[111]⟩, .string ⟨#[97]⟩, .string ⟨#[101]⟩, .string ⟨#[108]⟩, .string ⟨#[102]⟩, .string ⟨#[114]⟩, .string ⟨#[99]⟩, .string ⟨#[]⟩, .string ⟨#[120]⟩] 9)
    have hg6 := hr6.lt
    obtain ⟨W7, hW7⟩ : ∃ X, X = w6.alloc (.cells #[.string ⟨#[111]⟩, .string ⟨#[97]⟩, .string ⟨#[101]⟩, .string ⟨#[108]⟩, .string ⟨#[102]⟩, .string ⟨#[114]⟩, .string ⟨#[99]⟩, .string ⟨#[]⟩, .string ⟨#[120]⟩] 9) := ⟨_, rfl⟩
    rw [← hW7] at sh q7
    have HW7 := Lib.hid hW7
    have SH := Lib.hid (show Shorts9 W7 (.slice (some ⟨w6.heap.size, 0, none⟩) 9 9) 9 from sh)
    have R7 := Lib.hid (hr6.below q7 hg6)
    have P7 := Lib.hid (P6.out.below q7)
    have G7 := Lib.hid (grown_trans G6.out (grown_of_below q7 (some g)))
    clear hW7 sh q7 hr6 g6 h61
    go_wp2_with (rw [← HW7.out]; go_at_call 77; refine (ofRd9 R7.out SH.out (by omega) (by omega) (by omega) (fun b o k c e => by simp only [Value.slice.injEq, Option.some.injEq, Addr.mk.injEq] at e; omega)).mono ?_)
    rintro e w8 ⟨S, rfl, hS, hr8, g8⟩
    have P8 := Lib.hid (P7.out.kept g8 (fun c e => by simp only [Option.some.injEq] at e; omega))
    have f0 := P8.out.frozen 0
    have f1 := P8.out.frozen 1
    have y0 := P8.out.cell0
    have y1 := P8.out.cell1
    have k0 := ((P8.out.set0 (.int .i64 (r6 - 1))).set1 (.string S)).cell0
    have k1 := ((P8.out.set0 (.int .i64 (r6 - 1))).set1 (.string S)).cell1
    have G8 := grown_trans G7.out g8
    go_wp2_with fail
    exact bodyPost_ret (v := .agg #[.int .i64 (r6 - 1), .string S]) (by simp [results, Try.results49, go_sem, k0, k1]) rfl ⟨_, S, _, rfl, hS, hr8.pairM (C := w.heap.size + 1) (by omega) _ _, by omega, grown_pair G8 (by omega) _ _⟩
  have hm1 : (0 : Int) < (ms.length : Int) := by omega
  clear hm0
  go_wp2_with (go_at_call 48; refine (pick R3.out (by omega) (by omega) (by omega)).mono ?_)
  rintro e w4 ⟨r4, rfl, h40, h41, hr4, g4⟩
  have R5 := Lib.hid hr4
  have P5 := Lib.hid (P3.out.kept g4 (fun c e => by simp only [Option.some.injEq] at e; omega))
  have G5 := Lib.hid (grown_trans G3.out g4)
  have hq5 : p + 1 ≤ p + 1 := Nat.le_refl _
  have O5 := Lib.hid (show OwnM w4 W.heap.size (.slice (some ⟨gm, 0, none⟩) ms.length cm) ms from Ow.kept OM.out g4 (.inr (by intro e; simp only [Value.ownBlock, Option.some.injEq] at e; omega)))
  clear hr4 g4 om h41
  by_cases hr0 : 0 < r4
  · have t1 : decide ((0 : Int) < r4) = true := decide_eq_true hr0
    go_wp2_with (go_at_call 48; refine (pick R5.out (by omega) (by omega) (by omega)).mono ?_)
    rintro e w6 ⟨r6, rfl, h60, h61, hr6, g6⟩
    have h62 := h61 (by omega)
    obtain ⟨j, rfl⟩ : ∃ j : Nat, r6 = j := ⟨r6.toNat, by omega⟩
    have hj : j < ms.length := by omega
    have O6 := Ow.kept O5.out g6 (.inr (by intro e; simp only [Value.ownBlock, Option.some.injEq] at e; omega))
    have m0 := Ow.cell O6 (q := j * 2) (by omega)
    have m1 := Ow.cell O6 (q := j * 2 + 1) (by omega)
    rw [mvF0] at m0
    rw [mvF1] at m1
    have hsz := SZ.out j hj
    obtain ⟨s, hs⟩ : ∃ s, s = (ms.getD j noMv).1 := ⟨_, rfl⟩
    obtain ⟨S, hS⟩ : ∃ s, s = (ms.getD j noMv).2 := ⟨_, rfl⟩
    rw [← hs] at m0
    rw [← hS] at m1 hsz
    have m0' : w6.cell? ⟨gm, 0 + j * 2, none⟩ = some (.int .i64 s) := by rw [Nat.zero_add]; exact m0
    have m1' : w6.cell? ⟨gm, 0 + j * 2 + 1, none⟩ = some (.string S) := by rw [Nat.zero_add]; exact m1
    have hS9 : S.size ≤ 9 := by omega
    have P8 := Lib.hid (P5.out.kept g6 (fun c e => by simp only [Option.some.injEq] at e; omega))
    have f0 := P8.out.frozen 0
    have f1 := P8.out.frozen 1
    have y0 := P8.out.cell0
    have y1 := P8.out.cell1
    have k0 := ((P8.out.set0 (.int .i64 s)).set1 (.string S)).cell0
    have k1 := ((P8.out.set0 (.int .i64 s)).set1 (.string S)).cell1
    have G8 := grown_trans G5.out g6
    clear hs hS hsz O6 h61
    go_wp2_with fail
    exact bodyPost_ret (v := .agg #[.int .i64 s, .string S]) (by simp [results, Try.results49, go_sem, k0, k1]) rfl ⟨_, S, _, rfl, hS9, hr6.pairM (C := w.heap.size + 1) (by omega) _ _, by omega, grown_pair G8 (by omega) _ _⟩
  · have t1 : decide ((0 : Int) < r4) = false := decide_eq_false hr0
    clear hr0
    go_upto_region 4 with fail
    go_wp2_with (go_at_call 48; refine (pick R5.out (by omega) (by omega) (by omega)).mono ?_)
    rintro e w6 ⟨r6, rfl, h60, h61, hr6, g6⟩
    have h62 := h61 (by omega)
    have hw6 : IntKind.i64.wrap (r6 - 1) = r6 - 1 := IntWalk.i64_in _ (by omega)
    have P6 := Lib.hid (P5.out.kept g6 (fun c e => by simp only [Option.some.injEq] at e; omega))
    have G6 := Lib.hid (grown_trans G5.out g6)
    have sh := lit_nine w6 #[.string ⟨#[111]⟩, .string ⟨#[97]⟩, .string ⟨#[101]⟩, .string ⟨#[108]⟩, .string ⟨#[102]⟩, .string ⟨#[114]⟩, .string ⟨#[99]⟩, .string ⟨#[]⟩, .string ⟨#[120]⟩] 9 (fun i hi => by
      have hi9 : i < 9 := hi
      rcases (by omega : i = 0 ∨ i = 1 ∨ i = 2 ∨ i = 3 ∨ i = 4 ∨ i = 5 ∨ i = 6 ∨ i = 7 ∨ i = 8) with rfl | rfl | rfl | rfl | rfl | rfl | rfl | rfl | rfl <;> exact ⟨_, rfl, by decide⟩)
    have q7 := below_alloc w6 (.cells #[.string ⟨#[111]⟩, .string ⟨#[97]⟩, .string ⟨#[101]⟩, .string ⟨#[108]⟩, .string ⟨#[102]⟩, .string ⟨#[114]⟩, .string ⟨#[99]⟩, .string ⟨#[]⟩, .string ⟨#[120]⟩] 9)
    have hg6 := hr6.lt
    obtain ⟨W7, hW7⟩ : ∃ X, X = w6.alloc (.cells #[.string ⟨#[111]⟩, .string ⟨#[97]⟩, .string ⟨#[101]⟩, .string ⟨#[108]⟩, .string ⟨#[102]⟩, .string ⟨#[114]⟩, .string ⟨#[99]⟩, .string ⟨#[]⟩, .string ⟨#[120]⟩] 9) := ⟨_, rfl⟩
    rw [← hW7] at sh q7
    have HW7 := Lib.hid hW7
    have SH := Lib.hid (show Shorts9 W7 (.slice (some ⟨w6.heap.size, 0, none⟩) 9 9) 9 from sh)
    have R7 := Lib.hid (hr6.below q7 hg6)
    have P7 := Lib.hid (P6.out.below q7)
    have G7 := Lib.hid (grown_trans G6.out (grown_of_below q7 (some g)))
    clear hW7 sh q7 hr6 g6 h61
    go_wp2_with (rw [← HW7.out]; go_at_call 77; refine (ofRd9 R7.out SH.out (by omega) (by omega) (by omega) (fun b o k c e => by simp only [Value.slice.injEq, Option.some.injEq, Addr.mk.injEq] at e; omega)).mono ?_)
    rintro e w8 ⟨S, rfl, hS, hr8, g8⟩
    have P8 := Lib.hid (P7.out.kept g8 (fun c e => by simp only [Option.some.injEq] at e; omega))
    have f0 := P8.out.frozen 0
    have f1 := P8.out.frozen 1
    have y0 := P8.out.cell0
    have y1 := P8.out.cell1
    have k0 := ((P8.out.set0 (.int .i64 (r6 - 1))).set1 (.string S)).cell0
    have k1 := ((P8.out.set0 (.int .i64 (r6 - 1))).set1 (.string S)).cell1
    have G8 := grown_trans G7.out g8
    go_wp2_with fail
    exact bodyPost_ret (v := .agg #[.int .i64 (r6 - 1), .string S]) (by simp [results, Try.results49, go_sem, k0, k1]) rfl ⟨_, S, _, rfl, hS, hr8.pairM (C := w.heap.size + 1) (by omega) _ _, by omega, grown_pair G8 (by omega) _ _⟩

end Go.Proofs.Ytpofkfcjnhoamaa

/-
  A drawn line with a drawn move. For codes of at most 1048576 bytes.
-/
namespace Go.Proofs.Ytpofkfcjnhoamaa
open Go.RowKit Go.Sort
set_option linter.unusedVariables false

theorem rdr_move : 107 ≠ 40 := by decide
/-- What is written into a move's box leaves a reader as it is. -/
theorem Rdr.move {X : World} {g p R i : Nat} {x y v : Value} (h : Rdr X g p) (hq : Pair X R x y 40) (hn : ∀ q : Int, x ≠ .int .u8 q ∧ y ≠ .int .u8 q) : Rdr (X.setCell ⟨R, i, none⟩ v) g p := by
  obtain ⟨rv, n, hg, hb, hne⟩ := h
  have hgR : R ≠ g := by
    intro e
    subst e
    unfold Pair at hq
    rw [hg] at hq
    simp only [Option.some.injEq, Obj.cells.injEq] at hq
    exact rdr_move hq.2.1
  have kk := grown_set X R i v
  refine ⟨rv, n, (kk.block g (Array.getElem?_eq_some_iff.1 hg).1 (fun e => hgR (Option.some.inj e).symm)).trans hg, ?_, hne⟩
  obtain ⟨a, cap, rfl, hm, hc⟩ := hb
  refine ⟨a, cap, rfl, hm, ?_⟩
  rcases hc with h0 | ⟨b, o, rfl, hlt, hcell⟩
  · exact .inl h0
  · rcases Nat.eq_zero_or_pos n with h0 | h0
    · exact .inl h0
    have hbR : b ≠ R := by
      intro e
      subst e
      obtain ⟨x', hx', -⟩ := hcell 0 h0
      unfold Pair at hq
      unfold World.cell? at hx'
      simp only [hq] at hx'
      have hmem := Array.mem_of_getElem? hx'
      simp only [List.mem_toArray, List.mem_cons, List.not_mem_nil, or_false] at hmem
      have := hn x'
      rcases hmem with e | e
      · exact this.1 e.symm
      · exact this.2 e.symm
    refine .inr ⟨b, o, rfl, Nat.lt_of_lt_of_le hlt kk.size, fun j hj => ?_⟩
    obtain ⟨x', hx', hr⟩ := hcell j hj
    exact ⟨x', (World.cell?_of_block (kk.block b hlt (fun e => hbR (Option.some.inj e)))).trans hx', hr⟩
theorem RW.other {w X : World} {g Bx base Q R : Nat} {u1 u2 : Value} {l : Ln} {b : Bool} {s0 : Int} {S0 : ByteArray} (h : RW w g Bx base u1 u2 l b Q X) (hp : Pair X R (.int .i64 s0) (.string S0) 40) (hR : w.heap.size < R) (hRg : R < g) (s : Int) (S : ByteArray) :
    RW w g Bx base u1 u2 l b Q ((X.setCell ⟨R, 0, none⟩ (.int .i64 s)).setCell ⟨R, 1, none⟩ (.string S)) := by
  obtain ⟨q, hq, hr⟩ := h.rd
  obtain ⟨x, y, hr2, hs, hb⟩ := h.res
  have a1 := h.hg
  have a2 := h.hgb
  have a3 := h.hb
  obtain ⟨v1, v2, e, o1, o2, ap⟩ := id h.own
  simp only [Value.agg.injEq, Array.mk.injEq, List.cons.injEq, and_true] at e
  obtain ⟨rfl, rfl⟩ := e
  have hRb : R < base := by omega
  refine ⟨⟨q, hq, ?_⟩, ⟨u1, u2, rfl, ?_, ?_, ap⟩, (h.box.other (a := ⟨R, 0, none⟩) (by simp only; omega) _).other (a := ⟨R, 1, none⟩) (by simp only; omega) _, ⟨x, y, (hr2.other (a := ⟨R, 0, none⟩) (by simp only; omega) _).other (a := ⟨R, 1, none⟩) (by simp only; omega) _, hs, hb⟩, (h.bel.setCell (p := ⟨R, 0, none⟩) (by simp only; omega) _).setCell (p := ⟨R, 1, none⟩) (by simp only; omega) _, a1, a2, a3⟩
  · exact (hr.move hp (fun q => ⟨fun e => by simp only [Value.int.injEq, reduceCtorEq, false_and] at e, fun e => by cases e⟩)).move (hp.set0 _) (fun q => ⟨fun e => by simp only [Value.int.injEq, reduceCtorEq, false_and] at e, fun e => by cases e⟩)
  · exact Ow.setBelow (Ow.setBelow o1 (a := ⟨R, 0, none⟩) hRb _) (a := ⟨R, 1, none⟩) hRb _
  · exact (o2.setBelow (a := ⟨R, 0, none⟩) hRb _).setBelow (a := ⟨R, 1, none⟩) hRb _
/-- The move's box of the result. -/
def MB (R : Nat) (X : World) : Prop := ∃ (s : Int) (S : ByteArray), Pair X R (.int .i64 s) (.string S) 40 ∧ S.size ≤ 9

def GS (u1 u2 : Value) (g : Nat) (i : Nat) (v : Value) (_ : World) : Prop :=
  match i with
  | 0 => v = .agg #[u1, u2]
  | 1 => v = .pointer (some ⟨g, 0, none⟩)
  | 2 => v = .agg #[u1, u2]
  | 3 => ∃ (s : Int) (S : ByteArray), v = .agg #[.int .i64 s, .string S] ∧ S.size ≤ 9
  | _ => True
def RWs (w : World) (g Bx base : Nat) (u1 u2 : Value) (l : Ln) (Q : Nat) (D : Nat → Bool) (X : World) : Prop := RW w g Bx base u1 u2 l (D 4) (Q + (if D 3 then 3 else 0)) X ∧ MB (w.heap.size + 1) X
theorem RWs.same {w : World} {g Bx base : Nat} {u1 u2 : Value} {l : Ln} {Q : Nat} {D D' : Nat → Bool} {X : World} (h : RWs w g Bx base u1 u2 l Q D X) (h3 : D' 3 = D 3) (h4 : D' 4 = D 4) : RWs w g Bx base u1 u2 l Q D' X := by
  unfold RWs at h ⊢
  rw [h3, h4]
  exact h
/-- A drawn line and a drawn move. -/
def DrawnLineM (w : World) (e : Ending) (w' : World) : Prop := ∃ (v : Value) (l : Ln) (s : Int) (S : ByteArray), e = .returned (.tuple #[v, .agg #[.int .i64 s, .string S]]) ∧ S.size ≤ 9 ∧ MadeLn w v l w'

set_option maxRecDepth 100000 in
set_option maxHeartbeats 2000000 in
theorem drawLineStep {w : World} {a : Option Addr} {len cap : Nat} {zs : List Int} (h : IsRowK .u8 w a len cap zs) (hl : len ≤ 1048576) :
    Calls Try.prog 17 #[.slice a len cap] w (DrawnLineM w) := by
  obtain ⟨W, hW⟩ : ∃ X, X = (w.alloc (.cells #[.slice none 0 0, .slice none 0 0] 26)).alloc (.cells #[.int .i64 0, .string ⟨#[]⟩] 40) := ⟨_, rfl⟩
  have q0 := (Pair.new w (.slice none 0 0) (.slice none 0 0) 26).alloc (.cells #[.int .i64 0, .string ⟨#[]⟩] 40)
  have q1 := Pair.new (w.alloc (.cells #[.slice none 0 0, .slice none 0 0] 26)) (.int .i64 0) (.string ⟨#[]⟩) 40
  have b0 := chain (below_alloc w (.cells #[.slice none 0 0, .slice none 0 0] 26)) (below_alloc _ (.cells #[.int .i64 0, .string ⟨#[]⟩] 40))
  have hws : (w.alloc (.cells #[.slice none 0 0, .slice none 0 0] 26)).heap.size = w.heap.size + 1 := by simp
  rw [← hW] at q0 q1 b0
  rw [hws] at q1
  have OP := Lib.hid (openRd (w := W) (IsRowK.below h b0) hl)
  have HW := Lib.hid hW.symm
  have B0 := Lib.hid b0
  have Q0 := Lib.hid q0
  have Q1 := Lib.hid q1
  have QL := Lib.hid q1.lt
  clear hW q0 q1 b0 h hws
  go_enter Try.func17, Try.ntmps17
  go_upto_region 1 with fail
  rw [HW.out]
  go_upto_region 2 with (go_at_call 39; refine OP.out.mono ?_; rintro e w1 ⟨g, rfl, hg, hr, b1⟩)
  have DL := Lib.hid (drawLine hr (by omega))
  have HG := Lib.hid (And.intro hg hr.lt)
  have P1 := Lib.hid (Q0.out.below b1)
  have M1 := Lib.hid (Q1.out.below b1)
  have B1 := Lib.hid (B0.out.trans (b1.mono B0.out.size))
  have S1 := Lib.hid b1.size
  clear hg hr b1
  go_upto_region 3 with (go_at_call 38; refine DL.out.mono ?_; rintro e w2 ⟨l, q, v, rfl, o, ⟨-, hl1⟩, hl2, rd, hq, k⟩; obtain ⟨a1, n1, c1, a2, n2, c2, rfl⟩ := own_form o)
  have qb := Pair.new w2 (.slice a1 n1 c1) (.slice a2 n2 c2) 26
  have k1 := below_alloc w2 (.cells #[.slice a1 n1 c1, .slice a2 n2 c2] 26)
  have rw0 : RW w g w2.heap.size w1.heap.size (.slice a1 n1 c1) (.slice a2 n2 c2) l false 40 (w2.alloc (.cells #[.slice a1 n1 c1, .slice a2 n2 c2] 26)) ∧ MB (w.heap.size + 1) (w2.alloc (.cells #[.slice a1 n1 c1, .slice a2 n2 c2] 26)) := by
    have h1 := HG.out
    have h2 := QL.out
    have h3 := S1.out
    have p2 := P1.out.kept k (fun c e => by simp only [Option.some.injEq] at e; omega)
    have m2 := M1.out.kept k (fun c e => by simp only [Option.some.injEq] at e; omega)
    have b2 := B1.out.grown k (by omega) (fun c e => by simp only [Option.some.injEq] at e; omega)
    exact ⟨⟨⟨q, by omega, rd.below k1 rd.lt⟩, o.below k1, qb, ⟨_, _, p2.below k1, ⟨⟨_, _, _, rfl⟩, ⟨_, _, _, rfl⟩⟩, fun e => by cases e⟩, b2.trans (k1.mono b2.size), by omega, by omega, k.size⟩, 0, ⟨#[]⟩, m2.below k1, by decide⟩
  have hgR : w.heap.size + 1 < g := by have := HG.out; have := QL.out; omega
  obtain ⟨V, hV⟩ : ∃ X, X = w2.alloc (.cells #[.slice a1 n1 c1, .slice a2 n2 c2] 26) := ⟨_, rfl⟩
  rw [← hV] at rw0 ⊢
  obtain ⟨Bx, hBx⟩ : ∃ b, b = w2.heap.size := ⟨_, rfl⟩
  rw [← hBx] at rw0 ⊢
  obtain ⟨base, hbase⟩ : ∃ b, b = w1.heap.size := ⟨_, rfl⟩
  rw [← hbase] at rw0
  have R0 := Lib.hid rw0
  have HB := Lib.hid (show w.heap.size ≤ base by have := B0.out.size; have := S1.out; omega)
  clear hV hBx hbase rw0 qb k1 o rd k
  refine wp_region_goodsL (G := GS (.slice a1 n1 c1) (.slice a2 n2 c2) g) (R := RWs w g Bx base (.slice a1 n1 c1) (.slice a2 n2 c2) l 40) (T := fun _ _ _ => True) (by kernel_rfl) (by kernel_rfl) ?start (fun _ _ _ _ _ _ _ _ _ _ h => h) ⟨?s0, ?s1, ?s2, ?s3, ?s4, ?s5, trivial⟩ ?hend
  case start =>
    intro D hD
    unfold RWs
    rw [hD, hD]
    obtain ⟨s, S, hp, hz⟩ := R0.out.2
    exact ⟨R0.out.1.below ((Below.refl _ _).drew), s, S, hp.below ((Below.refl _ _).drew), hz⟩
  case s0 =>
    intro ac wc D D' hDk hDk' hdo hcl hR hrest hdep K hK
    have e0 : ac.tmps.getD 5 undef = .pointer (some ⟨Bx, 0, none⟩) := hrest 5 (by kernel_rfl)
    have f0 := slot_of e0
    have c0 := hR.1.box.cell0
    have c1' := hR.1.box.cell1
    clear hdep hrest
    go_simp
    exact hK _ _ rfl (hR.same (hdo 3 (by decide)) (hdo 4 (by decide))) trivial
  case s1 =>
    intro ac wc D D' hDk hDk' hdo hcl hR hrest hdep K hK
    have e0 : ac.tmps.getD 4 undef = .pointer (some ⟨g, 0, none⟩) := hrest 4 (by kernel_rfl)
    have f0 := slot_of e0
    clear hdep hrest
    go_simp
    exact hK _ _ rfl (hR.same (hdo 3 (by decide)) (hdo 4 (by decide))) trivial
  case s2 =>
    intro ac wc D D' hDk hDk' hdo hcl hR hrest hdep K hK
    have e0 : ac.tmps.getD 5 undef = .pointer (some ⟨Bx, 0, none⟩) := hrest 5 (by kernel_rfl)
    have f0 := slot_of e0
    have c0 := hR.1.box.cell0
    have c1' := hR.1.box.cell1
    clear hdep hrest
    go_simp
    exact hK _ _ rfl (hR.same (hdo 3 (by decide)) (hdo 4 (by decide))) trivial
  case s3 =>
    intro ac wc D D' hDk hDk' hdo hcl hR hrest hdep K hK
    have e0 : ac.tmps.getD 11 undef = .pointer (some ⟨g, 0, none⟩) := hdep 1 (by kernel_rfl)
    have e1 : ac.tmps.getD 12 undef = .agg #[.slice a1 n1 c1, .slice a2 n2 c2] := hdep 2 (by kernel_rfl)
    have f0 := slot_of e0
    have f1 := slot_of e1
    clear hdep hrest
    unfold RWs at hR
    rw [hDk] at hR
    obtain ⟨hR, s0, S0, hp, hz⟩ := hR
    obtain ⟨q1, hq1, hr1⟩ := hR.rd
    simp only [Bool.false_eq_true, if_false] at hq1
    have DM := Lib.hid (drawMove hr1 (by omega) (hR.own.lineV (by omega) (by omega)))
    go_simp
    refine DM.out.mono ?_
    rintro e w4 ⟨s, S, q4, rfl, hS, hr4, hq4, g4⟩
    refine hK _ _ ⟨s, S, rfl, hS⟩ ?_ trivial
    unfold RWs
    rw [hDk', hdo 4 (by decide)]
    exact ⟨(hR.grown g4 hr4).more (by simp only [if_true]; omega), s0, S0, hp.kept g4 (fun c e => by simp only [Option.some.injEq] at e; omega), hz⟩
  case s4 =>
    intro ac wc D D' hDk hDk' hdo hcl hR hrest hdep K hK
    have e0 : ac.tmps.getD 2 undef = .pointer (some ⟨w.heap.size, 0, none⟩) := hrest 2 (by kernel_rfl)
    have e1 : ac.tmps.getD 10 undef = .agg #[.slice a1 n1 c1, .slice a2 n2 c2] := hdep 0 (by kernel_rfl)
    have f0 := slot_of e0
    have f1 := slot_of e1
    clear hdep hrest
    obtain ⟨hR, s0, S0, hp, hz⟩ := hR
    obtain ⟨x, y, hp2, -⟩ := hR.res
    have c0 := hp2.cell0
    have c1' := hp2.cell1
    have d0 := hp2.frozen 0
    have d1 := hp2.frozen 1
    have HE := Lib.hid (show RWs w g Bx base (.slice a1 n1 c1) (.slice a2 n2 c2) l 40 D' _ from by
      unfold RWs
      rw [hDk', hdo 3 (by decide)]
      exact ⟨hR.store, s0, S0, (hp.other (a := ⟨w.heap.size, 0, none⟩) (by simp only; omega) _).other (a := ⟨w.heap.size, 1, none⟩) (by simp only; omega) _, hz⟩)
    clear hR hp hp2
    go_simp
    exact hK undef _ trivial HE.out trivial
  case s5 =>
    intro ac wc D D' hDk hDk' hdo hcl hR hrest hdep K hK
    have e0 : ac.tmps.getD 3 undef = .pointer (some ⟨w.heap.size + 1, 0, none⟩) := hrest 3 (by kernel_rfl)
    obtain ⟨s, S, e1, hS⟩ : ∃ (s : Int) (S : ByteArray), ac.tmps.getD 13 undef = .agg #[.int .i64 s, .string S] ∧ S.size ≤ 9 := hdep 3 (by kernel_rfl)
    have f0 := slot_of e0
    have f1 := slot_of e1
    clear hdep hrest
    obtain ⟨hR, s0, S0, hp, hz⟩ := hR
    have c0 := hp.cell0
    have c1' := hp.cell1
    have d0 := hp.frozen 0
    have d1 := hp.frozen 1
    have HE := Lib.hid (show RWs w g Bx base (.slice a1 n1 c1) (.slice a2 n2 c2) l 40 D' _ from by
      unfold RWs
      rw [hdo 4 (by decide), hdo 3 (by decide)]
      exact ⟨hR.other hp (by omega) hgR s S, s, S, (hp.set0 _).set1 _, hS⟩)
    clear hR hp
    go_simp
    exact hK undef _ trivial HE.out trivial
  case hend =>
    rintro ⟨tm, df⟩ w' D hD hsz hdf hR hrest hgood
    have hdf' : df = [] := hdf
    subst hdf'
    unfold RWs at hR
    rw [hD 4 (by decide)] at hR
    obtain ⟨hR, s, S, hm, hz⟩ := hR
    obtain ⟨x1, y1, hp, -, hxy⟩ := hR.res
    obtain ⟨rfl, rfl⟩ := hxy rfl
    have hw2 : tm.getD 2 undef = .pointer (some ⟨w.heap.size, 0, none⟩) := hrest 2 (by kernel_rfl)
    have hw3 : tm[2]?.getD undef = _ := slot_of (a := ⟨tm, []⟩) hw2
    have hw4 : tm.getD 3 undef = .pointer (some ⟨w.heap.size + 1, 0, none⟩) := hrest 3 (by kernel_rfl)
    have hw5 : tm[3]?.getD undef = _ := slot_of (a := ⟨tm, []⟩) hw4
    have r0 := hp.cell0
    have r1 := hp.cell1
    have r2 := hm.cell0
    have r3 := hm.cell1
    have HN := Lib.hid (And.intro (hR.own.mono HB.out) hR.bel)
    clear hp hgood hR hm
    go_wp2_with fail
    refine bodyPost_ret (v := .tuple #[.agg #[.slice a1 n1 c1, .slice a2 n2 c2], .agg #[.int .i64 s, .string S]]) (by simp [results, Try.results17, go_sem, r0, r1, r2, r3, hw3, hw5]) rfl ⟨_, l, s, S, rfl, hz, HN.out.1, hl1, hl2, HN.out.2⟩

end Go.Proofs.Ytpofkfcjnhoamaa
