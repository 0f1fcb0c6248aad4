/-
  Drawn notes once more, where all but the reader stands that was there before. For codes of at most 1048576 bytes.
-/
import Derived.Test.YtilkphehonilbaaDrawG
namespace Go.Proofs.Ytilkphehonilbaa
open Go.RowKit Go.Sort

theorem gg1 {w0 w w' : World} {g : Nat} (h : w0.grownBy w (some g)) (k : w.grownBy w' (some g)) : w0.grownBy w' (some g) :=
  ⟨k.os.trans h.os, k.tape.trans h.tape, k.output.trans h.output, Nat.le_trans h.size k.size, fun i hi hne => (k.block i (Nat.lt_of_lt_of_le hi h.size) hne).trans (h.block i hi hne)⟩
theorem gg2 {w w1 w2 : World} {row r2 : Option Nat} (h : w.grownBy w1 row) (k : w1.grownBy w2 r2) (hr : ∀ b, r2 = some b → w.heap.size ≤ b) : w.grownBy w2 row :=
  ⟨k.os.trans h.os, k.tape.trans h.tape, k.output.trans h.output, Nat.le_trans h.size k.size, fun i hi hne => (k.block i (Nat.lt_of_lt_of_le hi h.size) (fun e => by have := hr i e.symm; omega)).trans (h.block i hi hne)⟩
def DrawnNotesG (w : World) (g P : Nat) (e : Ending) (w' : World) : Prop :=
  ∃ (v : Value) (ns : List Mv) (q : Nat), e = .returned v ∧ OwnN w' w.heap.size v ns ∧ ns.length ≤ 33 ∧ (∀ m, m ∈ ns → DrawnNote m) ∧ Rdr w' g q ∧ q ≤ P ∧ w.grownBy w' (some g)

set_option maxHeartbeats 2000000 in
theorem legalG {w : World} {g p : Nat} (h : Rdr w g p) (hp : p ≤ 500) :
    Calls Try.prog 49 #[.pointer (some ⟨g, 0, none⟩)] w (DrawnTextG w g (p + 50) 33) := by
  have hgw := h.lt
  go_enter Try.func49, Try.ntmps49
  go_wp2_with (go_at_call 21; refine (pick h (by omega) (by omega) (by omega)).mono ?_)
  rintro e w1 ⟨r, rfl, hr0, hr1, hr, g1⟩
  have B1 := Lib.hid (g1)
  have R1 := Lib.hid hr
  have hs1 : w.heap.size ≤ w1.heap.size := g1.size
  clear hr hr1 g1
  by_cases h0 : r = 0
  · subst h0
    go_wp2_with (go_at_call 56; refine (eventsG R1.out (by omega) nb 31 (by omega)).mono ?_)
    rintro e w2 ⟨S, q, rfl, hS, hr, hq, b2⟩
    go_wp2_with fail
    go_ret
    exact ⟨S, q, rfl, hS, hr, by omega, gg1 B1.out b2⟩
  · have t0 : (r == 0) = false := by simpa using h0
    go_wp2_with (go_at_call 21; refine (pick R1.out (by omega) (by omega) (by omega)).mono ?_)
    rintro e w2 ⟨r2, rfl, hr0', hr1, hr, g2⟩
    have hr1' := hr1 (by omega)
    have B2 := Lib.hid (gg1 B1.out g2)
    have R2 := Lib.hid hr
    clear hr hr1 g2
    go_wp2_with (go_at_call 56; refine (eventsG R2.out (by omega) nb r2 (by omega)).mono ?_)
    rintro e w3 ⟨S, q, rfl, hS, hr, hq, b3⟩
    go_wp2_with fail
    go_ret
    exact ⟨S, q, rfl, hS, hr, by omega, gg1 B2.out b3⟩

set_option maxHeartbeats 4000000 in
theorem brokenG {w : World} {g p : Nat} (h : Rdr w g p) (hp : p ≤ 400) :
    Calls Try.prog 40 #[.pointer (some ⟨g, 0, none⟩)] w (DrawnTextG w g (p + 60) 33) := by
  have hgw := h.lt
  go_enter Try.func40, Try.ntmps40
  go_wp2_with (go_at_call 49; refine (legalG h (by omega)).mono ?_)
  rintro e w1 ⟨S, q, rfl, hS, hr, hq, b1⟩
  have R1 := Lib.hid hr
  have B1 := Lib.hid b1
  have hg1 := hr.lt
  clear hr b1
  by_cases hz : S.size = 0
  · have hz1 : ¬ (0 : Int) < (S.size : Int) := by omega
    clear hz
    go_wp2_with fail
    go_ret
    exact ⟨S, q, rfl, by omega, R1.out, by omega, B1.out⟩
  · have hz1 : (0 : Int) < (S.size : Int) := by omega
    go_wp2_with (go_at_call 21; refine (pick R1.out (by omega) (by omega) (by omega)).mono ?_)
    rintro e w2 ⟨r, rfl, hr0, hr1, hr, g2⟩
    have R2 := Lib.hid hr
    have B2 := Lib.hid (gg1 B1.out g2)
    have hg2 := hr.lt
    clear hr g2 hr1
    by_cases h0 : 0 < r
    · go_wp2_with (go_at_call 21; refine (pick R2.out (by omega) (by omega) (by omega)).mono ?_)
      rintro e w3 ⟨j', rfl, hj0, hj1, hr, g3⟩
      have hj1' := hj1 (by omega)
      obtain ⟨j, rfl⟩ : ∃ j : Nat, j' = j := ⟨j'.toNat, by omega⟩
      have R3 := Lib.hid hr
      have B3 := Lib.hid (gg1 B2.out g3)
      have hg3 := hr.lt
      clear hr g3 hj1
      obtain ⟨A, hA⟩ : ∃ A, A = S.extract 0 j := ⟨_, rfl⟩
      obtain ⟨T, hT⟩ : ∃ B, B = S.extract (j + 1) S.size := ⟨_, rfl⟩
      obtain ⟨C, hC⟩ : ∃ C, C = A ++ T := ⟨_, rfl⟩
      have hAs : A.size ≤ j := by rw [hA, ByteArray.size_extract]; omega
      have hTs : T.size ≤ S.size - (j + 1) := by rw [hT, ByteArray.size_extract]; omega
      have hCs : C.size ≤ 33 := by rw [hC, ByteArray.size_append]; omega
      have p1 := part_to (S := S) (k := j) (by omega)
      have p2 : ∀ w, (Instr.slice 9 (.string S) (some (.int .i64 ((j : Int) + 1))) none none).run Try.prog w = .ok (.string T) w := by
        intro w
        have := part_from (S := S) (k := j + 1) (by omega) w
        rw [hT]
        exact this
      have p4 : ∀ w, (Op.stringOp .add A T).run Try.prog w = .ok (.string (A ++ T)) w := fun w => run_string_add_sum (P := Try.prog) w A T (by omega)
      rw [← hA] at p1
      rw [← hC] at p4
      have hw1 : IntKind.i64.wrap ((j : Int) + 1) = (j : Int) + 1 := IntWalk.i64_in _ (by omega)
      clear hA hT hC hAs hTs
      go_wp2_with fail
      refine wp_region_quiet_below (by kernel_rfl) (by kernel_rfl) ?_
      repeat (go_big_quiet_step (fail))
      refine wpQuiet_nil ?_
      intro _ hw'
      obtain ⟨⟨dq, osq⟩, hw''⟩ := hw'
      subst hw''
      have br := below_regrown w3 dq osq
      go_wp2_with fail
      go_ret
      exact ⟨C, q + 1 + 1, rfl, hCs, R3.out.below br hg3, by omega, ggt B3.out br B3.out.size⟩
    · go_wp2_with fail
      go_ret
      exact ⟨S, q + 1, rfl, by omega, R2.out, by omega, B2.out⟩

set_option maxHeartbeats 8000000 in
set_option maxRecDepth 100000 in
theorem drawNotesG {w : World} {g p : Nat} (h : Rdr w g p) (hp : p ≤ 300) :
    Calls Try.prog 28 #[.pointer (some ⟨g, 0, none⟩)] w (DrawnNotesG w g (p + 100)) := by
  obtain ⟨j0, hj, hy0, hy1, hy2⟩ := info_parts info_note
  have hgw := h.lt
  have GW := Lib.hid hgw
  go_enter Try.func28, Try.ntmps28
  go_wp2_with (go_at_call 40; refine (brokenG h (by omega)).mono ?_; rintro e w1 ⟨S, q, rfl, hS, hr, hq, b1⟩; have R1 := Lib.hid hr; have B1 := Lib.hid b1; have hg1 := hr.lt; clear hr b1)
  have o0 := ow_empty w1 42 2 (mvF [])
  have q0 := below_alloc w1 (.cells #[] 42)
  have r0 := Rdr.below R1.out q0 hg1
  obtain ⟨W, hW⟩ : ∃ W, W = w1.alloc (.cells #[] 42) := ⟨_, rfl⟩
  rw [← hW] at o0 q0 r0 ⊢
  have O0 := Lib.hid (show OwnN W w.heap.size _ [] from Ow.mono o0 B1.out.size)
  have Q0 := Lib.hid (ggt B1.out q0 B1.out.size)
  have R0 := Lib.hid r0
  have WW := Lib.hid (show w.heap.size ≤ W.heap.size from Nat.le_trans B1.out.size q0.size)
  clear hW o0 q0 r0 B1 R1 hg1
  refine (pick R0.out (by omega) (by omega) (by omega)).mono ?_
  rintro e w2 ⟨t0, rfl, ht0, ht1, hr, g2⟩
  have ht2 := ht1 (by omega)
  have O1 := Lib.hid (own_pickN O0.out g2 hgw)
  have R2 := Lib.hid hr
  have B2 := Lib.hid (gg1 Q0.out g2)
  have W2 := Lib.hid (Nat.le_trans WW.out g2.size)
  clear hr g2 ht1 O0 R0 Q0 WW
  go_wp2_with fail
  go_loopw [4, 5, 6] (fun v t i wr => ∃ (k : Nat) (ns : List Mv) (T : Int) (q' : Nat), k ≤ S.size ∧ i = .int .i64 k ∧ t = .int .i64 T ∧ 0 ≤ T ∧ T ≤ 60 + 4 * k ∧ q' ≤ p + 61 + k ∧ ns.length = k ∧ Hid (OwnN wr w.heap.size v ns) ∧ Hid (∀ m, m ∈ ns → DrawnNote m) ∧ Hid (Rdr wr g q') ∧ Hid (w.grownBy wr (some g)) ∧ Hid (w.heap.size ≤ wr.heap.size)) (fun _ _ i _ => S.size - (intOf i).toNat)
  case atStart => exact ⟨0, [], t0, q + 1, by omega, rfl, rfl, ht0, by omega, by omega, rfl, O1, Lib.hid (fun m hm => by cases hm), R2, B2, W2⟩
  case round =>
    obtain ⟨k, ns, T, q', hk, rfl, rfl, hT0, hT1, hq', hn, HO, HD, HR, HB, HW⟩ := hrel
    obtain ⟨a, c, hv⟩ := Ow.slice HO.out
    subst hv
    have hn' : (ns.length : Int) = k := by omega
    have NL := Lib.hid hn
    by_cases hlt : k < S.size
    · have hki : (k : Int) < (S.size : Int) := by omega
      clear hn hn'
      have hx : (S.extract k (k + 1)).size ≤ 2 := by rw [ByteArray.size_extract]; omega
      have hsl := fun w => note_part (T := S) (k := k) hlt w
      obtain ⟨X, hX⟩ : ∃ X, X = S.extract k (k + 1) := ⟨_, rfl⟩
      rw [← hX] at hx hsl
      have NB := Lib.hid (show k ≤ 33 by omega)
      clear hX
      go_wp2_with (first
        | (go_at_call 21; refine (pick HR.out (by omega) (by omega) (by omega)).mono ?_; rintro e w3 ⟨r, rfl, hr0, hr1, hr, g3⟩; have hr2 := hr1 (by omega); have HO3 := Lib.hid (own_pickN HO.out g3 GW.out); have R3 := Lib.hid hr; have B3 := Lib.hid (gg1 HB.out g3); have W3 := Lib.hid (Nat.le_trans HW.out g3.size); clear hr g3 hr1)
        | (at_builtin; refine wpList_append_own _ rfl _ _ 23 rfl w.heap.size 42 j0 (.agg #[.int .i64 0, .string ⟨#[]⟩]) 2 24 Try.underlying23 hj hy0 hy1 hy2 rfl (by decide) _ _ _ rfl (World.ownsRow.alloc HO3.out _) ⟨w3.heap.size, 0, none⟩ 1 1 [.int .i64 (T + r), .string X] rfl rfl (lit_two_g _ _ _ _) (by intro u hu; simp at hu; rcases hu with rfl | rfl <;> rfl) (by have := NL.out; have := NB.out; simp only [maxLen]; omega) (by have := NL.out; have := NB.out; omega) (by have := W3.out; simp; omega) ?_))
      intro v5 w5 hown5 hgrow5 _
      have al5 := below_alloc w3 (.cells #[.int .i64 (T + r), .string X] 42)
      have OA := World.ownsRow.alloc HO3.out (.cells #[.int .i64 (T + r), .string X] 42)
      have V5 := Lib.hid (show OwnN w5 w.heap.size v5 (ns ++ [(T + r, X)]) from nts_add hown5)
      have g3 : w.heap.size ≤ w3.heap.size := W3.out
      have R5 := Lib.hid ((Rdr.below R3.out al5 (by have := W3.out; have := GW.out; omega)).grown hgrow5 (fun b hb => Nat.lt_of_lt_of_le GW.out (World.ownsRow.lt OA b hb).1))
      have B5 := Lib.hid (gg2 (ggt B3.out al5 W3.out) hgrow5 (fun b hb => (World.ownsRow.lt OA b hb).1))
      have W5 := Lib.hid (Nat.le_trans W3.out (Nat.le_trans al5.size hgrow5.size))
      have D5 := Lib.hid (drawn_more HD.out (m := (T + r, X)) ⟨by simp only; omega, by simp only; have := NB.out; omega, hx⟩)
      have N5 := Lib.hid (show (ns ++ [(T + r, X)]).length = k + 1 by rw [List.length_append, NL.out]; rfl)
      clear hown5 hgrow5 al5 OA g3 hx hsl
      go_wp2_with fail
      go_roundw
      case rel => exact ⟨k + 1, ns ++ [(T + r, X)], T + r, q' + 1, by omega, by go_num, rfl, by omega, by omega, by omega, N5.out, V5, D5, R5, B5, W5⟩
      case measure => simp [intOf]; omega
    · have hge : (S.size : Int) ≤ (k : Int) := by omega
      by_cases h0 : k = 0
      · have hz : ¬ (0 : Int) < (ns.length : Int) := by omega
        clear hn hn'
        go_wp2_with fail
        go_ret
        exact ⟨_, ns, q', rfl, HO.out, by have := NL.out; omega, HD.out, HR.out, by omega, HB.out⟩
      · have hz : (0 : Int) < (ns.length : Int) := by omega
        have hpos : 0 < ns.length := by omega
        rcases HO.out.shape with ⟨e, h1⟩ | ⟨ga, cap, e, hbg, hgg, hnc⟩
        · omega
        simp only [Value.slice.injEq] at e
        obtain ⟨rfl, -, rfl⟩ := e
        have POS := Lib.hid hpos
        have HGA := Lib.hid hbg
        clear hn hn' hpos hbg hgg hnc h0
        go_wp2_with (go_at_call 21; refine (pick HR.out (by omega) (by omega) (by omega)).mono ?_; rintro e w3 ⟨r, rfl, hr0, hr1, hr, g3⟩; have HO3 := Lib.hid (own_pickN HO.out g3 GW.out); have R3 := Lib.hid hr; have B3 := Lib.hid (gg1 HB.out g3); have W3 := Lib.hid (Nat.le_trans HW.out g3.size); clear hr g3 hr1)
        · have al := below_alloc w3 (.cells #[.int .i64 (-1), .int .i64 2001] 3)
          have r4 := Rdr.below R3.out al (by have := W3.out; have := GW.out; omega)
          have LM := Lib.hid (fun (j : Nat) (hj : j < 2) => lit_minutes w3 j hj)
          have O4 := Lib.hid (HO3.out.below al)
          have g4 : w.heap.size ≤ w3.heap.size := W3.out
          have B4 := Lib.hid (ggt B3.out al W3.out)
          have S4 := Lib.hid al.size
          obtain ⟨X, hX⟩ : ∃ X, X = w3.alloc (.cells #[.int .i64 (-1), .int .i64 2001] 3) := ⟨_, rfl⟩
          have lt4 := Lib.hid (show w3.heap.size < X.heap.size by rw [hX]; simp)
          rw [← hX] at r4 LM O4 B4 S4 ⊢
          clear hX al
          refine (pick r4 (by omega) (by omega) (by omega)).mono ?_
          rintro e w5 ⟨j', rfl, hj0, hj1, hr, g5⟩
          have hj2 := hj1 (by omega)
          obtain ⟨j, rfl⟩ : ∃ j : Nat, j' = j := ⟨j'.toNat, by omega⟩
          obtain ⟨x, hx, cx⟩ := LM.out j (by omega)
          have gne : w3.heap.size ≠ g := by have := W3.out; have := GW.out; omega
          have cx5 := (World.cell?_of_block (a := ⟨w3.heap.size, j, none⟩) (g5.block w3.heap.size lt4.out (fun e => gne (by simpa using e)))).trans cx
          have O5 := Lib.hid (own_pickN O4.out g5 GW.out)
          have B5 := Lib.hid (gg1 B4.out g5)
          have W5 := Lib.hid (Nat.le_trans W3.out (Nat.le_trans S4.out g5.size))
          have R5 := Lib.hid hr
          have X0 := O5.out.cell (q := 0) (by have := POS.out; omega)
          have F0 := O5.out.frozen 0
          have O6 := Lib.hid (own_setM O5.out POS.out x)
          have cx6 : w5.cell? ⟨w3.heap.size, 0 + j, none⟩ = some (.int .i64 x) := by rw [Nat.zero_add]; exact cx5
          clear hr g5 hj1 cx gne r4 g4
          go_wp2_with fail
          go_ret
          exact ⟨_, ns.set 0 (x, (ns.getD 0 noMv).2), _, rfl, O6.out.1, by rw [List.length_set]; have := NL.out; omega, drawn_set HD.out ⟨hx.1, hx.2, (drawn_first HD.out POS.out).2.2⟩, R5.out.grown O6.out.2 (fun b hb => by simp only [Option.some.injEq] at hb; have := HGA.out; have := GW.out; omega), by omega, gg2 B5.out O6.out.2 (fun b hb => by simp only [Option.some.injEq] at hb; have := HGA.out; omega)⟩
        · have al := below_alloc w3 (.cells #[.string ⟨#[]⟩, .string ⟨#[120]⟩, .string ⟨#[111, 97]⟩] 9)
          have r4 := Rdr.below R3.out al (by have := W3.out; have := GW.out; omega)
          have SH := Lib.hid (lit_shorts3 w3 ⟨#[]⟩ ⟨#[120]⟩ ⟨#[111, 97]⟩ 9 (by decide) (by decide) (by decide))
          have O4 := Lib.hid (HO3.out.below al)
          have g4 : w.heap.size ≤ w3.heap.size := W3.out
          have B4 := Lib.hid (ggt B3.out al W3.out)
          have S4 := Lib.hid al.size
          have gne : w3.heap.size ≠ g := by have := W3.out; have := GW.out; omega
          obtain ⟨X, hX⟩ : ∃ X, X = w3.alloc (.cells #[.string ⟨#[]⟩, .string ⟨#[120]⟩, .string ⟨#[111, 97]⟩] 9) := ⟨_, rfl⟩
          rw [← hX] at r4 SH O4 B4 S4 ⊢
          clear hX al
          refine (ofRd r4 SH.out (by omega) (by omega) (by omega) (fun b o k c e => by simp only [Value.slice.injEq, Option.some.injEq, Addr.mk.injEq] at e; omega)).mono ?_
          rintro e w5 ⟨s, rfl, hs, hr, g5⟩
          have O5 := Lib.hid (own_pickN O4.out g5 GW.out)
          have B5 := Lib.hid (gg1 B4.out g5)
          have W5 := Lib.hid (Nat.le_trans W3.out (Nat.le_trans S4.out g5.size))
          have R5 := Lib.hid hr
          have X0 := O5.out.cell (q := 1) (by have := POS.out; omega)
          have F0 := O5.out.frozen 1
          have O6 := Lib.hid (own_setL O5.out POS.out s)
          clear hr g5 gne r4 g4
          go_wp2_with fail
          go_ret
          exact ⟨_, ns.set 0 ((ns.getD 0 noMv).1, s), _, rfl, O6.out.1, by rw [List.length_set]; have := NL.out; omega, drawn_set HD.out ⟨(drawn_first HD.out POS.out).1, (drawn_first HD.out POS.out).2.1, hs⟩, R5.out.grown O6.out.2 (fun b hb => by simp only [Option.some.injEq] at hb; have := HGA.out; have := GW.out; omega), by omega, gg2 B5.out O6.out.2 (fun b hb => by simp only [Option.some.injEq] at hb; have := HGA.out; omega)⟩
        · go_ret
          exact ⟨_, ns, q' + 1, rfl, HO3.out, by have := NL.out; omega, HD.out, R3.out, by omega, B3.out⟩

end Go.Proofs.Ytilkphehonilbaa
