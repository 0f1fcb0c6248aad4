/-
  The drawn notes: at most 33 of them. For codes of at most 1048576 bytes.
-/
import Derived.Test.YtilkphehonilbaaDrawF
import Derived.Test.YtilkphehonilbaaNtsL
namespace Go.Proofs.Ytilkphehonilbaa
open Go.RowKit Go.Sort

/-- What the drawn notes keep. -/
def DrawnNote (m : Mv) : Prop := -1 ≤ m.1 ∧ m.1 ≤ 2001 ∧ m.2.size ≤ 2
def DrawnNotes (B : Nat) (w : World) (g P : Nat) (e : Ending) (w' : World) : Prop :=
  ∃ (v : Value) (ns : List Mv) (q : Nat), e = .returned v ∧ OwnN w' w.heap.size v ns ∧ ns.length ≤ 33 ∧ (∀ m, m ∈ ns → DrawnNote m) ∧ Rdr w' g q ∧ q ≤ P ∧ Below B w w'

theorem own_pickN {w w' : World} {base g : Nat} {v : Value} {ns : List Mv} (h : OwnN w base v ns) (k : w.grownBy w' (some g)) (hg : g < base) : OwnN w' base v ns := by
  refine Ow.kept h k ?_
  cases e : v.ownBlock with
  | none => exact .inl rfl
  | some c =>
    have := (World.ownsRow.lt h c e).1
    exact .inr (fun q => by simp only [Option.some.injEq] at q; omega)
theorem note_part {T : ByteArray} {k : Nat} (h : k < T.size) (w : World) : (Instr.slice 9 (.string T) (some (.int .i64 k)) (some (.int .i64 ((k : Int) + 1))) none).run Try.prog w = .ok (.string (T.extract k (k + 1))) w := by
  rw [run_slice_string _ _ _ _ _ _ _ Try.underlying9 (by omega) (by omega) (by omega)]
  have e1 : (k : Int).toNat = k := by omega
  have e2 : ((k : Int) + 1).toNat = k + 1 := by omega
  rw [e1, e2]
theorem nts_add {w : World} {base : Nat} {v : Value} {ms : List Mv} {m : Mv} (h : w.ownsRow base 42 2 v (ms.length + 1) ((List.range (ms.length * 2)).map (mvF ms) ++ [.int .i64 m.1, .string m.2])) : OwnN w base v (ms ++ [m]) := by
  unfold OwnN Ow
  rw [mvF_append, List.length_append]
  exact h
theorem lit_two_g (U : World) (x y : Value) (t : TypeId) : ∀ (j : Nat) (u : Value), [x, y][j]? = some u → (U.alloc (.cells #[x, y] t)).cell? ((⟨U.heap.size, 0, none⟩ : Addr).add j) = some u := by
  intro j u hu
  have p := Pair.new U x y t
  match j, hu with
  | 0, hu => simp at hu; subst hu; rw [Addr.add_lit]; exact p.cell0
  | 1, hu => simp at hu; subst hu; rw [Addr.add_lit]; exact p.cell1
  | j + 2, hu => simp at hu
theorem drawn_more {ns : List Mv} {m : Mv} (h : ∀ x, x ∈ ns → DrawnNote x) (k : DrawnNote m) : ∀ x, x ∈ ns ++ [m] → DrawnNote x := fun x hx => by
  rcases List.mem_append.1 hx with q | q
  · exact h x q
  · rw [List.mem_singleton.1 q]; exact k
theorem own_setM {w : World} {base ga cap : Nat} {ns : List Mv} (h : OwnN w base (.slice (some ⟨ga, 0, none⟩) ns.length cap) ns) (hp : 0 < ns.length) (x : Int) :
    OwnN (w.setCell ⟨ga, 0, none⟩ (.int .i64 x)) base (.slice (some ⟨ga, 0, none⟩) ns.length cap) (ns.set 0 (x, (ns.getD 0 noMv).2)) ∧ w.grownBy (w.setCell ⟨ga, 0, none⟩ (.int .i64 x)) (some ga) := by
  obtain ⟨S1, G1⟩ := Ow.set h 0 (.int .i64 x)
  refine ⟨?_, G1⟩
  unfold OwnN
  rw [List.length_set]
  refine S1.congr fun q _ => ?_
  cases ns with
  | nil => simp at hp
  | cons y r =>
    by_cases e : q = 0
    · subst e; rfl
    · rw [if_neg e]
      unfold mvF
      match q, e with
      | 1, _ => rfl
      | q + 2, _ => rw [show (q + 2) / 2 = q / 2 + 1 by omega]; rfl
theorem own_setL {w : World} {base ga cap : Nat} {ns : List Mv} (h : OwnN w base (.slice (some ⟨ga, 0, none⟩) ns.length cap) ns) (hp : 0 < ns.length) (s : ByteArray) :
    OwnN (w.setCell ⟨ga, 1, none⟩ (.string s)) base (.slice (some ⟨ga, 0, none⟩) ns.length cap) (ns.set 0 ((ns.getD 0 noMv).1, s)) ∧ w.grownBy (w.setCell ⟨ga, 1, none⟩ (.string s)) (some ga) := by
  obtain ⟨S1, G1⟩ := Ow.set h 1 (.string s)
  refine ⟨?_, G1⟩
  unfold OwnN
  rw [List.length_set]
  refine S1.congr fun q _ => ?_
  cases ns with
  | nil => simp at hp
  | cons y r =>
    by_cases e : q = 1
    · subst e; rfl
    · rw [if_neg e]
      unfold mvF
      match q, e with
      | 0, _ => rfl
      | q + 2, _ => rw [show (q + 2) / 2 = q / 2 + 1 by omega]; rfl
theorem drawn_set {ns : List Mv} {m : Mv} (h : ∀ x, x ∈ ns → DrawnNote x) (k : DrawnNote m) : ∀ x, x ∈ ns.set 0 m → DrawnNote x := fun x hx => by
  rcases List.mem_or_eq_of_mem_set hx with q | q
  · exact h x q
  · rw [q]; exact k
theorem drawn_first {ns : List Mv} (h : ∀ x, x ∈ ns → DrawnNote x) (hp : 0 < ns.length) : DrawnNote (ns.getD 0 noMv) := by
  cases ns with
  | nil => simp at hp
  | cons y r => exact h y (List.mem_cons_self ..)
theorem lit_minutes (U : World) (j : Nat) (hj : j < 2) : ∃ x : Int, (-1 ≤ x ∧ x ≤ 2001) ∧ (U.alloc (.cells #[.int .i64 (-1), .int .i64 2001] 3)).cell? ⟨U.heap.size, j, none⟩ = some (.int .i64 x) := by
  have p := Pair.new U (.int .i64 (-1)) (.int .i64 2001) 3
  match j, hj with
  | 0, _ => exact ⟨-1, ⟨by omega, by omega⟩, p.cell0⟩
  | 1, _ => exact ⟨2001, ⟨by omega, by omega⟩, p.cell1⟩

set_option maxHeartbeats 8000000 in
set_option maxRecDepth 100000 in
theorem drawNotes {w : World} {g p B : Nat} (h : Rdr w g p) (hp : p ≤ 300) (hB : B ≤ g) :
    Calls Try.prog 28 #[.pointer (some ⟨g, 0, none⟩)] w (DrawnNotes B w g (p + 100)) := by
  obtain ⟨j0, hj, hy0, hy1, hy2⟩ := info_parts info_note
  have hgw := h.lt
  have GW := Lib.hid hgw
  go_enter Try.func28, Try.ntmps28
  go_wp2_with (go_at_call 40; refine (brokenText h (by omega) hB).mono ?_; rintro e w1 ⟨S, q, rfl, hS, hr, hq, b1⟩; have R1 := Lib.hid hr; have B1 := Lib.hid b1; have hg1 := hr.lt; clear hr b1)
  have o0 := ow_empty w1 42 2 (mvF [])
  have q0 := below_alloc w1 (.cells #[] 42)
  have r0 := Rdr.below R1.out q0 hg1
  obtain ⟨W, hW⟩ : ∃ W, W = w1.alloc (.cells #[] 42) := ⟨_, rfl⟩
  rw [← hW] at o0 q0 r0 ⊢
  have O0 := Lib.hid (show OwnN W w.heap.size _ [] from Ow.mono o0 B1.out.size)
  have Q0 := Lib.hid (B1.out.trans (q0.mono (by have := B1.out.size; omega)))
  have R0 := Lib.hid r0
  have hBW : B ≤ W.heap.size := Nat.le_trans (by omega) Q0.out.size
  have WW := Lib.hid (show w.heap.size ≤ W.heap.size from Nat.le_trans B1.out.size q0.size)
  clear hW o0 q0 r0 B1 R1 hg1
  refine (pick R0.out (by omega) (by omega) (by omega)).mono ?_
  rintro e w2 ⟨t0, rfl, ht0, ht1, hr, g2⟩
  have ht2 := ht1 (by omega)
  have O1 := Lib.hid (own_pickN O0.out g2 hgw)
  have R2 := Lib.hid hr
  have B2 := Lib.hid (Below.pick Q0.out hBW hB g2)
  have W2 := Lib.hid (Nat.le_trans WW.out g2.size)
  clear hr g2 ht1 O0 R0 Q0 WW hBW
  go_wp2_with fail
  go_loopw [4, 5, 6] (fun v t i wr => ∃ (k : Nat) (ns : List Mv) (T : Int) (q' : Nat), k ≤ S.size ∧ i = .int .i64 k ∧ t = .int .i64 T ∧ 0 ≤ T ∧ T ≤ 60 + 4 * k ∧ q' ≤ p + 61 + k ∧ ns.length = k ∧ Hid (OwnN wr w.heap.size v ns) ∧ Hid (∀ m, m ∈ ns → DrawnNote m) ∧ Hid (Rdr wr g q') ∧ Hid (Below B w wr) ∧ Hid (w.heap.size ≤ wr.heap.size)) (fun _ _ i _ => S.size - (intOf i).toNat)
  case atStart => exact ⟨0, [], t0, q + 1, by omega, rfl, rfl, ht0, by omega, by omega, rfl, O1, Lib.hid (fun m hm => by cases hm), R2, B2, W2⟩
  case round =>
    obtain ⟨k, ns, T, q', hk, rfl, rfl, hT0, hT1, hq', hn, HO, HD, HR, HB, HW⟩ := hrel
    obtain ⟨a, c, hv⟩ := Ow.slice HO.out
    subst hv
    have hn' : (ns.length : Int) = k := by omega
    have NL := Lib.hid hn
    by_cases hlt : k < S.size
    · have hki : (k : Int) < (S.size : Int) := by omega
      clear hn hn'
      have hx : (S.extract k (k + 1)).size ≤ 2 := by rw [ByteArray.size_extract]; omega
      have hsl := fun w => note_part (T := S) (k := k) hlt w
      obtain ⟨X, hX⟩ : ∃ X, X = S.extract k (k + 1) := ⟨_, rfl⟩
      rw [← hX] at hx hsl
      have NB := Lib.hid (show k ≤ 33 by omega)
      clear hX
      go_wp2_with (first
        | (go_at_call 21; refine (pick HR.out (by omega) (by omega) (by omega)).mono ?_; rintro e w3 ⟨r, rfl, hr0, hr1, hr, g3⟩; have hr2 := hr1 (by omega); have HO3 := Lib.hid (own_pickN HO.out g3 GW.out); have R3 := Lib.hid hr; have B3 := Lib.hid (Below.pick HB.out (by have := HW.out; have := GW.out; omega) hB g3); have W3 := Lib.hid (Nat.le_trans HW.out g3.size); clear hr g3 hr1)
        | (at_builtin; refine wpList_append_own _ rfl _ _ 23 rfl w.heap.size 42 j0 (.agg #[.int .i64 0, .string ⟨#[]⟩]) 2 24 Try.underlying23 hj hy0 hy1 hy2 rfl (by decide) _ _ _ rfl (World.ownsRow.alloc HO3.out _) ⟨w3.heap.size, 0, none⟩ 1 1 [.int .i64 (T + r), .string X] rfl rfl (lit_two_g _ _ _ _) (by intro u hu; simp at hu; rcases hu with rfl | rfl <;> rfl) (by have := NL.out; have := NB.out; simp only [maxLen]; omega) (by have := NL.out; have := NB.out; omega) (by have := W3.out; simp; omega) ?_))
      intro v5 w5 hown5 hgrow5 _
      have al5 := below_alloc w3 (.cells #[.int .i64 (T + r), .string X] 42)
      have OA := World.ownsRow.alloc HO3.out (.cells #[.int .i64 (T + r), .string X] 42)
      have V5 := Lib.hid (show OwnN w5 w.heap.size v5 (ns ++ [(T + r, X)]) from nts_add hown5)
      have g3 : B ≤ w3.heap.size := by have := W3.out; have := GW.out; omega
      have R5 := Lib.hid ((Rdr.below R3.out al5 (by have := W3.out; have := GW.out; omega)).grown hgrow5 (fun b hb => Nat.lt_of_lt_of_le GW.out (World.ownsRow.lt OA b hb).1))
      have B5 := Lib.hid ((B3.out.trans (al5.mono g3)).grown hgrow5 (Nat.le_trans g3 al5.size) (fun b hb => Nat.le_trans (by have := GW.out; omega) (World.ownsRow.lt OA b hb).1))
      have W5 := Lib.hid (Nat.le_trans W3.out (Nat.le_trans al5.size hgrow5.size))
      have D5 := Lib.hid (drawn_more HD.out (m := (T + r, X)) ⟨by simp only; omega, by simp only; have := NB.out; omega, hx⟩)
      have N5 := Lib.hid (show (ns ++ [(T + r, X)]).length = k + 1 by rw [List.length_append, NL.out]; rfl)
      clear hown5 hgrow5 al5 OA g3 hx hsl
      go_wp2_with fail
      go_roundw
      case rel => exact ⟨k + 1, ns ++ [(T + r, X)], T + r, q' + 1, by omega, by go_num, rfl, by omega, by omega, by omega, N5.out, V5, D5, R5, B5, W5⟩
      case measure => simp [intOf]; omega
    · have hge : (S.size : Int) ≤ (k : Int) := by omega
      by_cases h0 : k = 0
      · have hz : ¬ (0 : Int) < (ns.length : Int) := by omega
        clear hn hn'
        go_wp2_with fail
        go_ret
        exact ⟨_, ns, q', rfl, HO.out, by have := NL.out; omega, HD.out, HR.out, by omega, HB.out⟩
      · have hz : (0 : Int) < (ns.length : Int) := by omega
        have hpos : 0 < ns.length := by omega
        rcases HO.out.shape with ⟨e, h1⟩ | ⟨ga, cap, e, hbg, hgg, hnc⟩
        · omega
        simp only [Value.slice.injEq] at e
        obtain ⟨rfl, -, rfl⟩ := e
        have POS := Lib.hid hpos
        have HGA := Lib.hid hbg
        clear hn hn' hpos hbg hgg hnc h0
        go_wp2_with (go_at_call 21; refine (pick HR.out (by omega) (by omega) (by omega)).mono ?_; rintro e w3 ⟨r, rfl, hr0, hr1, hr, g3⟩; have HO3 := Lib.hid (own_pickN HO.out g3 GW.out); have R3 := Lib.hid hr; have B3 := Lib.hid (Below.pick HB.out (by have := HW.out; have := GW.out; omega) hB g3); have W3 := Lib.hid (Nat.le_trans HW.out g3.size); clear hr g3 hr1)
        · have al := below_alloc w3 (.cells #[.int .i64 (-1), .int .i64 2001] 3)
          have r4 := Rdr.below R3.out al (by have := W3.out; have := GW.out; omega)
          have LM := Lib.hid (fun (j : Nat) (hj : j < 2) => lit_minutes w3 j hj)
          have O4 := Lib.hid (HO3.out.below al)
          have g4 : B ≤ w3.heap.size := by have := W3.out; have := GW.out; omega
          have B4 := Lib.hid (B3.out.trans (al.mono g4))
          have S4 := Lib.hid al.size
          obtain ⟨X, hX⟩ : ∃ X, X = w3.alloc (.cells #[.int .i64 (-1), .int .i64 2001] 3) := ⟨_, rfl⟩
          have lt4 := Lib.hid (show w3.heap.size < X.heap.size by rw [hX]; simp)
          rw [← hX] at r4 LM O4 B4 S4 ⊢
          clear hX al
          refine (pick r4 (by omega) (by omega) (by omega)).mono ?_
          rintro e w5 ⟨j', rfl, hj0, hj1, hr, g5⟩
          have hj2 := hj1 (by omega)
          obtain ⟨j, rfl⟩ : ∃ j : Nat, j' = j := ⟨j'.toNat, by omega⟩
          obtain ⟨x, hx, cx⟩ := LM.out j (by omega)
          have gne : w3.heap.size ≠ g := by have := W3.out; have := GW.out; omega
          have cx5 := (World.cell?_of_block (a := ⟨w3.heap.size, j, none⟩) (g5.block w3.heap.size lt4.out (fun e => gne (by simpa using e)))).trans cx
          have O5 := Lib.hid (own_pickN O4.out g5 GW.out)
          have B5 := Lib.hid (Below.pick B4.out (Nat.le_trans g4 S4.out) hB g5)
          have W5 := Lib.hid (Nat.le_trans W3.out (Nat.le_trans S4.out g5.size))
          have R5 := Lib.hid hr
          have X0 := O5.out.cell (q := 0) (by have := POS.out; omega)
          have F0 := O5.out.frozen 0
          have O6 := Lib.hid (own_setM O5.out POS.out x)
          have cx6 : w5.cell? ⟨w3.heap.size, 0 + j, none⟩ = some (.int .i64 x) := by rw [Nat.zero_add]; exact cx5
          clear hr g5 hj1 cx gne r4 g4
          go_wp2_with fail
          go_ret
          exact ⟨_, ns.set 0 (x, (ns.getD 0 noMv).2), _, rfl, O6.out.1, by rw [List.length_set]; have := NL.out; omega, drawn_set HD.out ⟨hx.1, hx.2, (drawn_first HD.out POS.out).2.2⟩, R5.out.grown O6.out.2 (fun b hb => by simp only [Option.some.injEq] at hb; have := HGA.out; have := GW.out; omega), by omega, B5.out.grown O6.out.2 (by have := W5.out; have := GW.out; omega) (fun b hb => by simp only [Option.some.injEq] at hb; have := HGA.out; have := GW.out; omega)⟩
        · have al := below_alloc w3 (.cells #[.string ⟨#[]⟩, .string ⟨#[120]⟩, .string ⟨#[111, 97]⟩] 9)
          have r4 := Rdr.below R3.out al (by have := W3.out; have := GW.out; omega)
          have SH := Lib.hid (lit_shorts3 w3 ⟨#[]⟩ ⟨#[120]⟩ ⟨#[111, 97]⟩ 9 (by decide) (by decide) (by decide))
          have O4 := Lib.hid (HO3.out.below al)
          have g4 : B ≤ w3.heap.size := by have := W3.out; have := GW.out; omega
          have B4 := Lib.hid (B3.out.trans (al.mono g4))
          have S4 := Lib.hid al.size
          have gne : w3.heap.size ≠ g := by have := W3.out; have := GW.out; omega
          obtain ⟨X, hX⟩ : ∃ X, X = w3.alloc (.cells #[.string ⟨#[]⟩, .string ⟨#[120]⟩, .string ⟨#[111, 97]⟩] 9) := ⟨_, rfl⟩
          rw [← hX] at r4 SH O4 B4 S4 ⊢
          clear hX al
          refine (ofRd r4 SH.out (by omega) (by omega) (by omega) (fun b o k c e => by simp only [Value.slice.injEq, Option.some.injEq, Addr.mk.injEq] at e; omega)).mono ?_
          rintro e w5 ⟨s, rfl, hs, hr, g5⟩
          have O5 := Lib.hid (own_pickN O4.out g5 GW.out)
          have B5 := Lib.hid (Below.pick B4.out (Nat.le_trans g4 S4.out) hB g5)
          have W5 := Lib.hid (Nat.le_trans W3.out (Nat.le_trans S4.out g5.size))
          have R5 := Lib.hid hr
          have X0 := O5.out.cell (q := 1) (by have := POS.out; omega)
          have F0 := O5.out.frozen 1
          have O6 := Lib.hid (own_setL O5.out POS.out s)
          clear hr g5 gne r4 g4
          go_wp2_with fail
          go_ret
          exact ⟨_, ns.set 0 ((ns.getD 0 noMv).1, s), _, rfl, O6.out.1, by rw [List.length_set]; have := NL.out; omega, drawn_set HD.out ⟨(drawn_first HD.out POS.out).1, (drawn_first HD.out POS.out).2.1, hs⟩, R5.out.grown O6.out.2 (fun b hb => by simp only [Option.some.injEq] at hb; have := HGA.out; have := GW.out; omega), by omega, B5.out.grown O6.out.2 (by have := W5.out; have := GW.out; omega) (fun b hb => by simp only [Option.some.injEq] at hb; have := HGA.out; have := GW.out; omega)⟩
        · go_ret
          exact ⟨_, ns, q' + 1, rfl, HO3.out, by have := NL.out; omega, HD.out, R3.out, by omega, B3.out⟩

/-- A drawn list of notes, and nothing more. -/
def OneNotes (w : World) (e : Ending) (w' : World) : Prop :=
  ∃ (v : Value) (ns : List Mv), e = .returned v ∧ OwnN w' w.heap.size v ns ∧ ns.length ≤ 33 ∧ (∀ m, m ∈ ns → DrawnNote m) ∧ Below w.heap.size w w'

end Go.Proofs.Ytilkphehonilbaa
