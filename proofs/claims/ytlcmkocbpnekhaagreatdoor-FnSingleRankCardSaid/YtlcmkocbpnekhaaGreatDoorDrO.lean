/-
  Drawn single lines with an order. For codes of at most 1048576 bytes.
-/
import Derived.Test.YtlcmkocbpnekhaaGreatDoorDrGs
import Derived.Test.YtlcmkocbpnekhaaGreatDoorSgN
import Derived.Deep.RegionWith
import Derived.Deep.DeepCutAuto
import Derived.Deep.RegionHeld3
namespace Go.Proofs.YtlcmkocbpnekhaaGreatDoor
open Go.RowKit Go.Sort

def DrawnTextG (w : World) (g P m : Nat) (e : Ending) (w' : World) : Prop :=
  ∃ (S : ByteArray) (q : Nat), e = .returned (.string S) ∧ S.size ≤ m ∧ Rdr w' g q ∧ q ≤ P ∧ w.grownBy w' (some g)
theorem ggt {w0 w w' : World} {g B : Nat} (h : w0.grownBy w (some g)) (k : Below B w w') (hB : w0.heap.size ≤ B) : w0.grownBy w' (some g) :=
  ⟨k.os.trans h.os, k.tape.trans h.tape, k.output.trans h.output, Nat.le_trans h.size k.size, fun i hi hne => (k.block i (by omega)).trans (h.block i hi hne)⟩
theorem ggg {w0 w w' : World} {g : Nat} (h : w0.grownBy w (some g)) (k : w.grownBy w' (some g)) : w0.grownBy w' (some g) :=
  ⟨k.os.trans h.os, k.tape.trans h.tape, k.output.trans h.output, Nat.le_trans h.size k.size, fun i hi hne => (k.block i (Nat.lt_of_lt_of_le hi h.size) hne).trans (h.block i hi hne)⟩

set_option maxHeartbeats 2000000 in
theorem drawDirsG {w : World} {g p : Nat} (h : Rdr w g p) (hp : p ≤ 500) (most : Nat) (hm : most ≤ 40) :
    Calls Tryz.prog 29 #[.pointer (some ⟨g, 0, none⟩), .int .i64 most] w (DrawnTextG w g (p + 50) 100) := by
  have hgw := h.lt
  have hmi : (most : Int) ≤ 40 := by omega
  go_enter Tryz.func29, Tryz.ntmps29
  go_wp2_with (go_at_call 28; refine (pick h (by omega) (by omega) (by omega)).mono ?_)
  rintro e w1 ⟨n, rfl, hn0, hn1, hr, g1⟩
  have hn1' := hn1 (by omega)
  have hn40 : n ≤ 40 := by omega
  have B1 := Lib.hid g1
  have R1 := Lib.hid hr
  have hs1 : w.heap.size ≤ w1.heap.size := g1.size
  clear hr hn1 g1 h
  go_wp2_with fail
  go_loopw [5, 7] (fun s i wr => ∃ (k q : Nat) (S : ByteArray), (k : Int) ≤ 40 ∧ i = .int .i64 k ∧ s = .string S ∧ S.size ≤ 2 * k ∧ q ≤ p + 1 + k ∧ Rdr wr g q ∧ w.grownBy wr (some g) ∧ w.heap.size ≤ wr.heap.size) (fun _ i _ => 41 - (intOf i).toNat)
  case atStart => exact ⟨0, p + 1, ⟨#[]⟩, by omega, rfl, rfl, Nat.le_refl _, by omega, R1.out, B1.out, hs1⟩
  case round =>
    obtain ⟨k, q, S, hk, rfl, rfl, hS, hq, hr, hbel, hsz⟩ := hrel
    have hgr := hr.lt
    have R2 := Lib.hid hr
    have BB := Lib.hid hbel
    clear hr hbel
    by_cases hlt : (k : Int) < n
    · have sh := lit_shorts2 wr ⟨#[85]⟩ ⟨#[68]⟩ 9 (by decide) (by decide)
      have q3 := below_alloc wr (.cells #[.string ⟨#[85]⟩, .string ⟨#[68]⟩] 9)
      obtain ⟨W3, hW3⟩ : ∃ X, X = wr.alloc (.cells #[.string ⟨#[85]⟩, .string ⟨#[68]⟩] 9) := ⟨_, rfl⟩
      rw [← hW3] at sh q3
      have HW3 := Lib.hid hW3
      have R4 := Lib.hid (R2.out.below q3 hgr)
      have SH := Lib.hid sh
      have B4 := Lib.hid (ggt BB.out q3 (by omega))
      have s3 : wr.heap.size ≤ W3.heap.size := q3.size
      clear hW3 sh q3
      go_wp2_with (rw [← HW3.out]; go_at_call 41; refine (ofRd R4.out SH.out (by omega) (by omega) (by omega) (lit_apart hgr)).mono ?_)
      rintro e w4 ⟨s, rfl, hs, hr, g4⟩
      have B5 := Lib.hid (grown_trans B4.out g4)
      have R5 := Lib.hid hr
      have hadd : ¬ 9223372036854775807 < S.size + s.size := by omega
      have hsq : (S ++ s).size ≤ 2 * (k + 1) := by rw [ByteArray.size_append]; omega
      have hs5 : w.heap.size ≤ w4.heap.size := Nat.le_trans (Nat.le_trans hsz s3) g4.size
      clear g4 hr
      go_wp2_with fail
      go_roundw
      case rel => exact ⟨k + 1, q + 1, S ++ s, by omega, by go_num, rfl, hsq, by omega, R5.out, B5.out, hs5⟩
      case measure => simp [intOf]; omega
    · go_wp2_with (go_at_call 28; refine (pick R2.out (by omega) (by omega) (by omega)).mono ?_)
      rintro e w2 ⟨r, rfl, hr0, hr1, hr, g2⟩
      have B3 := Lib.hid (grown_trans BB.out g2)
      have R3 := Lib.hid hr
      have hs2 : w.heap.size ≤ w2.heap.size := Nat.le_trans hsz g2.size
      have hg2 : g < w2.heap.size := hr.lt
      clear hr g2 hr1
      by_cases h0 : r = 0
      · subst h0
        have sh := lit_shorts3 w2 ⟨#[120]⟩ ⟨#[117]⟩ ⟨#[32]⟩ 9 (by decide) (by decide) (by decide)
        have q3 := below_alloc w2 (.cells #[.string ⟨#[120]⟩, .string ⟨#[117]⟩, .string ⟨#[32]⟩] 9)
        obtain ⟨W3, hW3⟩ : ∃ X, X = w2.alloc (.cells #[.string ⟨#[120]⟩, .string ⟨#[117]⟩, .string ⟨#[32]⟩] 9) := ⟨_, rfl⟩
        rw [← hW3] at sh q3
        have HW3 := Lib.hid hW3
        have R4 := Lib.hid (R3.out.below q3 hg2)
        have SH := Lib.hid sh
        have B4 := Lib.hid (ggt B3.out q3 (by omega))
        clear hW3 sh q3
        go_wp2_with (rw [← HW3.out]; go_at_call 41; refine (ofRd R4.out SH.out (by omega) (by omega) (by omega) (lit_apart hg2)).mono ?_)
        rintro e w4 ⟨s, rfl, hs, hr, g4⟩
        have B5 := Lib.hid (grown_trans B4.out g4)
        have hadd : ¬ 9223372036854775807 < S.size + s.size := by omega
        have hsq : (S ++ s).size ≤ 100 := by rw [ByteArray.size_append]; omega
        clear g4
        go_wp2_with fail
        go_ret
        exact ⟨S ++ s, q + 1 + 1, rfl, hsq, hr, by omega, B5.out⟩
      · have t0 : (r == 0) = false := by simpa using h0
        go_wp2_with fail
        go_ret
        exact ⟨S, q + 1, rfl, by omega, R3.out, by omega, B3.out⟩

theorem nthS_size (s : Sg) (k : Int) : (nthS s k).size ≤ 12 := by
  cases q : nthB s k
  · rw [nthS_no q]; exact Nat.zero_le _
  · rw [nthS_yes q]
    have h := nthB_sg q
    exact ords_size h.1 (getD_in h.2.2)
/-- A drawn single line and an order, small. -/
def DrawnOr (w : World) (g P : Nat) (e : Ending) (w' : World) : Prop :=
  ∃ (v : Value) (s : Sg) (S : ByteArray) (q : Nat), e = .returned (.tuple #[v, .string S]) ∧ OwnSg w' w.heap.size v s ∧ SmallSg s ∧ S.size ≤ 100 ∧ Rdr w' g q ∧ q ≤ P ∧ w.grownBy w' (some g)
theorem OwnSg.grown {X X' : World} {base g : Nat} {v : Value} {s : Sg} (h : OwnSg X base v s) (k : X.grownBy X' (some g)) (hg : g < base) : OwnSg X' base v s := by
  obtain ⟨u1, u2, e, o1, o2, ap⟩ := h
  have far : ∀ {u : Value} {xs : List Int}, OwnI X base u xs → u.ownBlock = none ∨ u.ownBlock ≠ some g := by
    intro u xs o
    cases e : u.ownBlock with
    | none => exact .inl rfl
    | some b =>
      refine .inr fun q => ?_
      simp only [Option.some.injEq] at q
      have := (World.ownsRow.lt o b e).1
      omega
  exact ⟨u1, u2, e, o1.kept k (far o1), o2.kept k (far o2), ap⟩
theorem OwnSg.lower {X : World} {n : Nat} {v : Value} {s : Sg} (h : OwnSg X (n + 1) v s) : OwnSg X n v s := by
  obtain ⟨u1, u2, e, o1, o2, ap⟩ := h
  exact ⟨u1, u2, e, o1.mono (by omega), o2.mono (by omega), ap⟩
/-- The line drawn, in its box, and the box of the result. -/
structure OrSt (w : World) (g b q : Nat) (x y : Value) (s : Sg) (X : World) : Prop where
  box : Quad X b x y (.int .i64 s.run) (.int .i64 s.head) 25
  own : OwnSg X (w.heap.size + 1) (.agg #[x, y, .int .i64 s.run, .int .i64 s.head]) s
  rd : Rdr X g q
  gr : w.grownBy X (some g)
  hg : g < w.heap.size
  hb : w.heap.size + 1 ≤ b
theorem OrSt.below {w X X' : World} {g b q : Nat} {x y : Value} {s : Sg} (h : OrSt w g b q x y s X) (k : Below X.heap.size X X') : OrSt w g b q x y s X' := by
  obtain ⟨u1, u2, e, o1, o2, ap⟩ := h.own
  exact ⟨h.box.below k, ⟨u1, u2, e, o1.below k, o2.below k, ap⟩, h.rd.below k h.rd.lt, ggt h.gr k h.gr.size, h.hg, h.hb⟩
theorem OrSt.pick {w X X' : World} {g b q q' : Nat} {x y : Value} {s : Sg} (h : OrSt w g b q x y s X) (k : X.grownBy X' (some g)) (r : Rdr X' g q') : OrSt w g b q' x y s X' :=
  ⟨h.box.of (k.block _ h.box.lt (fun e => by have := h.hg; have := h.hb; simp only [Option.some.injEq] at e; omega)), h.own.grown k (by have := h.hg; omega), r, ggg h.gr k, h.hg, h.hb⟩
theorem OrSt.put {w X : World} {g b q : Nat} {x y : Value} {s : Sg} (h : OrSt w g b q x y s X) (i : Nat) (u : Value) : OrSt w g b q x y s (X.setCell ⟨w.heap.size, i, none⟩ u) := by
  obtain ⟨u1, u2, e, o1, o2, ap⟩ := h.own
  have hb := h.hb
  have hg := h.hg
  refine ⟨h.box.other (a := ⟨w.heap.size, i, none⟩) (by simp only; omega) u, ⟨u1, u2, e, o1.setBelow (by simp only; omega) u, o2.setBelow (by simp only; omega) u, ap⟩, h.rd.grown (grownBy_set X ⟨w.heap.size, i, none⟩ u) (fun j hj => by simp only [Option.some.injEq] at hj; omega), ?_, hg, hb⟩
  exact grown_new h.gr (grownBy_set X ⟨w.heap.size, i, none⟩ u) (fun j hj => by simp only [Option.some.injEq] at hj; omega)

set_option maxRecDepth 100000 in
set_option maxHeartbeats 4000000 in
theorem drawOrder {w : World} {g p : Nat} (h : Rdr w g p) (hp : p ≤ 300) :
    Calls Tryz.prog 11 #[.pointer (some ⟨g, 0, none⟩)] w (DrawnOr w g (p + 90)) := by
  have hgl := h.lt
  have q0 := Quad.new w (.slice none 0 0) (.slice none 0 0) (.int .i64 0) (.int .i64 0) 25
  have b0 := below_alloc w (.cells #[.slice none 0 0, .slice none 0 0, .int .i64 0, .int .i64 0] 25)
  have s0 : (w.alloc (.cells #[.slice none 0 0, .slice none 0 0, .int .i64 0, .int .i64 0] 25)).heap.size = w.heap.size + 1 := Go.Deep.nblk_alloc _ _
  obtain ⟨W0, hW0⟩ : ∃ X, X = w.alloc (.cells #[.slice none 0 0, .slice none 0 0, .int .i64 0, .int .i64 0] 25) := ⟨_, rfl⟩
  rw [← hW0] at q0 b0 s0
  have HW := Lib.hid hW0.symm
  have B0 := Lib.hid b0
  have Q0 := Lib.hid q0
  have S0 := Lib.hid s0
  have hr := h.below b0 hgl
  have DS := Lib.hid (drawSingle hr (by omega))
  have HG := Lib.hid hgl
  clear hW0 q0 b0 h hr s0 hgl
  go_enter Tryz.func11, Tryz.ntmps11
  go_upto_region 1 with fail
  rw [HW.out]
  go_upto_region 2 with (go_at_call 26; refine DS.out.mono ?_; rintro e w1 ⟨v, s, q, rfl, os, ss, rd, hq, g1⟩; obtain ⟨a1, n1, c1, a2, n2, c2, rfl⟩ := os.form)
  have hgW := HG.out
  have hs0 := S0.out
  have k1 := below_alloc w1 (.cells #[.slice a1 n1 c1, .slice a2 n2 c2, .int .i64 s.run, .int .i64 s.head] 25)
  have qb := Quad.new w1 (.slice a1 n1 c1) (.slice a2 n2 c2) (.int .i64 s.run) (.int .i64 s.head) 25
  have qr := (Q0.out.of (g1.block _ Q0.out.lt (fun e => by simp only [Option.some.injEq] at e; omega))).below k1
  have gw0 : w.grownBy W0 (some g) := ⟨B0.out.os, B0.out.tape, B0.out.output, B0.out.size, fun i hi _ => B0.out.block i hi⟩
  have st : OrSt w g w1.heap.size q (.slice a1 n1 c1) (.slice a2 n2 c2) s (w1.alloc (.cells #[.slice a1 n1 c1, .slice a2 n2 c2, .int .i64 s.run, .int .i64 s.head] 25)) := by
    obtain ⟨u1, u2, e, o1, o2, ap⟩ := os
    rw [hs0] at o1 o2
    have g2 := ggg gw0 g1
    exact ⟨qb, ⟨u1, u2, e, o1.below k1, o2.below k1, ap⟩, rd.below k1 rd.lt, ggt g2 k1 g2.size, hgW, by have := g1.size; omega⟩
  obtain ⟨V, hV⟩ : ∃ X, X = w1.alloc (.cells #[.slice a1 n1 c1, .slice a2 n2 c2, .int .i64 s.run, .int .i64 s.head] 25) := ⟨_, rfl⟩
  rw [← hV] at st qr ⊢
  have sv := st.own.sgV (by have := ss.la; omega) (by have := ss.lb; omega)
  have SM := Lib.hid (specMany sv)
  have SN := Lib.hid (fun (X : World) (b : SgV X (.agg #[.slice a1 n1 c1, .slice a2 n2 c2, .int .i64 s.run, .int .i64 s.head]) s) (k : Int) (hk : -9223372036854775808 ≤ k ∧ k ≤ 9223372036854775807) => specNth (rk := k) b hk)
  have k0 := st.box.cell0
  have k1' := st.box.cell1
  have k2 := st.box.cell2
  have k3 := st.box.cell3
  have ST := Lib.hid st
  have QR := Lib.hid qr
  have SS := Lib.hid ss
  have mr : -1 ≤ manyV s ∧ manyV s ≤ 4096 := by
    cases hs : sgB s
    · rw [manyV_no hs]; omega
    · rw [manyV_yes hs]
      have := mny_le (u := s.A.length) (d := s.B.length) (by have := (sgB_of hs).lenA; have := (sgB_of hs).lenB; omega)
      omega
  have NZ := Lib.hid (fun k => nthS_size s k)
  obtain ⟨m, hm⟩ : ∃ m, m = manyV s := ⟨_, rfl⟩
  rw [← hm] at SM mr
  have HQ := Lib.hid hq
  obtain ⟨b4, hb4⟩ : ∃ b, b = w1.heap.size := ⟨_, rfl⟩
  rw [← hb4] at k0 k1' k2 k3 ST ⊢
  clear hV k1 qb qr gw0 st sv ss hq hm os rd g1 hb4 hgW hs0
  go_upto_region 3 with (go_at_call 27; refine SM.out.mono ?_; rintro e w2 ⟨rfl, bz⟩)
  have ST2 := Lib.hid (ST.out.below bz)
  have QR2 := Lib.hid (QR.out.below bz)
  clear bz k0 k1' k2 k3
  have PK := Lib.hid (fun (n : Int) (h1 : -4294967296 ≤ n) (h2 : n ≤ 4294967296) => pick (n := n) ST2.out.rd (by have := HQ.out; omega) h1 h2)
  rcases Int.lt_or_le m 1 with hm1 | hm1
  · have t0 : decide (m < 1) = true := decide_eq_true hm1
    go_upto_region 4 with fail
    have o4 := ST2.out.below ((Below.refl _ _).drew)
    have r4 := QR2.out.below ((Below.refl _ _).drew)
    have k0 := ST2.out.box.cell0
    have k1 := ST2.out.box.cell1
    have k2 := ST2.out.box.cell2
    have k3 := ST2.out.box.cell3
    have z0 := QR2.out.cell0
    have z1 := QR2.out.cell1
    have z2 := QR2.out.cell2
    have z3 := QR2.out.cell3
    have zf := QR2.out.frozen
    have rs4 := r4.stored (.slice a1 n1 c1) (.slice a2 n2 c2) (.int .i64 s.run) (.int .i64 s.head)
    have os4 := (((o4.put 0 (.slice a1 n1 c1)).put 1 (.slice a2 n2 c2)).put 2 (.int .i64 s.run)).put 3 (.int .i64 s.head)
    have O4 := Lib.hid o4
    have R4 := Lib.hid r4
    have RS4 := Lib.hid rs4
    have OS4 := Lib.hid os4
    have HZ := HG.out
    clear o4 r4 rs4 os4
    go_region_with (first
      | (go_at_call 29; refine (drawDirsG O4.out.rd (by have := HQ.out; omega) 4 (by omega)).mono ?_; rintro e wA ⟨S, qA, rfl, hS, rdA, hqA, gA⟩; have oa := O4.out.pick gA rdA; have ra := R4.out.of (gA.block _ R4.out.lt (fun e => by simp only [Option.some.injEq] at e; omega)); have y0 := oa.box.cell0; have y1 := oa.box.cell1; have y2 := oa.box.cell2; have y3 := oa.box.cell3; have u0 := ra.cell0; have u1 := ra.cell1; have u2 := ra.cell2; have u3 := ra.cell3; have uf := ra.frozen; have QX := Lib.hid (ra.stored (.slice a1 n1 c1) (.slice a2 n2 c2) (.int .i64 s.run) (.int .i64 s.head)); have OX := Lib.hid ((((oa.put 0 (.slice a1 n1 c1)).put 1 (.slice a2 n2 c2)).put 2 (.int .i64 s.run)).put 3 (.int .i64 s.head)); clear oa ra gA rdA)
      | (go_at_call 29; refine (drawDirsG OS4.out.rd (by have := HQ.out; omega) 4 (by omega)).mono ?_; rintro e wA ⟨S, qA, rfl, hS, rdA, hqA, gA⟩; have OX := Lib.hid (OS4.out.pick gA rdA); have QX := Lib.hid (RS4.out.of (gA.block _ RS4.out.lt (fun e => by simp only [Option.some.injEq] at e; omega))); clear gA rdA))
    all_goals
      (have r0 := QX.out.cell0
       have r1 := QX.out.cell1
       have r2 := QX.out.cell2
       have r3 := QX.out.cell3
       go_wp2_with fail
       refine bodyPost_ret (v := .tuple #[.agg #[.slice a1 n1 c1, .slice a2 n2 c2, .int .i64 s.run, .int .i64 s.head], .string S]) (by simp [results, Tryz.results11, go_sem, r0, r1, r2, r3]) rfl ⟨_, s, S, _, rfl, OX.out.own.lower, SS.out, by omega, OX.out.rd, by have := HQ.out; omega, OX.out.gr⟩)
  have t0 : decide (m < 1) = false := decide_eq_false (by omega)
  go_upto_region 4 with (go_at_call 28; refine (PK.out 12 (by omega) (by omega)).mono ?_; rintro e w3 ⟨n, rfl, hn0, hn1, rd3, g3⟩)
  · have ST3 := Lib.hid (ST2.out.pick g3 rd3)
    have QR3 := Lib.hid (QR2.out.of (g3.block _ QR2.out.lt (fun e => by have := HG.out; simp only [Option.some.injEq] at e; omega)))
    clear g3 rd3
    have o4 := ST3.out.below ((Below.refl _ _).drew)
    have r4 := QR3.out.below ((Below.refl _ _).drew)
    have k0 := ST3.out.box.cell0
    have k1 := ST3.out.box.cell1
    have k2 := ST3.out.box.cell2
    have k3 := ST3.out.box.cell3
    have z0 := QR3.out.cell0
    have z1 := QR3.out.cell1
    have z2 := QR3.out.cell2
    have z3 := QR3.out.cell3
    have zf := QR3.out.frozen
    have rs4 := r4.stored (.slice a1 n1 c1) (.slice a2 n2 c2) (.int .i64 s.run) (.int .i64 s.head)
    have os4 := (((o4.put 0 (.slice a1 n1 c1)).put 1 (.slice a2 n2 c2)).put 2 (.int .i64 s.run)).put 3 (.int .i64 s.head)
    have O4 := Lib.hid o4
    have R4 := Lib.hid r4
    have RS4 := Lib.hid rs4
    have OS4 := Lib.hid os4
    have HZ := HG.out
    clear o4 r4 rs4 os4
    go_region_with (first
      | (go_at_call 29; refine (drawDirsG O4.out.rd (by have := HQ.out; omega) 4 (by omega)).mono ?_; rintro e wA ⟨S, qA, rfl, hS, rdA, hqA, gA⟩; have oa := O4.out.pick gA rdA; have ra := R4.out.of (gA.block _ R4.out.lt (fun e => by simp only [Option.some.injEq] at e; omega)); have y0 := oa.box.cell0; have y1 := oa.box.cell1; have y2 := oa.box.cell2; have y3 := oa.box.cell3; have u0 := ra.cell0; have u1 := ra.cell1; have u2 := ra.cell2; have u3 := ra.cell3; have uf := ra.frozen; have QX := Lib.hid (ra.stored (.slice a1 n1 c1) (.slice a2 n2 c2) (.int .i64 s.run) (.int .i64 s.head)); have OX := Lib.hid ((((oa.put 0 (.slice a1 n1 c1)).put 1 (.slice a2 n2 c2)).put 2 (.int .i64 s.run)).put 3 (.int .i64 s.head)); clear oa ra gA rdA)
      | (go_at_call 29; refine (drawDirsG OS4.out.rd (by have := HQ.out; omega) 4 (by omega)).mono ?_; rintro e wA ⟨S, qA, rfl, hS, rdA, hqA, gA⟩; have OX := Lib.hid (OS4.out.pick gA rdA); have QX := Lib.hid (RS4.out.of (gA.block _ RS4.out.lt (fun e => by simp only [Option.some.injEq] at e; omega))); clear gA rdA))
    all_goals
      (have r0 := QX.out.cell0
       have r1 := QX.out.cell1
       have r2 := QX.out.cell2
       have r3 := QX.out.cell3
       go_wp2_with fail
       refine bodyPost_ret (v := .tuple #[.agg #[.slice a1 n1 c1, .slice a2 n2 c2, .int .i64 s.run, .int .i64 s.head], .string S]) (by simp [results, Tryz.results11, go_sem, r0, r1, r2, r3]) rfl ⟨_, s, S, _, rfl, OX.out.own.lower, SS.out, by omega, OX.out.rd, by have := HQ.out; omega, OX.out.gr⟩)
  · have ST3 := Lib.hid (ST2.out.pick g3 rd3)
    have QR3 := Lib.hid (QR2.out.of (g3.block _ QR2.out.lt (fun e => by have := HG.out; simp only [Option.some.injEq] at e; omega)))
    clear g3 rd3
    have O5 := Lib.hid (ST3.out.below ((Below.refl _ _).drew))
    have R5 := Lib.hid (QR3.out.below ((Below.refl _ _).drew))
    have k0 := ST3.out.box.cell0
    have k1 := ST3.out.box.cell1
    have k2 := ST3.out.box.cell2
    have k3 := ST3.out.box.cell3
    have hmz : m ≠ 0 := by omega
    have hmz2 : (m == 0) = false := by simp [hmz]
    have MB := Lib.hid (And.intro hm1 mr.2)
    clear mr hm1 hn0 hn1
    go_region_with (first
      | (go_at_call 28; refine (pick (n := 1000) O5.out.rd (by have := HQ.out; omega) (by omega) (by omega)).mono ?_; rintro e w4 ⟨x, rfl, hx0, hx1, rd4, g4⟩; have o4 := O5.out.pick g4 rd4; have r4 := R5.out.of (g4.block _ R5.out.lt (fun e => by have := HG.out; simp only [Option.some.injEq] at e; omega)); have O6 := Lib.hid o4; have R6 := Lib.hid r4; have SV6 := Lib.hid (o4.own.sgV (by have := SS.out.la; omega) (by have := SS.out.lb; omega)); have y0 := o4.box.cell0; have y1 := o4.box.cell1; have y2 := o4.box.cell2; have y3 := o4.box.cell3; have KB := Lib.hid (show -9223372036854775808 ≤ x.tmod m ∧ x.tmod m ≤ 9223372036854775807 from by have h1 := Int.tmod_nonneg m hx0; have h2 := Int.tmod_lt_of_pos x (show 0 < m by have := MB.out; omega); have := MB.out; omega); clear o4 r4 rd4 g4 hx1)
      | (go_at_call 30; refine (SN.out _ SV6.out _ KB.out).mono ?_; rintro e w5 ⟨rfl, b5⟩))
    all_goals
      (have o7 := O6.out.below b5
       have r7 := R6.out.below b5
       clear k0 k1 k2 k3 y0 y1 y2 y3 hmz hmz2
       have v0 := o7.box.cell0
       have v1 := o7.box.cell1
       have v2 := o7.box.cell2
       have v3 := o7.box.cell3
       have z0 := r7.cell0
       have z1 := r7.cell1
       have z2 := r7.cell2
       have z3 := r7.cell3
       have zf := r7.frozen
       have qs := r7.stored (.slice a1 n1 c1) (.slice a2 n2 c2) (.int .i64 s.run) (.int .i64 s.head)
       have r0 := qs.cell0
       have r1 := qs.cell1
       have r2 := qs.cell2
       have r3 := qs.cell3
       have NS := Lib.hid (NZ.out (x.tmod m))
       have OX := Lib.hid ((((o7.put 0 (.slice a1 n1 c1)).put 1 (.slice a2 n2 c2)).put 2 (.int .i64 s.run)).put 3 (.int .i64 s.head))
       clear o7 r7 qs b5
       obtain ⟨T, hT⟩ : ∃ T, T = nthS s (x.tmod m) := ⟨_, rfl⟩
       rw [← hT] at NS ⊢
       clear hT
       go_wp2_with fail
       refine bodyPost_ret (v := .tuple #[.agg #[.slice a1 n1 c1, .slice a2 n2 c2, .int .i64 s.run, .int .i64 s.head], .string T]) (by simp [results, Tryz.results11, go_sem, r0, r1, r2, r3]) rfl ⟨_, s, T, _, rfl, OX.out.own.lower, SS.out, by have := NS.out; omega, OX.out.rd, by have := HQ.out; omega, OX.out.gr⟩)

end Go.Proofs.YtlcmkocbpnekhaaGreatDoor
