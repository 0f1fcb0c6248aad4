/-
  A drawn path with a time. For codes of at most 1048576 bytes.
-/
import Derived.Test.YtoebgdcgcdigaaaDrawS
namespace Go.Proofs.Ytoebgdcgcdigaaa
open Go.RowKit Go.Sort

theorem PathV.picked {w w' : World} {g : Nat} {v : Value} {p : List Int × List Int} (hp : PathV w v p) (hg : w.grownBy w' (some g)) (h : Far (g + 1) v) : PathV w' v p := by
  obtain ⟨u1, u2, rfl, h1, h2⟩ := h
  obtain ⟨_, _, e, i1, i2⟩ := hp
  simp only [Value.agg.injEq, Array.mk.injEq, List.cons.injEq, and_true] at e
  obtain ⟨rfl, rfl⟩ := e
  have hgr : w.grownBy w' (Value.slice (some ⟨g, 0, none⟩) 0 0).ownBlock := hg
  refine ⟨u1, u2, rfl, i1.kept hgr (fun b o n k e q => ?_), i2.kept hgr (fun b o n k e q => ?_)⟩
  · have := h1 b (by rw [e]; rfl)
    simp only [Value.ownBlock, Option.some.injEq] at q
    omega
  · have := h2 b (by rw [e]; rfl)
    simp only [Value.ownBlock, Option.some.injEq] at q
    omega

set_option maxRecDepth 100000 in
set_option maxHeartbeats 1000000 in
theorem drawOneR {w : World} {g q : Nat} (h : Rd w g q) (hq : q ≤ 500) :
    Calls Try.prog 84 #[.pointer (some ⟨g, 0, none⟩)] w (fun e w' => ∃ (n : Nat) (v : Value) (p : List Int × List Int) (q' : Nat), e = .returned (.tuple #[.int .i64 n, v]) ∧ 1 ≤ n ∧ n ≤ 4 ∧ PathV w' v p ∧ Rd w' g q' ∧ q' ≤ q + 21 ∧ w.grownBy w' (some g) ∧ Far (w.heap.size + 1) v) := by
  have hlt := h.lt
  have e0 := below_alloc w (.cells #[.slice none 0 0, .slice none 0 0] 44)
  have pr := Pair.new w (.slice none 0 0) (.slice none 0 0) 44
  have G0 := World.grownBy_alloc w (.cells #[.slice none 0 0, .slice none 0 0] 44) (some g)
  obtain ⟨W, hW⟩ : ∃ X, X = w.alloc (.cells #[.slice none 0 0, .slice none 0 0] 44) := ⟨_, rfl⟩
  rw [← hW] at e0 pr G0
  have HW := Lib.hid hW.symm
  have hrd := h.below e0 hlt
  have PR := Lib.hid pr
  have C0 := Lib.hid G0
  clear hW pr h e0 G0
  go_enter Try.func84, Try.ntmps84
  go_upto_region 1 with fail
  rw [HW.out]
  go_wp2_with (go_at_call 55; refine (pick hrd (by omega) (by omega) (by omega)).mono ?_)
  rintro e w1 ⟨r, rfl, hr0, hr1, hrd1, hg1⟩
  have hr1' := hr1 (by omega)
  have PR := Lib.hid (PR.out.of (hg1.block _ PR.out.lt (by simp; omega)))
  have C1 := Lib.hid (grown_trans C0.out hg1)
  obtain ⟨m, hm⟩ : ∃ m : Nat, (m : Int) = 1 + r := ⟨(1 + r).toNat, by omega⟩
  have hw : IntKind.i64.wrap (1 + r) = (m : Int) := by rw [IntWalk.i64_in _ (by omega)]; omega
  have hw' : wrap64 (1 + r) = (m : Int) := (IntWalk.i64_left _).symm.trans hw
  have hm1 : 1 ≤ m := by omega
  have hm4 : m ≤ 4 := by omega
  have PR1 := Lib.hid PR.out.lt
  have DP := Lib.hid (drawPath (n := m) hrd1 (by omega) hm1 hm4)
  clear hg1 hrd hr1 hm
  go_wp2_with (go_at_call 86; refine DP.out.mono ?_)
  rintro e w2 ⟨v, p, q', rfl, pv, hrd2, hq2, hg2, hfar⟩
  have PR := Lib.hid (PR.out.of (hg2.block _ PR.out.lt (by simp; omega)))
  have C2 := Lib.hid (grown_trans C1.out hg2)
  obtain ⟨a1, n1, c1, a2, n2, c2, rfl⟩ := pv.form
  have l0 := PR.out.cell0
  have l1 := PR.out.cell1
  have l2 := PR.out.frozen 0
  have l3 := PR.out.frozen 1
  have pr2 := stored_pair (x' := .slice a1 n1 c1) (y' := .slice a2 n2 c2) PR.out
  have l4 := pr2.cell0
  have l5 := pr2.cell1
  have hsz1 : w.heap.size < w1.heap.size := PR1.out
  have PV := Lib.hid (hfar.setCell (i := 1) (hfar.setCell (c := w.heap.size) (i := 0) pv hsz1 (.slice a1 n1 c1)) hsz1 (.slice a2 n2 c2))
  have bb : Below w.heap.size w2 ((w2.setCell ⟨w.heap.size, 0, none⟩ (.slice a1 n1 c1)).setCell ⟨w.heap.size, 1, none⟩ (.slice a2 n2 c2)) := ((Below.refl _ _).setCell (p := ⟨w.heap.size, 0, none⟩) (Nat.le_refl _) (.slice a1 n1 c1)).setCell (p := ⟨w.heap.size, 1, none⟩) (Nat.le_refl _) (.slice a2 n2 c2)
  have C3 := Lib.hid (And.intro (hrd2.below bb hlt) (gtrans C2.out bb (Nat.le_refl _)))
  have FA := Lib.hid (hfar.mono (b' := w.heap.size + 1) (by omega))
  clear pr2 pv hg2 hfar bb
  go_wp2_with fail
  exact bodyPost_ret (v := .tuple #[.int .i64 m, .agg #[.slice a1 n1 c1, .slice a2 n2 c2]]) (by simp [results, Try.results84, go_sem, l4, l5]) rfl ⟨m, _, p, q', rfl, hm1, hm4, PV.out, C3.out.1, by omega, C3.out.2, FA.out⟩

/-- The state in which a drawing stands that has drawn its path: the result's cells, the reader, the path in a box. -/
structure AtP (w : World) (g q n : Nat) (u1 u2 : Value) (p : List Int × List Int) (W : World) : Prop where
  cell : Pair W w.heap.size (.slice none 0 0) (.slice none 0 0) 44
  blk : Pair W n u1 u2 44
  pv : PathV W (.agg #[u1, u2]) p
  far : Far (g + 1) (.agg #[u1, u2])
  rd : Rd W g q
  lo : w.heap.size < g
  hi : g < n
  bel : Below w.heap.size w W
theorem AtP.drew {w W : World} {g q n : Nat} {u1 u2 : Value} {p : List Int × List Int} (h : AtP w g q n u1 u2 p W) : AtP w g q n u1 u2 p W.drew := ⟨h.cell, h.blk, h.pv.below ((Below.refl _ _).drew), h.far, h.rd, h.lo, h.hi, h.bel.drew⟩
theorem AtP.below {w W X : World} {g q n : Nat} {u1 u2 : Value} {p : List Int × List Int} (h : AtP w g q n u1 u2 p W) (hb : Below W.heap.size W X) : AtP w g q n u1 u2 p X :=
  ⟨h.cell.below hb, h.blk.below hb, h.pv.below hb, h.far, h.rd.below hb h.rd.lt, h.lo, h.hi, h.bel.trans (hb.mono h.bel.size)⟩
theorem AtP.grown {w W X : World} {g q q' n : Nat} {u1 u2 : Value} {p : List Int × List Int} (h : AtP w g q n u1 u2 p W) (hg : W.grownBy X (some g)) (hr : Rd X g q') : AtP w g q' n u1 u2 p X :=
  ⟨h.cell.of (hg.block _ h.cell.lt (by have := h.lo; simp; omega)), h.blk.of (hg.block _ h.blk.lt (by have := h.hi; simp; omega)), h.pv.picked hg h.far, h.far, hr, h.lo, h.hi, h.bel.grown hg h.bel.size (fun c hc => by have := h.lo; simp only [Option.some.injEq] at hc; omega)⟩
theorem AtP.new {w W : World} {g q : Nat} {u1 u2 : Value} {p : List Int × List Int} (hc : Pair W w.heap.size (.slice none 0 0) (.slice none 0 0) 44) (hp : PathV W (.agg #[u1, u2]) p) (hf : Far (g + 1) (.agg #[u1, u2])) (hr : Rd W g q) (hl : w.heap.size < g) (hb : Below w.heap.size w W) : AtP w g q W.heap.size u1 u2 p (W.alloc (.cells #[u1, u2] 44)) :=
  have e := below_alloc W (.cells #[u1, u2] 44)
  ⟨hc.below e, Pair.new _ _ _ _, hp.below e, hf, hr.below e hr.lt, hl, hr.lt, hb.trans (e.mono hb.size)⟩
/-- What is behind the last store. -/
theorem AtP.fin {w W : World} {g q n : Nat} {u1 u2 : Value} {p : List Int × List Int} (h : AtP w g q n u1 u2 p W) (x y : Value) : Pair ((W.setCell ⟨w.heap.size, 0, none⟩ x).setCell ⟨w.heap.size, 1, none⟩ y) w.heap.size x y 44 ∧ PathV ((W.setCell ⟨w.heap.size, 0, none⟩ x).setCell ⟨w.heap.size, 1, none⟩ y) (.agg #[u1, u2]) p ∧ Below w.heap.size w ((W.setCell ⟨w.heap.size, 0, none⟩ x).setCell ⟨w.heap.size, 1, none⟩ y) :=
  ⟨stored_pair h.cell, h.far.setCell (i := 1) (h.far.setCell (c := w.heap.size) (i := 0) h.pv (by have := h.lo; omega) x) (by have := h.lo; omega) y, (h.bel.setCell (p := ⟨w.heap.size, 0, none⟩) (Nat.le_refl _) x).setCell (p := ⟨w.heap.size, 1, none⟩) (Nat.le_refl _) y⟩

/-- What the drawing of a path with a time hands back. -/
def DrawnLate (w : World) (e : Ending) (w' : World) : Prop :=
  ∃ (n : Nat) (v : Value) (p : List Int × List Int) (d : Int), e = .returned (.tuple #[.int .i64 n, v, .int .i64 d]) ∧ 1 ≤ n ∧ n ≤ 4 ∧ (-9223372036854775808 ≤ d ∧ d ≤ 9223372036854775807) ∧ PathV w' v p ∧ Below w.heap.size w w'
theorem late_num {x : Int} (h0 : 0 ≤ x) (h1 : x < 3) : ∃ y : Int, -9223372036854775808 ≤ y ∧ y ≤ 9223372036854775807 ∧ (∀ h, ([.int .i64 9223372036854775807, .int .i64 (-9223372036854775808), .int .i64 1990] : List Value)[x.toNat]'h = .int .i64 y) ∧ ∀ W : World, (W.alloc (.cells #[.int .i64 9223372036854775807, .int .i64 (-9223372036854775808), .int .i64 1990] 3)).cell? ⟨W.heap.size, x.toNat, none⟩ = some (.int .i64 y) := by
  have hn : ∀ W : World, (W.alloc (.cells #[.int .i64 9223372036854775807, .int .i64 (-9223372036854775808), .int .i64 1990] 3)).heap[W.heap.size]? = some (.cells #[.int .i64 9223372036854775807, .int .i64 (-9223372036854775808), .int .i64 1990] 3 (0, 0)) := fun W => Go.Deep.blk_alloc_new _ _
  have h : x = 0 ∨ x = 1 ∨ x = 2 := by omega
  rcases h with rfl | rfl | rfl
  · exact ⟨9223372036854775807, by omega, by omega, fun _ => rfl, fun W => by simp only [World.cell?, hn]; rfl⟩
  · exact ⟨-9223372036854775808, by omega, by omega, fun _ => rfl, fun W => by simp only [World.cell?, hn]; rfl⟩
  · exact ⟨1990, by omega, by omega, fun _ => rfl, fun W => by simp only [World.cell?, hn]; rfl⟩

set_option maxRecDepth 100000 in
set_option maxHeartbeats 4000000 in
theorem drawLate {w : World} {a : Option Addr} {len cap : Nat} {zs : List Int} (h : IsRowK .u8 w a len cap zs) (hl : len ≤ 1048576) :
    Calls Try.prog 44 #[.slice a len cap] w (DrawnLate w) := by
  have b0 := below_alloc w (.cells #[.slice none 0 0, .slice none 0 0] 44)
  have t0 := Pair.new w (.slice none 0 0) (.slice none 0 0) 44
  obtain ⟨W, hW⟩ : ∃ W, W = w.alloc (.cells #[.slice none 0 0, .slice none 0 0] 44) := ⟨_, rfl⟩
  rw [← hW] at b0 t0
  have HW := Lib.hid hW.symm
  have OP := Lib.hid (openRd (h.under b0) hl)
  clear hW h
  go_enter Try.func44, Try.ntmps44
  go_upto_region 1 with fail
  rw [HW.out]
  go_wp2_with (go_at_call 53; refine OP.out.mono ?_)
  rintro e w1 ⟨g, rfl, hg, hr, b1⟩
  have DB := Lib.hid (drawOneR hr (by omega))
  have t1 := t0.below b1
  have hgt : w.heap.size < g := Nat.lt_of_lt_of_le t0.lt hg
  have hgl := hr.lt
  clear t0 OP hr
  go_wp2_with (go_at_call 84; refine DB.out.mono ?_)
  rintro e w2 ⟨n, v, p, q, rfl, hn1, hn4, pv, hrd2, hq2, k2, hf⟩
  obtain ⟨a1, n1, c1, a2, n2, c2, rfl⟩ := pv.form
  have t2 := t1.of (k2.block _ t1.lt (by simp; omega))
  have B2 := (b0.trans (b1.mono b0.size)).grown k2 (Nat.le_trans b0.size b1.size) (fun b hb => by simp only [Option.some.injEq] at hb; omega)
  have A0 := AtP.new t2 pv (hf.mono (by omega)) hrd2 hgt B2
  obtain ⟨W2, hW2⟩ : ∃ X, X = w2.alloc (.cells #[.slice a1 n1 c1, .slice a2 n2 c2] 44) := ⟨_, rfl⟩
  rw [← hW2] at A0
  have HW2 := Lib.hid hW2.symm
  clear hW2 t1 t2 k2 B2 b1 b0 DB hrd2 pv hf
  go_upto_region 3 with fail
  rw [HW2.out]
  have hlo := A0.lo
  have hhi := A0.hi
  go_wp2_with (go_at_call 55; refine (pick A0.rd (by omega) (by omega) (by omega)).mono ?_)
  rintro e w3 ⟨r, rfl, hr0, hr1, hrd3, k3⟩
  have A1 := A0.grown k3 hrd3
  have AA := Lib.hid A1
  have l0 := A1.blk.cell0
  have l1 := A1.blk.cell1
  have j0 := A1.cell.cell0
  have j1 := A1.cell.cell1
  have f0 := A1.cell.frozen 0
  have f1 := A1.cell.frozen 1
  have lt1 := A1.blk.lt
  have lt2 := A1.cell.lt
  clear A0 A1 k3 hrd3 hr1
  by_cases h0 : r = 0
  · subst h0
    have q0 := AA.out.drew.below (below_alloc _ (.cells #[.int .i64 9223372036854775807, .int .i64 (-9223372036854775808), .int .i64 1990] 3))
    have hsz : w3.drew.heap.size = w3.heap.size := rfl
    go_wp2_with fail
    go_region_with (go_at_call 55; first
      | (refine (pick AA.out.drew.rd (by omega) (by omega) (by omega)).mono ?_; rintro e wA ⟨x, rfl, hx0, hx1, hrd, k⟩; have hx1' := hx1 (by omega); obtain ⟨y, hy0, hy1, hyl, hy⟩ := late_num hx0 hx1'; have A2 := AA.out.drew.grown k hrd; have hz := hy wA; have z0 := A2.blk.cell0; have z1 := A2.blk.cell1; have i0 := A2.cell.cell0; have i1 := A2.cell.cell1; have g0 := A2.cell.frozen 0; have g1 := A2.cell.frozen 1; have h2 := A2.cell.lt; have h3 := A2.blk.lt)
      | (refine (pick q0.rd (by omega) (by omega) (by omega)).mono ?_; rintro e wA ⟨x, rfl, hx0, hx1, hrd, k⟩; have hx1' := hx1 (by omega); obtain ⟨y, hy0, hy1, hyl, hy⟩ := late_num hx0 hx1'; have A2 := q0.grown k hrd; have hz := (World.cell?_of_block (a := ⟨w3.heap.size, x.toNat, none⟩) (k.block w3.heap.size (by simp) (by simp; omega))).trans (hy w3.drew); have z0 := A2.blk.cell0; have z1 := A2.blk.cell1; have i0 := A2.cell.cell0; have i1 := A2.cell.cell1; have g0 := A2.cell.frozen 0; have g1 := A2.cell.frozen 1; have h2 := A2.cell.lt; have h3 := A2.blk.lt))
    all_goals first
      | (have ts := A2.fin (.slice a1 n1 c1) (.slice a2 n2 c2); have s0 := ts.1.cell0; have s1 := ts.1.cell1; have E := Lib.hid ts.2; clear ts; go_wp2_with fail; exact bodyPost_ret (v := .tuple #[.int .i64 n, .agg #[.slice a1 n1 c1, .slice a2 n2 c2], .int .i64 y]) (by simp [results, Try.results44, go_sem, s0, s1]) rfl ⟨n, _, p, y, rfl, hn1, hn4, ⟨by omega, by omega⟩, E.out.1, E.out.2⟩)
      | (have ts := (A2.below (below_alloc _ (.cells #[.int .i64 9223372036854775807, .int .i64 (-9223372036854775808), .int .i64 1990] 3))).fin (.slice a1 n1 c1) (.slice a2 n2 c2); have s0 := ts.1.cell0; have s1 := ts.1.cell1; have E := Lib.hid ts.2; clear ts; go_wp2_with fail; exact bodyPost_ret (v := .tuple #[.int .i64 n, .agg #[.slice a1 n1 c1, .slice a2 n2 c2], .int .i64 y]) (by simp [results, Try.results44, go_sem, s0, s1, hyl]) rfl ⟨n, _, p, y, rfl, hn1, hn4, ⟨by omega, by omega⟩, E.out.1, E.out.2⟩)
      | (have tt := A2.fin (.slice a1 n1 c1) (.slice a2 n2 c2); have ts := tt.1.below (below_alloc _ (.cells #[.int .i64 9223372036854775807, .int .i64 (-9223372036854775808), .int .i64 1990] 3)); have s0 := ts.cell0; have s1 := ts.cell1; have E := Lib.hid (And.intro (tt.2.1.below (below_alloc _ (.cells #[.int .i64 9223372036854775807, .int .i64 (-9223372036854775808), .int .i64 1990] 3))) (tt.2.2.alloc tt.2.2.size (.cells #[.int .i64 9223372036854775807, .int .i64 (-9223372036854775808), .int .i64 1990] 3))); clear ts tt; go_wp2_with fail; exact bodyPost_ret (v := .tuple #[.int .i64 n, .agg #[.slice a1 n1 c1, .slice a2 n2 c2], .int .i64 y]) (by simp [results, Try.results44, go_sem, s0, s1]) rfl ⟨n, _, p, y, rfl, hn1, hn4, ⟨by omega, by omega⟩, E.out.1, E.out.2⟩)
  · have h0' : (r == 0) = false := by simpa using h0
    go_wp2_with fail
    go_region_with (go_at_call 55; refine (pick AA.out.drew.rd (by omega) (by omega) (by omega)).mono ?_; rintro e wA ⟨x, rfl, hx0, hx1, hrd, k⟩; have A2 := AA.out.drew.grown k hrd; have z0 := A2.blk.cell0; have z1 := A2.blk.cell1; have i0 := A2.cell.cell0; have i1 := A2.cell.cell1; have g0 := A2.cell.frozen 0; have g1 := A2.cell.frozen 1; have h2 := A2.cell.lt; have h3 := A2.blk.lt; have hx1' := hx1 (by omega); have hw : IntKind.i64.wrap (x - 30) = x - 30 := IntWalk.i64_in _ (by omega); have hw' : wrap64 (x - 30) = x - 30 := (IntWalk.i64_left _).symm.trans hw)
    all_goals
      have ts := A2.fin (.slice a1 n1 c1) (.slice a2 n2 c2)
      have s0 := ts.1.cell0
      have s1 := ts.1.cell1
      have E := Lib.hid ts.2
      clear ts
      go_wp2_with fail
      exact bodyPost_ret (v := .tuple #[.int .i64 n, .agg #[.slice a1 n1 c1, .slice a2 n2 c2], .int .i64 (x - 30)]) (by simp [results, Try.results44, go_sem, s0, s1]) rfl ⟨n, _, p, (x - 30), rfl, hn1, hn4, ⟨by omega, by omega⟩, E.out.1, E.out.2⟩

end Go.Proofs.Ytoebgdcgcdigaaa
