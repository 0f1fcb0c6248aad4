/-
  Two drawn paths. For codes of at most 1048576 bytes.
-/
import Derived.Test.YtoebgdcgcdigaaaDrawT
namespace Go.Proofs.Ytoebgdcgcdigaaa
open Go.RowKit Go.Sort

/-- The state in which a drawing stands that has drawn its first path: the two results' cells, the reader, the path in a box. -/
structure AtC (w : World) (g q n : Nat) (u1 u2 : Value) (p : List Int × List Int) (W : World) : Prop where
  c1 : Pair W w.heap.size (.slice none 0 0) (.slice none 0 0) 44
  c2 : Pair W (w.heap.size + 1) (.slice none 0 0) (.slice none 0 0) 44
  blk : Pair W n u1 u2 44
  pv : PathV W (.agg #[u1, u2]) p
  far : Far (g + 1) (.agg #[u1, u2])
  rd : Rd W g q
  lo : w.heap.size + 1 < g
  hi : g < n
  bel : Below w.heap.size w W
theorem AtC.drew {w W : World} {g q n : Nat} {u1 u2 : Value} {p : List Int × List Int} (h : AtC w g q n u1 u2 p W) : AtC w g q n u1 u2 p W.drew := ⟨h.c1, h.c2, h.blk, h.pv.below ((Below.refl _ _).drew), h.far, h.rd, h.lo, h.hi, h.bel.drew⟩
theorem AtC.grown {w W X : World} {g q q' n : Nat} {u1 u2 : Value} {p : List Int × List Int} (h : AtC w g q n u1 u2 p W) (hg : W.grownBy X (some g)) (hr : Rd X g q') : AtC w g q' n u1 u2 p X :=
  ⟨h.c1.of (hg.block _ h.c1.lt (by have := h.lo; simp; omega)), h.c2.of (hg.block _ h.c2.lt (by have := h.lo; simp; omega)), h.blk.of (hg.block _ h.blk.lt (by have := h.hi; simp; omega)), h.pv.picked hg h.far, h.far, hr, h.lo, h.hi, h.bel.grown hg h.bel.size (fun c hc => by have := h.lo; simp only [Option.some.injEq] at hc; omega)⟩
theorem AtC.new {w W : World} {g q : Nat} {u1 u2 : Value} {p : List Int × List Int} (h1 : Pair W w.heap.size (.slice none 0 0) (.slice none 0 0) 44) (h2 : Pair W (w.heap.size + 1) (.slice none 0 0) (.slice none 0 0) 44) (hp : PathV W (.agg #[u1, u2]) p) (hf : Far (g + 1) (.agg #[u1, u2])) (hr : Rd W g q) (hl : w.heap.size + 1 < g) (hb : Below w.heap.size w W) : AtC w g q W.heap.size u1 u2 p (W.alloc (.cells #[u1, u2] 44)) :=
  have e := below_alloc W (.cells #[u1, u2] 44)
  ⟨h1.below e, h2.below e, Pair.new _ _ _ _, hp.below e, hf, hr.below e hr.lt, hl, hr.lt, hb.trans (e.mono hb.size)⟩
/-- The four stores of the results, in two orders. -/
def fourA (W : World) (c : Nat) (x y x' y' : Value) : World := (((W.setCell ⟨c, 0, none⟩ x).setCell ⟨c, 1, none⟩ y).setCell ⟨c + 1, 0, none⟩ x').setCell ⟨c + 1, 1, none⟩ y'
def fourB (W : World) (c : Nat) (x y x' y' : Value) : World := (((W.setCell ⟨c + 1, 0, none⟩ x').setCell ⟨c + 1, 1, none⟩ y').setCell ⟨c, 0, none⟩ x).setCell ⟨c, 1, none⟩ y
theorem AtC.fin {w W : World} {g q n : Nat} {u1 u2 v1 v2 : Value} {p p2 : List Int × List Int} (h : AtC w g q n u1 u2 p W) (hp : PathV W (.agg #[v1, v2]) p2) (hf : Far (g + 1) (.agg #[v1, v2])) :
    (Pair (fourA W w.heap.size u1 u2 v1 v2) w.heap.size u1 u2 44 ∧ Pair (fourA W w.heap.size u1 u2 v1 v2) (w.heap.size + 1) v1 v2 44 ∧ PathV (fourA W w.heap.size u1 u2 v1 v2) (.agg #[u1, u2]) p ∧ PathV (fourA W w.heap.size u1 u2 v1 v2) (.agg #[v1, v2]) p2 ∧ Below w.heap.size w (fourA W w.heap.size u1 u2 v1 v2)) ∧
    (Pair (fourB W w.heap.size u1 u2 v1 v2) w.heap.size u1 u2 44 ∧ Pair (fourB W w.heap.size u1 u2 v1 v2) (w.heap.size + 1) v1 v2 44 ∧ PathV (fourB W w.heap.size u1 u2 v1 v2) (.agg #[u1, u2]) p ∧ PathV (fourB W w.heap.size u1 u2 v1 v2) (.agg #[v1, v2]) p2 ∧ Below w.heap.size w (fourB W w.heap.size u1 u2 v1 v2)) := by
  have hlo := h.lo
  have n1 : w.heap.size ≠ w.heap.size + 1 := by omega
  have n2 : w.heap.size + 1 ≠ w.heap.size := by omega
  have f1 : w.heap.size < g + 1 := by omega
  have f2 : w.heap.size + 1 < g + 1 := by omega
  have l1 : w.heap.size ≤ w.heap.size + 1 := by omega
  have pres : ∀ {v : Value} {p : List Int × List Int}, Far (g + 1) v → PathV W v p → PathV (fourA W w.heap.size u1 u2 v1 v2) v p ∧ PathV (fourB W w.heap.size u1 u2 v1 v2) v p := fun hf hp =>
    ⟨hf.setCell (i := 1) (hf.setCell (i := 0) (hf.setCell (i := 1) (hf.setCell (i := 0) hp f1 _) f1 _) f2 _) f2 _, hf.setCell (i := 1) (hf.setCell (i := 0) (hf.setCell (i := 1) (hf.setCell (i := 0) hp f2 _) f2 _) f1 _) f1 _⟩
  refine ⟨⟨?_, ?_, (pres h.far h.pv).1, (pres hf hp).1, ?_⟩, ⟨?_, ?_, (pres h.far h.pv).2, (pres hf hp).2, ?_⟩⟩
  · exact ((stored_pair h.c1).other (a := ⟨w.heap.size + 1, 0, none⟩) n1 _).other (a := ⟨w.heap.size + 1, 1, none⟩) n1 _
  · exact stored_pair ((h.c2.other (a := ⟨w.heap.size, 0, none⟩) n2 _).other (a := ⟨w.heap.size, 1, none⟩) n2 _)
  · exact (((h.bel.setCell (p := ⟨w.heap.size, 0, none⟩) (Nat.le_refl _) _).setCell (p := ⟨w.heap.size, 1, none⟩) (Nat.le_refl _) _).setCell (p := ⟨w.heap.size + 1, 0, none⟩) l1 _).setCell (p := ⟨w.heap.size + 1, 1, none⟩) l1 _
  · exact stored_pair ((h.c1.other (a := ⟨w.heap.size + 1, 0, none⟩) n1 _).other (a := ⟨w.heap.size + 1, 1, none⟩) n1 _)
  · exact ((stored_pair h.c2).other (a := ⟨w.heap.size, 0, none⟩) n2 _).other (a := ⟨w.heap.size, 1, none⟩) n2 _
  · exact (((h.bel.setCell (p := ⟨w.heap.size + 1, 0, none⟩) l1 _).setCell (p := ⟨w.heap.size + 1, 1, none⟩) l1 _).setCell (p := ⟨w.heap.size, 0, none⟩) (Nat.le_refl _) _).setCell (p := ⟨w.heap.size, 1, none⟩) (Nat.le_refl _) _

/-- A number and two drawn paths. -/
def DrawnClash (w : World) (e : Ending) (w' : World) : Prop :=
  ∃ (n : Nat) (u v : Value) (p q : List Int × List Int), e = .returned (.tuple #[.int .i64 n, u, v]) ∧ 1 ≤ n ∧ n ≤ 4 ∧ PathV w' u p ∧ PathV w' v q ∧ Below w.heap.size w w'

set_option maxRecDepth 100000 in
set_option maxHeartbeats 4000000 in
theorem drawClash {w : World} {a : Option Addr} {len cap : Nat} {zs : List Int} (h : IsRowK .u8 w a len cap zs) (hl : len ≤ 1048576) :
    Calls Try.prog 47 #[.slice a len cap] w (DrawnClash w) := by
  obtain ⟨W, hW, t0, s0, b0⟩ := two_boxes2 w (.slice none 0 0) (.slice none 0 0) (.slice none 0 0) (.slice none 0 0) 44
  have HW := Lib.hid hW
  have OP := Lib.hid (openRd (h.under b0) hl)
  clear hW h
  go_enter Try.func47, Try.ntmps47
  go_upto_region 1 with fail
  rw [HW.out]
  go_wp2_with (go_at_call 53; refine OP.out.mono ?_)
  rintro e w1 ⟨g, rfl, hg, hr, b1⟩
  have DB := Lib.hid (drawOneR hr (by omega))
  have t1 := t0.below b1
  have s1 := s0.below b1
  have hgt : w.heap.size + 1 < g := Nat.lt_of_lt_of_le s0.lt hg
  have hgl := hr.lt
  clear t0 s0 OP hr
  go_wp2_with (go_at_call 84; refine DB.out.mono ?_)
  rintro e w2 ⟨n, v, p, q, rfl, hn1, hn4, pv, hrd2, hq2, k2, hf⟩
  obtain ⟨a1, n1, c1, a2, n2, c2, rfl⟩ := pv.form
  have t2 := t1.of (k2.block _ t1.lt (by simp; omega))
  have s2 := s1.of (k2.block _ s1.lt (by simp; omega))
  have B2 := (b0.trans (b1.mono b0.size)).grown k2 (Nat.le_trans b0.size b1.size) (fun b hb => by simp only [Option.some.injEq] at hb; omega)
  have A0 := AtC.new t2 s2 pv (hf.mono (by omega)) hrd2 hgt B2
  obtain ⟨W2, hW2⟩ : ∃ X, X = w2.alloc (.cells #[.slice a1 n1 c1, .slice a2 n2 c2] 44) := ⟨_, rfl⟩
  rw [← hW2] at A0
  have HW2 := Lib.hid hW2.symm
  clear hW2 t1 t2 s1 s2 k2 B2 b1 b0 DB hrd2 pv hf
  go_upto_region 3 with fail
  rw [HW2.out]
  have AA := Lib.hid A0
  have l0 := A0.blk.cell0
  have l1 := A0.blk.cell1
  have lt1 := A0.blk.lt
  have lo := A0.lo
  have hgW := A0.rd.lt
  have DPa := Lib.hid (drawPath (n := n) A0.drew.rd (by omega) hn1 hn4)
  clear A0
  go_region_with (go_at_call 86; refine DPa.out.mono ?_; rintro e wA ⟨v2, p2, q2, rfl, pv2, hrd, hq, k, hf2⟩; obtain ⟨a3, n3, c3, a4, n4, c4, rfl⟩ := pv2.form; have A2 := AA.out.drew.grown k hrd; have FF := A2.fin pv2 (hf2.mono (Nat.succ_le_of_lt hgW)); have z0 := A2.blk.cell0; have z1 := A2.blk.cell1; have i0 := A2.c1.cell0; have i1 := A2.c1.cell1; have g0 := A2.c1.frozen 0; have g1 := A2.c1.frozen 1; have j0 := A2.c2.cell0; have j1 := A2.c2.cell1; have f0 := A2.c2.frozen 0; have f1 := A2.c2.frozen 1; have h2 := A2.c1.lt; have h3 := A2.c2.lt; have h4 := A2.blk.lt; clear pv2 hrd k hf2)
  all_goals first
    | (have s0 := FF.1.1.cell0; have s1 := FF.1.1.cell1; have r0 := FF.1.2.1.cell0; have r1 := FF.1.2.1.cell1; have E := Lib.hid FF.1.2.2; clear FF; unfold fourA at s0 s1 r0 r1 E; go_wp2_with fail; exact bodyPost_ret (v := .tuple #[.int .i64 n, .agg #[.slice a1 n1 c1, .slice a2 n2 c2], .agg #[.slice a3 n3 c3, .slice a4 n4 c4]]) (by simp [results, Try.results47, go_sem, s0, s1, r0, r1]) rfl ⟨n, _, _, p, p2, rfl, hn1, hn4, E.out.1, E.out.2.1, E.out.2.2⟩)
    | (have s0 := FF.2.1.cell0; have s1 := FF.2.1.cell1; have r0 := FF.2.2.1.cell0; have r1 := FF.2.2.1.cell1; have E := Lib.hid FF.2.2.2; clear FF; unfold fourB at s0 s1 r0 r1 E; go_wp2_with fail; exact bodyPost_ret (v := .tuple #[.int .i64 n, .agg #[.slice a1 n1 c1, .slice a2 n2 c2], .agg #[.slice a3 n3 c3, .slice a4 n4 c4]]) (by simp [results, Try.results47, go_sem, s0, s1, r0, r1]) rfl ⟨n, _, _, p, p2, rfl, hn1, hn4, E.out.1, E.out.2.1, E.out.2.2⟩)

end Go.Proofs.Ytoebgdcgcdigaaa
