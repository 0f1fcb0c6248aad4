/-
  Drawn paths of a line; with a section, a time and a run; with a time and runs. For codes of at most 1048576 bytes.
-/
import Derived.Test.YtoebgdcgcdigaabDrawQ
import Derived.Test.YtoebgdcgcdigaabGoods
import Derived.Deep.RegionWith
namespace Go.Proofs.Ytoebgdcgcdigaab
open Go.RowKit Go.Sort

/-- Drawn paths. -/
def DrawnPs (w : World) (e : Ending) (w' : World) : Prop :=
  ∃ (n b c : Nat) (vs : List Value) (ps : List (List Int × List Int)), e = .returned (.tuple #[.int .i64 n, .slice (some ⟨b, 0, none⟩) ps.length c]) ∧ 1 ≤ n ∧ n ≤ 4 ∧ ps.length ≤ 9 ∧ LQ w' w.heap.size b c vs ps ∧ Below w.heap.size w w'
/-- Drawn paths, a section, a time and a run. -/
def DrawnFree (w : World) (e : Ending) (w' : World) : Prop :=
  ∃ (n b c : Nat) (vs : List Value) (ps : List (List Int × List Int)) (k s r : Int), e = .returned (.tuple #[.int .i64 n, .slice (some ⟨b, 0, none⟩) ps.length c, .int .i64 k, .int .i64 s, .int .i64 r]) ∧ 1 ≤ n ∧ n ≤ 4 ∧ ps.length ≤ 9 ∧ (-1 ≤ k ∧ k ≤ n) ∧ (-1 ≤ s ∧ s ≤ 2000) ∧ (0 ≤ r ∧ r ≤ 101) ∧ LQ w' w.heap.size b c vs ps ∧ Below w.heap.size w w'
/-- Drawn paths, a time and runs. -/
def DrawnFit (w : World) (e : Ending) (w' : World) : Prop :=
  ∃ (n b c : Nat) (vs : List Value) (ps : List (List Int × List Int)) (s : Int) (v : Value) (rs : List Int), e = .returned (.tuple #[.int .i64 n, .slice (some ⟨b, 0, none⟩) ps.length c, .int .i64 s, v]) ∧ 1 ≤ n ∧ n ≤ 4 ∧ ps.length ≤ 9 ∧ (-81 ≤ s ∧ s ≤ 79) ∧ Ints w' v rs ∧ LQ w' w.heap.size b c vs ps ∧ Below w.heap.size w w'

theorem lq_mono2 {w : World} {base base' b c : Nat} {vs : List Value} {ps : List (List Int × List Int)} (h : LQ w base b c vs ps) (hb : base' ≤ base) : LQ w base' b c vs ps :=
  ⟨ownsRow_mono2 h.1 hb, fun i hi => ⟨⟨(h.2 i hi).1.1, (h.2 i hi).1.2.imp_right fun k q e => ⟨Nat.le_trans hb (k q e).1, (k q e).2⟩⟩, ⟨(h.2 i hi).2.1, (h.2 i hi).2.2.imp_right fun k q e => ⟨Nat.le_trans hb (k q e).1, (k q e).2⟩⟩⟩⟩

set_option maxRecDepth 100000 in
set_option maxHeartbeats 1000000 in
theorem drawPasses {w : World} {a : Option Addr} {len cap : Nat} {zs : List Int} (h : IsRowK .u8 w a len cap zs) (hl : len ≤ 1048576) :
    Calls Try.prog 8 #[.slice a len cap] w (DrawnPs w) := by
  have OP := Lib.hid (openRd h hl)
  clear h
  go_enter Try.func8, Try.ntmps8
  go_wp2_with (go_at_call 29; refine OP.out.mono ?_)
  rintro e w1 ⟨g, rfl, hg, hrd, b1⟩
  have DP := Lib.hid (drawPaths hrd (by omega))
  go_wp2_with (go_at_call 28; refine DP.out.mono ?_)
  rintro e w2 ⟨n, b, c, vs, ps, q', rfl, hn1, hn4, hpl, lq, hrd2, hq2, g2⟩
  have BB := Lib.hid (below_of_grown b1 g2 hg)
  have LO := Lib.hid (lq_mono2 lq b1.size)
  clear g2 hrd OP DP hrd2 lq
  go_wp2_with fail
  exact bodyPost_ret (v := .tuple #[.int .i64 n, .slice (some ⟨b, 0, none⟩) ps.length c]) (by simp [results, Try.results8, go_sem]) rfl ⟨n, b, c, vs, ps, rfl, hn1, hn4, hpl, LO.out, BB.out⟩

set_option maxRecDepth 100000 in
set_option maxHeartbeats 1000000 in
theorem drawFit {w : World} {a : Option Addr} {len cap : Nat} {zs : List Int} (h : IsRowK .u8 w a len cap zs) (hl : len ≤ 1048576) :
    Calls Try.prog 16 #[.slice a len cap] w (DrawnFit w) := by
  have OP := Lib.hid (openRd h hl)
  clear h
  go_enter Try.func16, Try.ntmps16
  go_wp2_with (go_at_call 29; refine OP.out.mono ?_)
  rintro e w1 ⟨g, rfl, hg, hrd, b1⟩
  have DP := Lib.hid (drawPaths hrd (by omega))
  have hgl := hrd.lt
  go_wp2_with (go_at_call 28; refine DP.out.mono ?_)
  rintro e w2 ⟨n, b, c, vs, ps, q', rfl, hn1, hn4, hpl, lq, hrd2, hq2, g2⟩
  have BB := Lib.hid (below_of_grown b1 g2 hg)
  have SZ := b1.size
  have LQ2 := Lib.hid lq
  clear g2 hrd OP DP lq
  go_wp2_with (go_at_call 36; refine (pick hrd2 (by omega) (by omega) (by omega)).mono ?_)
  rintro e w3 ⟨r, rfl, hr0, hr1, hrd3, g3⟩
  have hr1' := hr1 (by omega)
  have LQ3 := Lib.hid (LQ2.out.kept g3 (fun q e => by simp only [Option.some.injEq] at e; omega))
  have B3 := Lib.hid (below_of_grown BB.out g3 hg)
  clear hrd2 g3 LQ2 BB hr1
  go_wp2_with (go_at_call 36; refine (pick hrd3 (by omega) (by omega) (by omega)).mono ?_)
  rintro e w4 ⟨d, rfl, hd0, hd1, hrd4, g4⟩
  have hd1' := hd1 (by omega)
  obtain ⟨q, hq⟩ : ∃ q : Int, q = Int.tdiv d 15 := ⟨_, rfl⟩
  have hq01 : 0 ≤ q ∧ q ≤ 1 := by rw [hq, Int.tdiv_eq_ediv_of_nonneg hd0]; omega
  have hw1 : wrap64 (d.tdiv 15) = q := by rw [← hq, ← IntWalk.i64_left]; exact IntWalk.i64_in _ (by omega)
  have hw2 : IntKind.i64.wrap (d.tdiv 15) = q := by rw [← hq]; exact IntWalk.i64_in _ (by omega)
  have LQ4 := Lib.hid (LQ3.out.kept g4 (fun q e => by simp only [Option.some.injEq] at e; omega))
  have B4 := Lib.hid (below_of_grown B3.out g4 hg)
  have DR := Lib.hid (drawRuns (n := n) hrd4 (by omega) hn1 hn4)
  have HQ := Lib.hid hq
  clear hrd3 g4 LQ3 B3 hd1 hrd4 hq
  go_wp2_with (go_at_call 43; refine DR.out.mono ?_)
  rintro e w5 ⟨v, rs, p', rfl, hv, hrd5, hp5, g5⟩
  have LQ5 := Lib.hid (lq_mono2 (LQ4.out.kept g5 (fun q e => by simp only [Option.some.injEq] at e; omega)) SZ)
  have B5 := Lib.hid (below_of_grown B4.out g5 hg)
  have HV := Lib.hid hv
  obtain ⟨s, hs⟩ : ∃ s : Int, s = r - q * 81 := ⟨_, rfl⟩
  clear g5 LQ4 B4 hrd5 hv
  go_wp2_with fail
  exact bodyPost_ret (v := .tuple #[.int .i64 n, .slice (some ⟨b, 0, none⟩) ps.length c, .int .i64 s, v]) (by simp [results, Try.results16, go_sem, hs]) rfl ⟨n, b, c, vs, ps, s, v, rs, rfl, hn1, hn4, hpl, by omega, HV.out, LQ5.out, B5.out⟩

set_option maxRecDepth 100000 in
set_option maxHeartbeats 1000000 in
theorem drawAdd {w : World} {a : Option Addr} {len cap : Nat} {zs : List Int} (h : IsRowK .u8 w a len cap zs) (hl : len ≤ 1048576) :
    Calls Try.prog 23 #[.slice a len cap] w (DrawnFit w) := by
  have OP := Lib.hid (drawFit h hl)
  clear h
  go_enter Try.func23, Try.ntmps23
  go_wp2_with (go_at_call 16; refine OP.out.mono ?_)
  rintro e w1 ⟨n, b, c, vs, ps, s, v, rs, rfl, hn1, hn4, hpl, hs, hv, lq, b1⟩
  have LO := Lib.hid (And.intro hv (And.intro lq b1))
  clear hv lq b1 OP
  go_wp2_with fail
  exact bodyPost_ret (v := .tuple #[.int .i64 n, .slice (some ⟨b, 0, none⟩) ps.length c, .int .i64 s, v]) (by simp [results, Try.results23, go_sem]) rfl ⟨n, b, c, vs, ps, s, v, rs, rfl, hn1, hn4, hpl, hs, LO.out.1, LO.out.2.1, LO.out.2.2⟩

/-- A small number. -/
def Sm (lo hi : Int) (v : Value) : Prop := ∃ x : Int, v = .int .i64 x ∧ lo ≤ x ∧ x ≤ hi
/-- An address of a small number, outside block g. -/
def SmAt (g : Nat) (lo hi : Int) (v : Value) (w : World) : Prop := ∃ (b j : Nat) (u : Value), v = .pointer (some ⟨b, j, none⟩) ∧ b ≠ g ∧ w.cell? ⟨b, j, none⟩ = some u ∧ Sm lo hi u
/-- Some small numbers, outside block g. -/
def SmN (g m : Nat) (lo hi : Int) (v : Value) (w : World) : Prop := ∃ b : Nat, v = .slice (some ⟨b, 0, none⟩) m m ∧ b ≠ g ∧ ∀ j, j < m → ∃ u, w.cell? ⟨b, j, none⟩ = some u ∧ Sm lo hi u
theorem SmAt.kept {g : Nat} {lo hi : Int} {v : Value} {w w' : World} (h : SmAt g lo hi v w) (k : w.grownBy w' (some g)) : SmAt g lo hi v w' := by
  obtain ⟨b, j, u, rfl, hb, hc, hs⟩ := h
  exact ⟨b, j, u, rfl, hb, k.cell hc (by simpa using hb), hs⟩
theorem SmN.kept {g m : Nat} {lo hi : Int} {v : Value} {w w' : World} (h : SmN g m lo hi v w) (k : w.grownBy w' (some g)) : SmN g m lo hi v w' := by
  obtain ⟨b, rfl, hb, hc⟩ := h
  exact ⟨b, rfl, hb, fun j hj => by
    obtain ⟨u, hu, hs⟩ := hc j hj
    exact ⟨u, k.cell hu (by simpa using hb), hs⟩⟩
/-- The reader's block alone has been written; some picks are left. -/
def RgV (w0 : World) (g B m : Nat) (w : World) : Prop := w0.grownBy w (some g) ∧ ∃ p, p + m ≤ B ∧ Rd w g p
theorem RgV.alloc {w0 w : World} {g B m : Nat} (h : RgV w0 g B m w) (o : Obj) : RgV w0 g B m (w.alloc o) := by
  obtain ⟨h1, p, h2, h3⟩ := h
  exact ⟨qgrown_alloc h1 o, p, h2, qrd_alloc h3 o⟩
theorem RgV.lt {w0 w : World} {g B m : Nat} (h : RgV w0 g B m w) : g < w.heap.size := by
  obtain ⟨_, p, _, h3⟩ := h
  exact h3.lt
theorem smN_new {w : World} {g m : Nat} {lo hi : Int} {cs : Array Value} {t : TypeId} (hg : g < w.heap.size) (h : ∀ j, j < m → ∃ u, cs[j]? = some u ∧ Sm lo hi u) : SmN g m lo hi (.slice (some ⟨w.heap.size, 0, none⟩) m m) (w.alloc (.cells cs t)) := by
  refine ⟨w.heap.size, rfl, by omega, fun j hj => ?_⟩
  obtain ⟨u, hu, hs⟩ := h j hj
  refine ⟨u, ?_, hs⟩
  unfold World.cell?
  simp only [heap_alloc_new]
  exact hu
/-- What is good in the region that draws a time and a run out of two lists. -/
def GV (g : Nat) (n : Int) (L : Value) (k : Int) (i : Nat) (v : Value) (w : World) : Prop :=
  match i with
  | 0 => v = .int .i64 n
  | 1 => v = L
  | 2 => v = .int .i64 k
  | 3 => SmN g 3 (-1) 2000 v w
  | 4 => v = .pointer (some ⟨g, 0, none⟩)
  | 5 => Sm 0 2 v
  | 6 => SmAt g (-1) 2000 v w
  | 7 => Sm (-1) 2000 v
  | 8 => SmN g 4 0 101 v w
  | 9 => v = .pointer (some ⟨g, 0, none⟩)
  | 10 => Sm 0 3 v
  | 11 => SmAt g 0 101 v w
  | 12 => Sm 0 101 v
  | 13 => v = .int .i64 n
  | 14 => v = L
  | 15 => v = .int .i64 k
  | 16 => Sm (-1) 2000 v
  | 17 => Sm 0 101 v
  | _ => True
theorem GV.kept {g : Nat} {n : Int} {L : Value} {k : Int} (i : Nat) (v : Value) (w w' : World) (q : w.grownBy w' (some g)) (h : GV g n L k i v w) : GV g n L k i v w' := by
  unfold GV at h ⊢
  split at h <;> first | exact h | exact SmAt.kept h q | exact SmN.kept h q

set_option maxRecDepth 100000 in
set_option maxHeartbeats 4000000 in
theorem drawFree {w : World} {a : Option Addr} {len cap : Nat} {zs : List Int} (h : IsRowK .u8 w a len cap zs) (hl : len ≤ 1048576) :
    Calls Try.prog 13 #[.slice a len cap] w (DrawnFree w) := by
  have OP := Lib.hid (openRd h hl)
  clear h
  go_enter Try.func13, Try.ntmps13
  go_wp2_with (go_at_call 29; refine OP.out.mono ?_)
  rintro e w1 ⟨g, rfl, hg, hrd, b1⟩
  have DP := Lib.hid (drawPaths hrd (by omega))
  have hgl := hrd.lt
  go_wp2_with (go_at_call 28; refine DP.out.mono ?_)
  rintro e w2 ⟨n, b, c, vs, ps, q', rfl, hn1, hn4, hpl, lq, hrd2, hq2, g2⟩
  have DA := Lib.hid (drawAt (n := (n : Int)) hrd2 (by omega) (by omega) (by omega))
  have BB := Lib.hid (below_of_grown b1 g2 hg)
  have SZ := b1.size
  clear g2 hrd OP hrd2
  go_wp2_with (go_at_call 35; refine DA.out.mono ?_)
  rintro e w3 ⟨k, q3, rfl, hk0, hk1, hrd3, hq3, g3⟩
  have LO := Lib.hid (lq.kept g3 (fun q e => by simp only [Option.some.injEq] at e; omega))
  have B3 := Lib.hid (below_of_grown BB.out g3 hg)
  clear lq g3 DA DP BB
  go_wp2_with (go_at_call 36; refine (pick hrd3 (by omega) (by omega) (by omega)).mono ?_)
  rintro e w4 ⟨r, rfl, hr0, hr1, hrd4, g4⟩
  have L4 := Lib.hid (LO.out.kept g4 (fun q e => by simp only [Option.some.injEq] at e; omega))
  have B4 := Lib.hid (below_of_grown B3.out g4 hg)
  clear LO B3 g4 hrd3 hr1
  by_cases hz : r = 0
  · have hz' : (r == 0) = true := by simpa using hz
    clear hz
    go_wp2_with fail
    clear hz'
    have hr3' : Rd { w4 with drawn := w4.drawn + 1 } g (q3 + 1) := hrd4
    have hq1000 : q3 + 1 + 2 ≤ 1000 := by omega
    refine wp_region_goods (G := GV g n (.slice (some ⟨b, 0, none⟩) ps.length c) k) (c := fun i => i == 5 || i == 10) (R := RgV w4 g 1000) (T := fun w' w'' => w'.grownBy w'' (some g)) (by kernel_rfl) (by kernel_rfl) ⟨⟨rfl, rfl, rfl, Nat.le_refl _, fun _ _ _ => rfl⟩, q3 + 1, hq1000, hr3'⟩ GV.kept ⟨?s0, ?s1, ?s2, ?s3, ?s4, ?s5, ?s6, ?s7, ?s8, ?s9, ?s10, ?s11, ?s12, ?s13, ?s14, ?s15, ?s16, ?s17, trivial⟩ ?hend
    case s0 =>
      intro a' w' m hR hrest _ K hK
      have e : a'.tmps.getD 8 undef = .int .i64 n := hrest 8 (by kernel_rfl)
      go_simp
      exact hK _ _ rfl hR (World.grownBy.refl _ _)
    case s1 =>
      intro a' w' m hR hrest _ K hK
      have e : a'.tmps.getD 9 undef = .slice (some ⟨b, 0, none⟩) ps.length c := hrest 9 (by kernel_rfl)
      go_simp
      exact hK _ _ rfl hR (World.grownBy.refl _ _)
    case s2 =>
      intro a' w' m hR hrest _ K hK
      have e : a'.tmps.getD 10 undef = .int .i64 k := hrest 10 (by kernel_rfl)
      go_simp
      exact hK _ _ rfl hR (World.grownBy.refl _ _)
    case s3 =>
      intro a' w' m hR _ hdep K hK
      go_simp
      exact hK (.slice (some ⟨w'.heap.size, 0, none⟩) 3 3) _ (smN_new hR.lt (fun j hj => by rcases (by omega : j = 0 ∨ j = 1 ∨ j = 2) with rfl | rfl | rfl <;> exact ⟨_, rfl, _, rfl, by omega, by omega⟩)) (hR.alloc _) (World.grownBy_alloc _ _ _)
    case s4 =>
      intro a' w' m hR hrest _ K hK
      have e : a'.tmps.getD 7 undef = .pointer (some ⟨g, 0, none⟩) := hrest 7 (by kernel_rfl)
      go_simp
      exact hK _ _ rfl hR (World.grownBy.refl _ _)
    case s5 =>
      intro a' w' m hR _ hdep K hK
      have e : a'.tmps.getD 28 undef = .pointer (some ⟨g, 0, none⟩) := hdep 4 (by kernel_rfl)
      have e' := slot_of e
      obtain ⟨hgr, p, hp, hrd⟩ := hR
      go_simp
      refine (pick hrd (by have : p + (m + 1) ≤ 1000 := hp; omega) (by omega) (by omega)).mono ?_
      rintro e w4 ⟨r, rfl, hr0, hr1, hr4, g4⟩
      exact hK _ _ ⟨r, rfl, by omega, by have := hr1 (by omega); omega⟩ ⟨grown_trans hgr g4, p + 1, by have : p + (m + 1) ≤ 1000 := hp; omega, hr4⟩ g4
    case s6 =>
      intro a' w' m hR _ hdep K hK
      obtain ⟨b2, e, hb, hc⟩ : SmN g 3 (-1) 2000 (a'.tmps.getD 27 undef) w' := hdep 3 (by kernel_rfl)
      obtain ⟨r, e2, hr0, hr1⟩ : Sm 0 2 (a'.tmps.getD 29 undef) := hdep 5 (by kernel_rfl)
      have e' := slot_of e
      have e2' := slot_of e2
      have hr3 : r < 3 := by omega
      obtain ⟨u, hu, hs⟩ := hc r.toNat (by omega)
      have HH := Lib.hid (show SmAt g (-1) 2000 (.pointer (some ⟨b2, r.toNat, none⟩)) w' from ⟨b2, r.toNat, u, rfl, hb, hu, hs⟩)
      clear hu hs hc hdep
      go_simp
      exact hK (.pointer (some ⟨b2, r.toNat, none⟩)) _ HH.out hR (World.grownBy.refl _ _)
    case s7 =>
      intro a' w' m hR _ hdep K hK
      obtain ⟨b2, j, u, e, hb, hc, x, rfl, hx0, hx1⟩ : SmAt g (-1) 2000 (a'.tmps.getD 30 undef) w' := hdep 6 (by kernel_rfl)
      have e' := slot_of e
      go_simp
      exact hK _ _ ⟨x, rfl, hx0, hx1⟩ hR (World.grownBy.refl _ _)
    case s8 =>
      intro a' w' m hR _ hdep K hK
      go_simp
      exact hK (.slice (some ⟨w'.heap.size, 0, none⟩) 4 4) _ (smN_new hR.lt (fun j hj => by rcases (by omega : j = 0 ∨ j = 1 ∨ j = 2 ∨ j = 3) with rfl | rfl | rfl | rfl <;> exact ⟨_, rfl, _, rfl, by omega, by omega⟩)) (hR.alloc _) (World.grownBy_alloc _ _ _)
    case s9 =>
      intro a' w' m hR hrest _ K hK
      have e : a'.tmps.getD 7 undef = .pointer (some ⟨g, 0, none⟩) := hrest 7 (by kernel_rfl)
      go_simp
      exact hK _ _ rfl hR (World.grownBy.refl _ _)
    case s10 =>
      intro a' w' m hR _ hdep K hK
      have e : a'.tmps.getD 33 undef = .pointer (some ⟨g, 0, none⟩) := hdep 9 (by kernel_rfl)
      have e' := slot_of e
      obtain ⟨hgr, p, hp, hrd⟩ := hR
      go_simp
      refine (pick hrd (by have : p + (m + 1) ≤ 1000 := hp; omega) (by omega) (by omega)).mono ?_
      rintro e w4 ⟨r, rfl, hr0, hr1, hr4, g4⟩
      exact hK _ _ ⟨r, rfl, by omega, by have := hr1 (by omega); omega⟩ ⟨grown_trans hgr g4, p + 1, by have : p + (m + 1) ≤ 1000 := hp; omega, hr4⟩ g4
    case s11 =>
      intro a' w' m hR _ hdep K hK
      obtain ⟨b2, e, hb, hc⟩ : SmN g 4 0 101 (a'.tmps.getD 32 undef) w' := hdep 8 (by kernel_rfl)
      obtain ⟨r, e2, hr0, hr1⟩ : Sm 0 3 (a'.tmps.getD 34 undef) := hdep 10 (by kernel_rfl)
      have e' := slot_of e
      have e2' := slot_of e2
      have hr3 : r < 4 := by omega
      obtain ⟨u, hu, hs⟩ := hc r.toNat (by omega)
      have HH := Lib.hid (show SmAt g 0 101 (.pointer (some ⟨b2, r.toNat, none⟩)) w' from ⟨b2, r.toNat, u, rfl, hb, hu, hs⟩)
      clear hu hs hc hdep
      go_simp
      exact hK (.pointer (some ⟨b2, r.toNat, none⟩)) _ HH.out hR (World.grownBy.refl _ _)
    case s12 =>
      intro a' w' m hR _ hdep K hK
      obtain ⟨b2, j, u, e, hb, hc, x, rfl, hx0, hx1⟩ : SmAt g 0 101 (a'.tmps.getD 35 undef) w' := hdep 11 (by kernel_rfl)
      have e' := slot_of e
      go_simp
      exact hK _ _ ⟨x, rfl, hx0, hx1⟩ hR (World.grownBy.refl _ _)
    case s13 =>
      intro a' w' m hR _ hdep K hK
      have e : a'.tmps.getD 24 undef = .int .i64 n := hdep 0 (by kernel_rfl)
      have e' := slot_of e
      go_simp
      exact hK _ _ rfl hR (World.grownBy.refl _ _)
    case s14 =>
      intro a' w' m hR _ hdep K hK
      have e : a'.tmps.getD 25 undef = .slice (some ⟨b, 0, none⟩) ps.length c := hdep 1 (by kernel_rfl)
      have e' := slot_of e
      go_simp
      exact hK _ _ rfl hR (World.grownBy.refl _ _)
    case s15 =>
      intro a' w' m hR _ hdep K hK
      have e : a'.tmps.getD 26 undef = .int .i64 k := hdep 2 (by kernel_rfl)
      have e' := slot_of e
      go_simp
      exact hK _ _ rfl hR (World.grownBy.refl _ _)
    case s16 =>
      intro a' w' m hR _ hdep K hK
      obtain ⟨x, e, hx0, hx1⟩ : Sm (-1) 2000 (a'.tmps.getD 31 undef) := hdep 7 (by kernel_rfl)
      have e' := slot_of e
      go_simp
      exact hK _ _ ⟨x, rfl, hx0, hx1⟩ hR (World.grownBy.refl _ _)
    case s17 =>
      intro a' w' m hR _ hdep K hK
      obtain ⟨x, e, hx0, hx1⟩ : Sm 0 101 (a'.tmps.getD 36 undef) := hdep 12 (by kernel_rfl)
      have e' := slot_of e
      go_simp
      exact hK _ _ ⟨x, rfl, hx0, hx1⟩ hR (World.grownBy.refl _ _)
    case hend =>
      rintro ⟨tm, df⟩ w' hsz hdf ⟨hgr, _⟩ _ hgood
      have hdf' : df = [] := hdf
      subst hdf'
      have e0 : tm.getD 2 undef = .int .i64 n := hgood 13 (by decide)
      have e1 : tm.getD 3 undef = .slice (some ⟨b, 0, none⟩) ps.length c := hgood 14 (by decide)
      have e2 : tm.getD 4 undef = .int .i64 k := hgood 15 (by decide)
      obtain ⟨x, e3, hx0, hx1⟩ : Sm (-1) 2000 (tm.getD 5 undef) := hgood 16 (by decide)
      obtain ⟨y, e4, hy0, hy1⟩ : Sm 0 101 (tm.getD 6 undef) := hgood 17 (by decide)
      have e0' : tm[2]?.getD undef = _ := slot_of (a := ⟨tm, []⟩) e0
      have e1' : tm[3]?.getD undef = _ := slot_of (a := ⟨tm, []⟩) e1
      have e2' : tm[4]?.getD undef = _ := slot_of (a := ⟨tm, []⟩) e2
      have e3' : tm[5]?.getD undef = _ := slot_of (a := ⟨tm, []⟩) e3
      have e4' : tm[6]?.getD undef = _ := slot_of (a := ⟨tm, []⟩) e4
      have LF := Lib.hid (lq_mono2 (L4.out.kept hgr (fun q e => by simp only [Option.some.injEq] at e; omega)) SZ)
      have BF := Lib.hid (below_of_grown B4.out hgr hg)
      clear hgood hgr
      go_wp2_with fail
      exact bodyPost_ret (v := .tuple #[.int .i64 n, .slice (some ⟨b, 0, none⟩) ps.length c, .int .i64 k, .int .i64 x, .int .i64 y]) (by simp [results, Try.results13, go_sem, e0', e1', e2', e3', e4']) rfl ⟨n, b, c, vs, ps, k, x, y, rfl, hn1, hn4, hpl, ⟨hk0, hk1⟩, ⟨hx0, hx1⟩, ⟨hy0, hy1⟩, LF.out, BF.out⟩
  · have hz' : (r == 0) = false := by simpa using hz
    clear hz
    go_wp2_with (go_at_call 36; refine (pick hrd4 (by omega) (by omega) (by omega)).mono ?_)
    rintro e w5 ⟨x, rfl, hx0, hx1, hrd5, g5⟩
    have hx1' := hx1 (by omega)
    have L5 := Lib.hid (L4.out.kept g5 (fun q e => by simp only [Option.some.injEq] at e; omega))
    have B5 := Lib.hid (below_of_grown B4.out g5 hg)
    clear L4 B4 g5 hrd4 hx1
    go_wp2_with (go_at_call 36; refine (pick hrd5 (by omega) (by omega) (by omega)).mono ?_)
    rintro e w6 ⟨y, rfl, hy0, hy1, hrd6, g6⟩
    have hy1' := hy1 (by omega)
    have L6 := Lib.hid (lq_mono2 (L5.out.kept g6 (fun q e => by simp only [Option.some.injEq] at e; omega)) SZ)
    have B6 := Lib.hid (below_of_grown B5.out g6 hg)
    clear L5 B5 g6 hrd5 hy1
    go_wp2_with fail
    exact bodyPost_ret (v := .tuple #[.int .i64 n, .slice (some ⟨b, 0, none⟩) ps.length c, .int .i64 k, .int .i64 x, .int .i64 (1 + y)]) (by simp [results, Try.results13, go_sem]) rfl ⟨n, b, c, vs, ps, k, x, 1 + y, rfl, hn1, hn4, hpl, ⟨hk0, hk1⟩, ⟨by omega, by omega⟩, ⟨by omega, by omega⟩, L6.out, B6.out⟩

end Go.Proofs.Ytoebgdcgcdigaab
