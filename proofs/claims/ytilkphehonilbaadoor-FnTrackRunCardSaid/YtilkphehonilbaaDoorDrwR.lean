/-
  Two drawn numbers: circuits and a train's length. For codes of at most 1048576 bytes. (What DrwT and DrwC hold too: never together with them.)
-/
import Derived.Test.YtilkphehonilbaaDoorDrawA
import Derived.Test.YtilkphehonilbaaDoorGoods
import Derived.Test.YtilkphehonilbaaDoorDrwB
namespace Go.Proofs.YtilkphehonilbaaDoor
open Go.RowKit Go.Sort

theorem grown_alloc {w w1 : World} {row : Option Nat} (h : w.grownBy w1 row) (o : Obj) : w.grownBy (w1.alloc o) row :=
  grown_trans h (World.grownBy_alloc _ _ _)
theorem Rdr.alloc {w : World} {g p : Nat} (h : Rdr w g p) (o : Obj) : Rdr (w.alloc o) g p :=
  h.grown (below_grown ((Below.refl _ _).alloc (Nat.le_refl _) o)) (fun b e => by cases e)
theorem Rdr.kept {w w' : World} {g p : Nat} (h : Rdr w g p) (k : w.grownBy w' none) : Rdr w' g p := h.grown k (fun b e => by cases e)
/-- A small number. -/
def Small (lo hi : Int) (v : Value) : Prop := ∃ x : Int, v = .int .i64 x ∧ lo ≤ x ∧ x ≤ hi
/-- An address of a small number, outside block g. -/
def SmallAt (g : Nat) (lo hi : Int) (v : Value) (w : World) : Prop := ∃ (b j : Nat) (u : Value), v = .pointer (some ⟨b, j, none⟩) ∧ b ≠ g ∧ w.cell? ⟨b, j, none⟩ = some u ∧ Small lo hi u
/-- Three small numbers, outside block g. -/
def Small3 (g : Nat) (lo hi : Int) (v : Value) (w : World) : Prop := ∃ b : Nat, v = .slice (some ⟨b, 0, none⟩) 3 3 ∧ b ≠ g ∧ ∀ j, j < 3 → ∃ u, w.cell? ⟨b, j, none⟩ = some u ∧ Small lo hi u

theorem SmallAt.kept {g : Nat} {lo hi : Int} {v : Value} {w w' : World} (h : SmallAt g lo hi v w) (k : w.grownBy w' (some g)) : SmallAt g lo hi v w' := by
  obtain ⟨b, j, u, rfl, hb, hc, hs⟩ := h
  exact ⟨b, j, u, rfl, hb, k.cell hc (by simpa using hb), hs⟩
theorem Small3.kept {g : Nat} {lo hi : Int} {v : Value} {w w' : World} (h : Small3 g lo hi v w) (k : w.grownBy w' (some g)) : Small3 g lo hi v w' := by
  obtain ⟨b, rfl, hb, hc⟩ := h
  exact ⟨b, rfl, hb, fun j hj => by
    obtain ⟨u, hu, hs⟩ := hc j hj
    exact ⟨u, k.cell hu (by simpa using hb), hs⟩⟩

/-- Two small numbers, outside block g. -/
def Small2 (g : Nat) (lo hi : Int) (v : Value) (w : World) : Prop := ∃ b : Nat, v = .slice (some ⟨b, 0, none⟩) 2 2 ∧ b ≠ g ∧ ∀ j, j < 2 → ∃ u, w.cell? ⟨b, j, none⟩ = some u ∧ Small lo hi u
theorem Small2.kept {g : Nat} {lo hi : Int} {v : Value} {w w' : World} (h : Small2 g lo hi v w) (k : w.grownBy w' (some g)) : Small2 g lo hi v w' := by
  obtain ⟨b, rfl, hb, hc⟩ := h
  exact ⟨b, rfl, hb, fun j hj => by
    obtain ⟨u, hu, hs⟩ := hc j hj
    exact ⟨u, k.cell hu (by simpa using hb), hs⟩⟩

/-- What is good in the region that draws two numbers out of two lists. -/
def GR (n : Int) (g : Nat) (i : Nat) (v : Value) (w : World) : Prop :=
  match i with
  | 0 => v = .int .i64 n
  | 1 => Small3 g 0 9 v w
  | 2 => v = .pointer (some ⟨g, 0, none⟩)
  | 3 => Small 0 2 v
  | 4 => SmallAt g 0 9 v w
  | 5 => Small 0 9 v
  | 6 => v = .int .i64 n
  | 7 => v = .int .i64 (n + 1)
  | 8 => Small2 g 0 10 v w
  | 9 => v = .pointer (some ⟨g, 0, none⟩)
  | 10 => Small 0 1 v
  | 11 => SmallAt g 0 10 v w
  | 12 => Small 0 10 v
  | 13 => Small 0 9 v
  | 14 => Small 0 10 v
  | _ => True
theorem GR.kept {n : Int} {g : Nat} (i : Nat) (v : Value) (w w' : World) (k : w.grownBy w' (some g)) (h : GR n g i v w) : GR n g i v w' := by
  unfold GR at h ⊢
  split at h <;> first | exact h | exact SmallAt.kept h k | exact Small3.kept h k | exact Small2.kept h k

/-- The reader's block alone has been written; some picks are left. -/
def Rg (w0 : World) (g B m : Nat) (w : World) : Prop := w0.grownBy w (some g) ∧ ∃ p, p + m ≤ B ∧ Rdr w g p
theorem Rg.alloc {w0 w : World} {g B m : Nat} (h : Rg w0 g B m w) (o : Obj) : Rg w0 g B m (w.alloc o) := by
  obtain ⟨h1, p, h2, h3⟩ := h
  exact ⟨grown_alloc h1 o, p, h2, h3.alloc o⟩
theorem Rg.lt {w0 w : World} {g B m : Nat} (h : Rg w0 g B m w) : g < w.heap.size := by
  obtain ⟨_, p, _, h3⟩ := h
  exact h3.lt
theorem small3_new {w : World} {g : Nat} {lo hi : Int} {x y z : Value} {t : TypeId} (hg : g < w.heap.size) (h : ∀ j, j < 3 → ∃ u, #[x, y, z][j]? = some u ∧ Small lo hi u) : Small3 g lo hi (.slice (some ⟨w.heap.size, 0, none⟩) 3 3) (w.alloc (.cells #[x, y, z] t)) := by
  refine ⟨w.heap.size, rfl, by omega, fun j hj => ?_⟩
  obtain ⟨u, hu, hs⟩ := h j hj
  refine ⟨u, ?_, hs⟩
  unfold World.cell?
  simp only [heap_alloc_new]
  exact hu

theorem small2_new {w : World} {g : Nat} {lo hi : Int} {x y : Value} {t : TypeId} (hg : g < w.heap.size) (h : ∀ j, j < 2 → ∃ u, #[x, y][j]? = some u ∧ Small lo hi u) : Small2 g lo hi (.slice (some ⟨w.heap.size, 0, none⟩) 2 2) (w.alloc (.cells #[x, y] t)) := by
  refine ⟨w.heap.size, rfl, by omega, fun j hj => ?_⟩
  obtain ⟨u, hu, hs⟩ := h j hj
  refine ⟨u, ?_, hs⟩
  unfold World.cell?
  simp only [heap_alloc_new]
  exact hu
/-- Two drawn numbers. -/
def DrawnTwo (w : World) (e : Ending) (w' : World) : Prop :=
  ∃ n r : Int, e = .returned (.tuple #[.int .i64 n, .int .i64 r]) ∧ 0 ≤ n ∧ n ≤ 9 ∧ 0 ≤ r ∧ r ≤ 10 ∧ Below w.heap.size w w'

set_option maxRecDepth 100000 in
set_option maxHeartbeats 1000000 in
theorem drawTrackRun {w : World} {a : Option Addr} {len cap : Nat} {zs : List Int} (h : IsRowK .u8 w a len cap zs) (hl : len ≤ 1048576) :
    Calls Tryd.prog 13 #[.slice a len cap] w (DrawnTwo w) := by
  go_enter Tryd.func13, Tryd.ntmps13
  go_wp2_with (go_at_call 28; refine (openRd h hl).mono ?_)
  rintro e w1 ⟨g, rfl, hg, hr, b1⟩
  go_wp2_with (go_at_call 35; refine (pick hr (by omega) (by omega) (by omega)).mono ?_)
  rintro e w2 ⟨q0, rfl, hq00, hq01, hr2, g2⟩
  have hq02 := hq01 (by omega)
  have c2 := b1.grown g2 b1.size (fun k hk => by simp only [Option.some.injEq] at hk; omega)
  obtain ⟨n, hn⟩ : ∃ n, n = 1 + q0 := ⟨_, rfl⟩
  have hnw : IntKind.i64.wrap (1 + q0) = 1 + q0 := IntWalk.i64_in _ (by omega)
  clear g2 hq01 h hr
  go_upto_region 3 with fail
  rw [← hn]
  have hn0 : 1 ≤ n := by omega
  have hn1 : n ≤ 8 := by omega
  clear hn hnw hq00 hq02
  go_wp2_with (go_at_call 35; refine (pick hr2 (by omega) (by omega) (by omega)).mono ?_)
  rintro e w3 ⟨q, rfl, hq0, hq1, hr3, g3⟩
  have c3 := c2.grown g3 c2.size (fun k hk => by simp only [Option.some.injEq] at hk; omega)
  clear hr2 g3 hq1
  by_cases hz : q = 0
  · have hz' : (q == 0) = true := by simpa using hz
    clear hz
    go_wp2_with fail
    clear hz'
    have hr3' : Rdr { w3 with drawn := w3.drawn + 1 } g 2 := hr3
    have hnw : IntKind.i64.wrap (n + 1) = n + 1 := IntWalk.i64_in _ (by omega)
    refine wp_region_goods (G := GR n g) (c := fun i => i == 3 || i == 10) (R := Rg w3 g 4) (T := fun w' w'' => w'.grownBy w'' (some g)) (by kernel_rfl) (by kernel_rfl) ⟨⟨rfl, rfl, rfl, Nat.le_refl _, fun _ _ _ => rfl⟩, 2, by decide, hr3'⟩ GR.kept ⟨?s1, ?s2, ?s3, ?s4, ?s5, ?s6, ?s7, ?s8, ?s9, ?s10, ?s11, ?s12, ?s13, ?s14, ?s15, trivial⟩ ?hend
    case s1 =>
      intro a' w' m hR hrest _ K hK
      have e : a'.tmps.getD 5 undef = .int .i64 n := hrest 5 (by kernel_rfl)
      have e' := slot_of e
      go_simp
      exact hK _ _ rfl hR (World.grownBy.refl _ _)
    case s2 =>
      intro a' w' m hR _ hdep K hK
      have e : a'.tmps.getD 14 undef = .int .i64 n := hdep 0 (by kernel_rfl)
      have e' := slot_of e
      go_simp
      exact hK (.slice (some ⟨w'.heap.size, 0, none⟩) 3 3) _ (small3_new hR.lt (fun j hj => by rcases (by omega : j = 0 ∨ j = 1 ∨ j = 2) with rfl | rfl | rfl <;> exact ⟨_, rfl, _, rfl, by omega, by omega⟩)) (hR.alloc _) (World.grownBy_alloc _ _ _)
    case s3 =>
      intro a' w' m hR hrest _ K hK
      have e : a'.tmps.getD 4 undef = .pointer (some ⟨g, 0, none⟩) := hrest 4 (by kernel_rfl)
      have e' := slot_of e
      go_simp
      exact hK _ _ rfl hR (World.grownBy.refl _ _)
    case s4 =>
      intro a' w' m hR _ hdep K hK
      have e : a'.tmps.getD 16 undef = .pointer (some ⟨g, 0, none⟩) := hdep 2 (by kernel_rfl)
      have e' := slot_of e
      obtain ⟨hgr, p, hp, hrd⟩ := hR
      go_simp
      refine (pick hrd (by have : p + (m + 1) ≤ 4 := hp; omega) (by omega) (by omega)).mono ?_
      rintro e w4 ⟨r, rfl, hr0, hr1, hr4, g4⟩
      exact hK _ _ ⟨r, rfl, by omega, by have := hr1 (by omega); omega⟩ ⟨grown_trans hgr g4, p + 1, by have : p + (m + 1) ≤ 4 := hp; omega, hr4⟩ g4
    case s5 =>
      intro a' w' m hR _ hdep K hK
      obtain ⟨b, e, hb, hc⟩ : Small3 g 0 9 (a'.tmps.getD 15 undef) w' := hdep 1 (by kernel_rfl)
      obtain ⟨r, e2, hr0, hr1⟩ : Small 0 2 (a'.tmps.getD 17 undef) := hdep 3 (by kernel_rfl)
      have e' := slot_of e
      have e2' := slot_of e2
      have hr3 : r < 3 := by omega
      obtain ⟨u, hu, hs⟩ := hc r.toNat (by omega)
      have HH := Lib.hid (show SmallAt g 0 9 (.pointer (some ⟨b, r.toNat, none⟩)) w' from ⟨b, r.toNat, u, rfl, hb, hu, hs⟩)
      clear hu hs hc hdep
      go_simp
      exact hK (.pointer (some ⟨b, r.toNat, none⟩)) _ HH.out hR (World.grownBy.refl _ _)
    case s6 =>
      intro a' w' m hR _ hdep K hK
      obtain ⟨b, j, u, e, hb, hc, x, rfl, hx0, hx1⟩ : SmallAt g 0 9 (a'.tmps.getD 18 undef) w' := hdep 4 (by kernel_rfl)
      have e' := slot_of e
      go_simp
      exact hK _ _ ⟨x, rfl, hx0, hx1⟩ hR (World.grownBy.refl _ _)
    case s7 =>
      intro a' w' m hR hrest _ K hK
      have e : a'.tmps.getD 5 undef = .int .i64 n := hrest 5 (by kernel_rfl)
      have e' := slot_of e
      go_simp
      exact hK _ _ rfl hR (World.grownBy.refl _ _)
    case s8 =>
      intro a' w' m hR _ hdep K hK
      have e : a'.tmps.getD 20 undef = .int .i64 n := hdep 6 (by kernel_rfl)
      have e' := slot_of e
      go_simp
      exact hK (.int .i64 (n + 1)) _ rfl hR (World.grownBy.refl _ _)
    case s9 =>
      intro a' w' m hR _ hdep K hK
      have e : a'.tmps.getD 21 undef = .int .i64 (n + 1) := hdep 7 (by kernel_rfl)
      have e' := slot_of e
      go_simp
      exact hK (.slice (some ⟨w'.heap.size, 0, none⟩) 2 2) _ (small2_new hR.lt (fun j hj => by rcases (by omega : j = 0 ∨ j = 1) with rfl | rfl <;> exact ⟨_, rfl, _, rfl, by omega, by omega⟩)) (hR.alloc _) (World.grownBy_alloc _ _ _)
    case s10 =>
      intro a' w' m hR hrest _ K hK
      have e : a'.tmps.getD 4 undef = .pointer (some ⟨g, 0, none⟩) := hrest 4 (by kernel_rfl)
      have e' := slot_of e
      go_simp
      exact hK _ _ rfl hR (World.grownBy.refl _ _)
    case s11 =>
      intro a' w' m hR _ hdep K hK
      have e : a'.tmps.getD 23 undef = .pointer (some ⟨g, 0, none⟩) := hdep 9 (by kernel_rfl)
      have e' := slot_of e
      obtain ⟨hgr, p, hp, hrd⟩ := hR
      go_simp
      refine (pick hrd (by have : p + (m + 1) ≤ 4 := hp; omega) (by omega) (by omega)).mono ?_
      rintro e w4 ⟨r, rfl, hr0, hr1, hr4, g4⟩
      exact hK _ _ ⟨r, rfl, by omega, by have := hr1 (by omega); omega⟩ ⟨grown_trans hgr g4, p + 1, by have : p + (m + 1) ≤ 4 := hp; omega, hr4⟩ g4
    case s12 =>
      intro a' w' m hR _ hdep K hK
      obtain ⟨b, e, hb, hc⟩ : Small2 g 0 10 (a'.tmps.getD 22 undef) w' := hdep 8 (by kernel_rfl)
      obtain ⟨r, e2, hr0, hr1⟩ : Small 0 1 (a'.tmps.getD 24 undef) := hdep 10 (by kernel_rfl)
      have e' := slot_of e
      have e2' := slot_of e2
      have hr3 : r < 2 := by omega
      obtain ⟨u, hu, hs⟩ := hc r.toNat (by omega)
      have HH := Lib.hid (show SmallAt g 0 10 (.pointer (some ⟨b, r.toNat, none⟩)) w' from ⟨b, r.toNat, u, rfl, hb, hu, hs⟩)
      clear hu hs hc hdep
      go_simp
      exact hK (.pointer (some ⟨b, r.toNat, none⟩)) _ HH.out hR (World.grownBy.refl _ _)
    case s13 =>
      intro a' w' m hR _ hdep K hK
      obtain ⟨b, j, u, e, hb, hc, x, rfl, hx0, hx1⟩ : SmallAt g 0 10 (a'.tmps.getD 25 undef) w' := hdep 11 (by kernel_rfl)
      have e' := slot_of e
      go_simp
      exact hK _ _ ⟨x, rfl, hx0, hx1⟩ hR (World.grownBy.refl _ _)
    case s14 =>
      intro a' w' m hR _ hdep K hK
      obtain ⟨x, e, hx0, hx1⟩ : Small 0 9 (a'.tmps.getD 19 undef) := hdep 5 (by kernel_rfl)
      have e' := slot_of e
      go_simp
      exact hK _ _ ⟨x, rfl, hx0, hx1⟩ hR (World.grownBy.refl _ _)
    case s15 =>
      intro a' w' m hR _ hdep K hK
      obtain ⟨x, e, hx0, hx1⟩ : Small 0 10 (a'.tmps.getD 26 undef) := hdep 12 (by kernel_rfl)
      have e' := slot_of e
      go_simp
      exact hK _ _ ⟨x, rfl, hx0, hx1⟩ hR (World.grownBy.refl _ _)
    case hend =>
      rintro ⟨tm, df⟩ w' hsz hdf ⟨hgr, _⟩ _ hgood
      have hdf' : df = [] := hdf
      subst hdf'
      obtain ⟨x, e, hx0, hx1⟩ : Small 0 9 (tm.getD 2 undef) := hgood 13 (by decide)
      obtain ⟨y, e2, hy0, hy1⟩ : Small 0 10 (tm.getD 3 undef) := hgood 14 (by decide)
      have e' : tm[2]?.getD undef = _ := slot_of (a := ⟨tm, []⟩) e
      have e2' : tm[3]?.getD undef = _ := slot_of (a := ⟨tm, []⟩) e2
      go_wp2_with fail
      go_ret2
      exact ⟨x, y, by simp only [e, e2], hx0, hx1, hy0, hy1, c3.grown hgr c3.size (fun k hk => by simp only [Option.some.injEq] at hk; omega)⟩
  · have hz' : (q == 0) = false := by simpa using hz
    clear hz
    go_wp2_with (go_at_call 35; with_reducible refine (pick hr3 (by omega) (by omega) (by omega)).mono ?_)
    rintro e w5 ⟨y, rfl, hy0, hy1, hr5, g5⟩
    have hy1' := hy1 (by omega)
    have c5 := c3.grown g5 c3.size (fun k hk => by simp only [Option.some.injEq] at hk; omega)
    have hyw : IntKind.i64.wrap (1 + y) = 1 + y := IntWalk.i64_in _ (by omega)
    clear hy1 g5 hr3
    go_wp2_with fail
    go_ret2
    exact ⟨_, _, rfl, by omega, by omega, by omega, by omega, c5⟩

end Go.Proofs.YtilkphehonilbaaDoor
