/-
  A drawn book and a drawn ring: lists of small lengths. For every reader that stands below 1000000.
-/
import Derived.Test.YtcfnklpbiodhjaaDrawB
import Derived.Test.YtcfnklpbiodhjaaRings
namespace Go.Proofs.Ytcfnklpbiodhjaa
open Go.RowKit

/-- What the drawing of an index hands back. -/
def DrawnAt (w : World) (g p : Nat) (n : Int) (e : Ending) (w' : World) : Prop :=
  ∃ (x : Int) (p' : Nat), e = .returned (.int .i64 x) ∧ -1 ≤ x ∧ x ≤ n ∧ Rd w' g p' ∧ p' ≤ p + 2 ∧ w.grownBy w' (some g)

set_option maxHeartbeats 1000000 in
theorem drawAt {w : World} {g p : Nat} {n : Int} (h : Rd w g p) (hp : p ≤ 1000100) (hn0 : 1 ≤ n) (hn1 : n ≤ 1000) :
    Calls Try.prog 47 #[.pointer (some ⟨g, 0, none⟩), .int .i64 n] w (DrawnAt w g p n) := by
  have hgl := h.lt
  have hz : (n == 0) = false := by simp; omega
  go_enter Try.func47, Try.ntmps47
  go_wp2_with (go_at_call 35; refine (pick h (by omega) (by omega) (by omega)).mono ?_)
  rintro e w1 ⟨r, rfl, hr0, hr1, hrd1, g1⟩
  have hgl1 := hrd1.lt
  clear hz h hr1
  by_cases h0 : r = 0
  · subst h0
    go_wp2_with (go_at_call 35; refine (pick (hrd1.alloc _) (by omega) (by omega) (by omega)).mono ?_)
    rintro e w2 ⟨q, rfl, hq0, hq1, hrd2, g2⟩
    have hq1' := hq1 (by omega)
    have gg := grown_trans (grown_alloc g1 (.cells #[.int .i64 (-1), .int .i64 n] 3)) g2
    obtain ⟨x, hx, hx0, hx1⟩ : ∃ x : Int, w2.cell? ⟨w1.heap.size, q.toNat, none⟩ = some (.int .i64 x) ∧ -1 ≤ x ∧ x ≤ n := by
      have hl := fun j hj => lit_cell g2 hgl1 (j := j) hj
      have h4 : q.toNat = 0 ∨ q.toNat = 1 := by omega
      rcases h4 with e | e <;> rw [e]
      · exact ⟨-1, hl 0 (by simp), by omega, by omega⟩
      · exact ⟨n, hl 1 (by simp), by omega, by omega⟩
    clear g1 g2 hq1
    go_wp2_with fail
    go_ret
    exact ⟨x, _, rfl, hx0, hx1, hrd2, by omega, gg⟩
  · have h0' : (r == 0) = false := by simpa using h0
    clear h0
    go_wp2_with (go_at_call 35; refine (pick hrd1 (by omega) (by omega) (by omega)).mono ?_)
    rintro e w2 ⟨q, rfl, hq0, hq1, hrd2, g2⟩
    have hq1' := hq1 (by omega)
    have gg := grown_trans g1 g2
    clear g1 g2 hq1
    go_wp2_with fail
    go_ret
    exact ⟨q, _, rfl, by omega, by omega, hrd2, by omega, gg⟩

/-- What the drawing of indexes hands back. -/
def DrawnL (w : World) (g p : Nat) (e : Ending) (w' : World) : Prop :=
  ∃ (v : Value) (xs : List Int) (p' : Nat), e = .returned v ∧ OwnI w' w.heap.size v xs ∧ xs.length ≤ 6 ∧ Rd w' g p' ∧ p' ≤ p + 16 ∧ w.grownBy w' (some g)

set_option maxHeartbeats 2000000 in
theorem drawList {w : World} {g p n : Nat} (h : Rd w g p) (hp : p ≤ 1000070) (hn : n ≤ 1000) :
    Calls Try.prog 34 #[.pointer (some ⟨g, 0, none⟩), .int .i64 n] w (DrawnL w g p) := by
  have hgl := h.lt
  obtain ⟨i0, hi, hz0, hz1, hz2⟩ := info_parts info_int
  go_enter Try.func34, Try.ntmps34
  go_wp2_with (go_at_call 35; refine (pick (h.alloc _) (by omega) (by omega) (by omega)).mono ?_)
  rintro e w1 ⟨m, rfl, hm0, hm1, hr1, g1⟩
  have hm1' := hm1 (by omega)
  have og1 : OwnI w1 w.heap.size (.slice (some ⟨w.heap.size, 0, none⟩) 0 0) [] := (own_empty w).kept g1 (own_not (own_empty w) hgl)
  have gg1 : w.grownBy w1 (some g) := grown_trans (World.grownBy_alloc w _ (some g)) g1
  obtain ⟨p1, hp1⟩ : ∃ p1, p1 = p + 1 := ⟨_, rfl⟩
  rw [← hp1] at hr1
  clear g1 hm1
  go_wp2_with fail
  go_loopw [5, 7] (fun o i wr => ∃ (k p2 : Nat) (xs : List Int), (k : Int) ≤ m ∧ i = .int .i64 k ∧ xs.length = k ∧ OwnI wr w.heap.size o xs ∧ Rd wr g p2 ∧ p2 ≤ p1 + 2 * k ∧ w.grownBy wr (some g)) (fun _ i _ => (6 - intOf i).toNat)
  case atStart => exact ⟨0, p1, [], by omega, rfl, rfl, og1, hr1, by omega, gg1⟩
  case round =>
    clear og1 hr1 gg1
    obtain ⟨k, p2, xs, hk, rfl, hxl, hown, hrd, hp2, hgr⟩ := hrel
    have hsz := hgr.size
    have HXL := Lib.hid hxl
    by_cases hlt : (k : Int) < m
    · by_cases hn1 : 1 ≤ n
      · have hni : (0 : Int) < (n : Int) := by omega
        have hnn : 0 < n := by omega
        clear hxl
        go_wp2_with (go_at_call 47; refine (drawAt hrd (by omega) (by omega) (by omega)).mono ?_)
        rintro e w2 ⟨x, p3, rfl, hx0, hx1, hr2, hp3, g2⟩
        have hown2 := hown.kept g2 (own_not hown hgl)
        unfold OwnI at hown2
        have hgr2 := grown_trans hgr g2
        have hsz2 := hgr2.size
        rw [HXL.out] at hown2
        clear hown hrd hgr g2
        go_wp2_with (at_builtin; refine wpList_append_own _ rfl _ _ 24 rfl w.heap.size 3 i0 (.int .i64 0) 1 8 Try.underlying24 hi hz0 hz1 hz2 rfl (by decide) _ _ _ rfl (hown2.alloc _) ⟨w2.heap.size, 0, none⟩ 1 1 [.int .i64 x] rfl rfl ?c1 ?c2 ?c3 ?c4 ?c5 ?_)
        case c1 => exact cell_one_new _ _ _
        case c2 => intro u hu; simp at hu; subst hu; rfl
        case c3 => simp only [maxLen]; omega
        case c4 => omega
        case c5 => simp; omega
        intro v' w3 hown' hgrow _
        have hlow := low_of hown2
        have HG := Lib.hid (grown_new (grown_alloc hgr2 _) hgrow hlow)
        have HR := Lib.hid ((hr2.alloc _).grown hgrow (fun b e => Nat.lt_of_lt_of_le hgl (hlow b e)))
        have HO := Lib.hid hown'
        clear hown' hgrow hown2 hgr2 hr2 hlow
        go_wp2_with fail
        go_roundw
        case rel =>
          refine ⟨k + 1, p3, xs ++ [x], by omega, by go_num, by simp [HXL.out], ?_, HR.out, by omega, HG.out⟩
          unfold OwnI
          have := HO.out
          simpa [HXL.out] using this
        case measure => simp [intOf]; omega
      · have hn0 : n = 0 := by omega
        subst hn0
        clear hxl hn1
        go_wp2_with fail
        go_ret
        exact ⟨_, xs, p2, rfl, hown, by rw [HXL.out]; omega, hrd, by omega, hgr⟩
    · clear hxl
      go_wp2_with fail
      go_ret
      exact ⟨_, xs, p2, rfl, hown, by rw [HXL.out]; omega, hrd, by omega, hgr⟩

theorem Lies.front {w : World} {base n c : Nat} {own : Option Nat} {a : Option Addr} {xs : List Int} (h : Lies w base own (.slice a n c) xs) {m : Nat} (hm : m ≤ xs.length) : Lies w base own (.slice a m c) (xs.take m) := by
  obtain ⟨h1, h2⟩ := h
  refine ⟨h1.take hm, ?_⟩
  rcases h2 with rfl | h2
  · exact .inl (by simp)
  · refine .inr fun b o k c' e => ?_
    simp only [Value.slice.injEq] at e
    exact h2 b o n c (by rw [e.1])
theorem cells_two_new (w : World) (x y : Value) (t : TypeId) : ∀ (j : Nat) (u : Value), [x, y][j]? = some u → (w.alloc (.cells #[x, y] t)).cell? ((⟨w.heap.size, 0, none⟩ : Addr).add j) = some u := by
  intro j u h
  have e : (⟨w.heap.size, 0, none⟩ : Addr).add j = ⟨w.heap.size, j, none⟩ := by unfold Addr.add; split <;> simp_all
  rw [e]
  unfold World.cell?
  simp only [heap_alloc_new]
  simpa using h

/-- What is good in the region that hands back a book and a small ring. -/
def G6 (g : Nat) (U : Value) (i : Nat) (v : Value) (w : World) : Prop :=
  match i with
  | 0 => v = U
  | 1 => ∃ B, v = .slice (some ⟨B, 0, none⟩) 3 3 ∧ Lies w (g + 1) none (.slice (some ⟨B, 0, none⟩) 3 3) [1, 7, 0]
  | 2 => v = .pointer (some ⟨g, 0, none⟩)
  | 3 => SmallN 0 2 v
  | 4 => SmallN 1 3 v
  | 5 => ∃ m, Lies w (g + 1) none v (([1, 7, 0] : List Int).take m)
  | 6 => v = U
  | 7 => ∃ m, Lies w (g + 1) none v (([1, 7, 0] : List Int).take m)
  | _ => True
theorem G6.kept {g : Nat} {U : Value} {i : Nat} {v : Value} {w w' : World} (h : G6 g U i v w) (t : w.grownBy w' (some g)) : G6 g U i v w' := by
  unfold G6 at h ⊢
  split at h
  · exact h
  · obtain ⟨B, e, hl⟩ := h
    exact ⟨B, e, hl.kept t (fun b q => by simp at q; omega)⟩
  · exact h
  · exact h
  · exact h
  · obtain ⟨m, hl⟩ := h
    exact ⟨m, hl.kept t (fun b q => by simp at q; omega)⟩
  · exact h
  · obtain ⟨m, hl⟩ := h
    exact ⟨m, hl.kept t (fun b q => by simp at q; omega)⟩
  · trivial
def R6 (w0 : World) (g P : Nat) (D : Nat → Bool) (w : World) : Prop := Rd w g (if D 3 then P + 1 else P) ∧ w0.grownBy w (some g)
theorem R6.same {w0 w w' : World} {g P : Nat} {D D' : Nat → Bool} (h : R6 w0 g P D w) (hg : w.grownBy w' none) (h3 : D' 3 = D 3) : R6 w0 g P D' w' := by
  obtain ⟨a1, a2⟩ := h
  exact ⟨by rw [h3]; exact a1.grown hg (fun b q => by cases q), grown_trans a2 ⟨hg.os, hg.tape, hg.output, hg.size, fun k hk _ => hg.block k hk (by simp)⟩⟩
theorem R6.lt {w0 w : World} {g P : Nat} {D : Nat → Bool} (h : R6 w0 g P D w) : g < w.heap.size := h.1.lt
theorem three_lit {w : World} {g : Nat} {U : Value} (h : g < w.heap.size) : G6 g U 1 (.slice (some ⟨w.heap.size, 0, none⟩) 3 3) (w.alloc (.cells #[.int .i64 1, .int .i64 7, .int .i64 0] 3)) := by
  refine ⟨_, rfl, Lies.of_new (w := w) ⟨_, _, rfl, by simp, .inr ⟨w.heap.size, 0, rfl, by simp, fun i hi => ?_⟩⟩ (by omega) (fun b q => by cases q) (fun b o m c q => by simp at q; omega)⟩
  unfold World.cell?
  simp only [heap_alloc_new]
  simp at hi
  rcases (by omega : i = 0 ∨ i = 1 ∨ i = 2) with rfl | rfl | rfl <;> rfl

theorem ringOf_20 (bk : List (List Int)) (ls : List Int) : (ringOf bk ls).length ≤ 25 := by
  unfold ringOf
  split
  · rename_i h
    simp only [ringB, Bool.and_eq_true, decide_eq_true_eq] at h
    have := h.2.short
    omega
  · simp

/-- What the drawing of a book and a ring hands back. -/
def DrawnRing (w : World) (g : Nat) (e : Ending) (w' : World) : Prop :=
  ∃ (u v : Value) (bk : List (List Int)) (rs : List Int), e = .returned (.tuple #[u, v]) ∧ Lists w' u bk ∧ Ints w' v rs ∧ bk.length ≤ 7 ∧ rs.length ≤ 40 ∧ w.grownBy w' (some g)

set_option maxHeartbeats 4000000 in
theorem drawRing {w : World} {g p : Nat} (h : Rd w g p) (hp : p ≤ 1000) :
    Calls Try.prog 21 #[.pointer (some ⟨g, 0, none⟩)] w (DrawnRing w g) := by
  have hgl := h.lt
  obtain ⟨i0, hi, hz0, hz1, hz2⟩ := info_parts info_int
  go_enter Try.func21, Try.ntmps21
  go_wp2_with (go_at_call 32; refine (drawBook h (by omega)).mono ?_)
  rintro e w1 ⟨U, bk, p1, rfl, hbk1, hb7, hsh, hr1, hp1, g1⟩
  clear h hsh
  have hU : ∃ a c, U = .slice a bk.length c := by
    obtain ⟨vals, ho, _⟩ := hbk1
    exact own_slice ho
  obtain ⟨aU, cU, hU⟩ := hU
  have hsz1 := g1.size
  rw [hU]
  go_wp2_with (go_at_call 34; refine (drawList hr1 (by omega) (by omega)).mono ?_)
  rintro e w2 ⟨vl, ls, p2, rfl, hol, hl6, hr2, hp2, g2⟩
  have hbk2 := hbk1.kept g2 (fun b e => by simp at e; omega)
  have gg2 := grown_trans g1 g2
  have hgl2 := hr2.lt
  clear hbk1 hr1 g1 g2
  have HSR := Lib.hid (specRing (hbk2.lists (by omega)) (hol.ints (by omega)))
  rw [hU] at HSR
  have hrl := ringOf_20 bk ls
  obtain ⟨rg, hrg⟩ : ∃ rg, rg = ringOf bk ls := ⟨_, rfl⟩
  obtain ⟨ok, hok⟩ : ∃ ok, ok = ringB bk ls := ⟨_, rfl⟩
  rw [← hrg, ← hok] at HSR
  rw [← hrg] at hrl
  clear hrg hok hol
  go_wp2_with (go_at_call 33; refine HSR.out.mono ?_)
  rintro e w3 ⟨vr, rfl, hor, b3⟩
  have hbk3 := hbk2.kept (below_grown b3) (fun b e => by cases e)
  have hr3 := hr2.grown (below_grown b3) (fun b e => by cases e)
  have gg3 := grown_trans gg2 ⟨b3.os, b3.tape, b3.output, b3.size, fun j hj _ => b3.block j hj⟩
  rw [← hU]
  have HU := Lib.hid hU
  clear hbk2 hr2 gg2 b3 HSR hU
  have hsz3 := gg3.size
  have hgl3 := hr3.lt
  cases ok
  · have hgr := gg3
    have hbk := hbk3
    obtain ⟨P2, hP2, hrd⟩ : ∃ P2, P2 ≤ 1100 ∧ Rd w3 g P2 := ⟨_, by omega, hr3⟩
    clear gg3 hbk3 hr3 hor
    go_wp2_with (go_at_call 35; refine (pick hrd (by omega) (by omega) (by omega)).mono ?_)
    rintro e w5 ⟨q, rfl, hq0, hq1, hrd5, g5⟩
    have hgr5 := grown_trans hgr g5
    have hbk5 := hbk.kept g5 (fun b e => by simp at e; omega)
    have hsz5 := hgr5.size
    clear hrd hgr g5 hbk hq1
    by_cases hq : q = 0
    · subst hq
      have HBK := Lib.hid hbk5
      have HRD := Lib.hid hrd5
      have HGR := Lib.hid hgr5
      clear hbk5 hrd5 hgr5
      go_wp2_with fail
      refine wp_region_goodsL (G := G6 g U) (R := R6 w5 g (P2 + 1)) (T := fun _ w' w'' => w'.grownBy w'' (some g)) (by kernel_rfl) (by kernel_rfl) ?start (fun _ _ _ _ _ _ _ _ _ t h => h.kept t) ⟨?s0, ?s1, ?s2, ?s3, ?s4, ?s5, ?s6, ?s7, trivial⟩ ?hend
      case start =>
        intro D hD
        exact ⟨by rw [hD]; exact HRD.out, ⟨rfl, rfl, rfl, Nat.le_refl _, fun _ _ _ => rfl⟩⟩
      case s0 =>
        intro a' w' D D' _ _ hdo _ hR hrest _ K hK
        have e : a'.tmps.getD 4 undef = U := hrest 4 (by kernel_rfl)
        go_simp
        exact hK _ _ rfl (hR.same (World.grownBy.refl _ _) (hdo 3 (by decide))) (World.grownBy.refl _ _)
      case s1 =>
        intro a' w' D D' _ _ hdo _ hR hrest _ K hK
        have hlt := hR.lt
        go_simp
        exact hK (.slice (some ⟨w'.heap.size, 0, none⟩) 3 3) _ (three_lit hlt) (hR.same (World.grownBy_alloc _ _ _) (hdo 3 (by decide))) (World.grownBy_alloc _ _ _)
      case s2 =>
        intro a' w' D D' _ _ hdo _ hR hrest _ K hK
        have e : a'.tmps.getD 0 undef = .pointer (some ⟨g, 0, none⟩) := hrest 0 (by kernel_rfl)
        go_simp
        exact hK _ _ rfl (hR.same (World.grownBy.refl _ _) (hdo 3 (by decide))) (World.grownBy.refl _ _)
      case s3 =>
        intro a' w' D D' hD3 hD3' hdo _ hR _ hdep K hK
        have e : a'.tmps.getD 31 undef = .pointer (some ⟨g, 0, none⟩) := hdep 2 (by kernel_rfl)
        have e' := slot_of e
        obtain ⟨r1, r2⟩ := hR
        rw [hD3] at r1
        simp only [Bool.false_eq_true, if_false] at r1
        go_simp
        refine (pick r1 (by omega) (by omega) (by omega)).mono ?_
        rintro e w6 ⟨r, rfl, hr0, hr1, hr6, g6⟩
        exact hK _ _ ⟨r, rfl, by omega, by have := hr1 (by omega); omega⟩ ⟨by rw [hD3']; exact hr6, grown_trans r2 g6⟩ g6
      case s4 =>
        intro a' w' D D' _ _ hdo _ hR _ hdep K hK
        obtain ⟨r, e, hr0, hr1⟩ : SmallN 0 2 (a'.tmps.getD 32 undef) := hdep 3 (by kernel_rfl)
        have e' := slot_of e
        have hw : IntKind.i64.wrap (1 + r) = 1 + r := IntWalk.i64_in _ (by omega)
        go_simp
        exact hK (.int .i64 (1 + r)) _ ⟨_, rfl, by omega, by omega⟩ (hR.same (World.grownBy.refl _ _) (hdo 3 (by decide))) (World.grownBy.refl _ _)
      case s5 =>
        intro a' w' D D' _ _ hdo _ hR _ hdep K hK
        obtain ⟨B, e, hl⟩ : ∃ B, a'.tmps.getD 30 undef = .slice (some ⟨B, 0, none⟩) 3 3 ∧ Lies w' (g + 1) none (.slice (some ⟨B, 0, none⟩) 3 3) [1, 7, 0] := hdep 1 (by kernel_rfl)
        obtain ⟨r, e2, hr0, hr1⟩ : SmallN 1 3 (a'.tmps.getD 33 undef) := hdep 4 (by kernel_rfl)
        have e' := slot_of e
        have e2' := slot_of e2
        have hr3 : r ≤ 3 := hr1
        have hr00 : 0 ≤ r := by omega
        have HL := Lib.hid (hl.front (show r.toNat ≤ 3 by omega))
        clear hl hdep
        go_simp
        exact hK (.slice (some ⟨B, 0, none⟩) r.toNat 3) _ ⟨_, HL.out⟩ (hR.same (World.grownBy.refl _ _) (hdo 3 (by decide))) (World.grownBy.refl _ _)
      case s6 =>
        intro a' w' D D' _ _ hdo _ hR _ hdep K hK
        have e : a'.tmps.getD 29 undef = U := hdep 0 (by kernel_rfl)
        have e' := slot_of e
        go_simp
        exact hK _ _ rfl (hR.same (World.grownBy.refl _ _) (hdo 3 (by decide))) (World.grownBy.refl _ _)
      case s7 =>
        intro a' w' D D' _ _ hdo _ hR _ hdep K hK
        obtain ⟨m, hl⟩ : ∃ m, Lies w' (g + 1) none (a'.tmps.getD 34 undef) ([1, 7, 0].take m) := hdep 5 (by kernel_rfl)
        obtain ⟨x1, e1⟩ : ∃ x, a'.tmps.getD 34 undef = x := ⟨_, rfl⟩
        rw [e1] at hl
        have e1' := slot_of e1
        have HL := Lib.hid hl
        clear hl e1 hdep
        go_simp
        exact hK x1 _ ⟨m, HL.out⟩ (hR.same (World.grownBy.refl _ _) (hdo 3 (by decide))) (World.grownBy.refl _ _)
      case hend =>
        rintro ⟨tm, df⟩ w' D hD hsz hdf hR _ hgood
        have hdf' : df = [] := hdf
        subst hdf'
        have e0 : tm.getD 2 undef = U := hgood 6 (by decide)
        obtain ⟨m, hl⟩ : ∃ m, Lies w' (g + 1) none (tm.getD 3 undef) ([1, 7, 0].take m) := hgood 7 (by decide)
        obtain ⟨x1, e1⟩ : ∃ x, tm.getD 3 undef = x := ⟨_, rfl⟩
        rw [e1] at hl
        have e0' : tm[2]?.getD undef = _ := slot_of (a := ⟨tm, []⟩) e0
        have e1' : tm[3]?.getD undef = _ := slot_of (a := ⟨tm, []⟩) e1
        have HL := Lib.hid hl
        clear hl
        go_wp2_with fail
        go_ret2
        exact ⟨U, x1, bk, _, by simp only [e0, e1], (HBK.out.kept hR.2 (fun b e => by simp at e; omega)).lists (by omega), HL.out.1, hb7, by simp; omega, grown_trans HGR.out hR.2⟩
    · have hq' : (q == 0) = false := by simpa using hq
      clear hq
      go_wp2_with (go_at_call 36; refine (drawCode hrd5 (by omega)).mono ?_)
      rintro e w6 ⟨x, xs, p6, rfl, ox, hx6, hr6, hp6, g6⟩
      have hsz6 := g6.size
      unfold OwnI at ox
      go_wp2_with (at_builtin; refine wpList_append_own _ rfl _ _ 24 rfl w5.heap.size 3 i0 (.int .i64 0) 1 8 Try.underlying24 hi hz0 hz1 hz2 rfl (by decide) _ _ _ rfl (ox.alloc _) ⟨w6.heap.size, 0, none⟩ 2 2 [.int .i64 1, .int .i64 2] rfl rfl ?c1 ?c2 ?c3 ?c4 ?c5 ?_)
      case c1 => exact cells_two_new _ _ _ _
      case c2 => intro u hu; simp at hu; rcases hu with rfl | rfl <;> rfl
      case c3 => simp only [maxLen]; omega
      case c4 => omega
      case c5 => simp; omega
      intro v' w7 hown' hgrow _
      have hg57 := grown_new (grown_alloc g6 (.cells #[.int .i64 1, .int .i64 2] 3)) hgrow (low_of ox)
      have HG := Lib.hid (grown_trans hgr5 hg57)
      have HB := Lib.hid (hbk5.kept hg57 (fun b e => by simp at e; omega))
      have HO := Lib.hid (show OwnI w7 w5.heap.size v' (xs ++ [1, 2]) by unfold OwnI; simpa using hown')
      clear hown' hgrow hg57 ox hbk5 hgr5 g6 hrd5 hr6
      go_wp2_with fail
      go_ret2
      exact ⟨_, v', bk, _, rfl, HB.out.lists (by omega), HO.out.ints (by simp; omega), hb7, by simp; omega, HG.out⟩
  · go_wp2_with (go_at_call 35; refine (pick hr3 (by omega) (by omega) (by omega)).mono ?_)
    rintro e w4 ⟨r, rfl, hq0, hq1, hr4, g4⟩
    by_cases h0 : 0 < r
    · go_wp2_with fail
      go_ret2
      exact ⟨_, _, bk, rg, rfl, (hbk3.kept g4 (fun b e => by simp at e; omega)).lists (by omega), (hor.kept g4 (own_not hor (by omega))).ints (by omega), hb7, by omega, grown_trans gg3 g4⟩
    · have h0' : decide (0 < r) = false := by simpa using h0
      have hgr := grown_trans gg3 g4
      have hbk := hbk3.kept g4 (fun b e => by simp at e; omega)
      obtain ⟨P2, hP2, hrd⟩ : ∃ P2, P2 ≤ 1100 ∧ Rd w4 g P2 := ⟨_, by omega, hr4⟩
      clear gg3 hbk3 hr3 g4 hr4 h0 hor
      go_wp2_with (go_at_call 35; refine (pick hrd (by omega) (by omega) (by omega)).mono ?_)
      rintro e w5 ⟨q, rfl, hq0, hq1, hrd5, g5⟩
      have hgr5 := grown_trans hgr g5
      have hbk5 := hbk.kept g5 (fun b e => by simp at e; omega)
      have hsz5 := hgr5.size
      clear hrd hgr g5 hbk hq1
      by_cases hq : q = 0
      · subst hq
        have HBK := Lib.hid hbk5
        have HRD := Lib.hid hrd5
        have HGR := Lib.hid hgr5
        clear hbk5 hrd5 hgr5
        go_wp2_with fail
        refine wp_region_goodsL (G := G6 g U) (R := R6 w5 g (P2 + 1)) (T := fun _ w' w'' => w'.grownBy w'' (some g)) (by kernel_rfl) (by kernel_rfl) ?start (fun _ _ _ _ _ _ _ _ _ t h => h.kept t) ⟨?s0, ?s1, ?s2, ?s3, ?s4, ?s5, ?s6, ?s7, trivial⟩ ?hend
        case start =>
          intro D hD
          exact ⟨by rw [hD]; exact HRD.out, ⟨rfl, rfl, rfl, Nat.le_refl _, fun _ _ _ => rfl⟩⟩
        case s0 =>
          intro a' w' D D' _ _ hdo _ hR hrest _ K hK
          have e : a'.tmps.getD 4 undef = U := hrest 4 (by kernel_rfl)
          go_simp
          exact hK _ _ rfl (hR.same (World.grownBy.refl _ _) (hdo 3 (by decide))) (World.grownBy.refl _ _)
        case s1 =>
          intro a' w' D D' _ _ hdo _ hR hrest _ K hK
          have hlt := hR.lt
          go_simp
          exact hK (.slice (some ⟨w'.heap.size, 0, none⟩) 3 3) _ (three_lit hlt) (hR.same (World.grownBy_alloc _ _ _) (hdo 3 (by decide))) (World.grownBy_alloc _ _ _)
        case s2 =>
          intro a' w' D D' _ _ hdo _ hR hrest _ K hK
          have e : a'.tmps.getD 0 undef = .pointer (some ⟨g, 0, none⟩) := hrest 0 (by kernel_rfl)
          go_simp
          exact hK _ _ rfl (hR.same (World.grownBy.refl _ _) (hdo 3 (by decide))) (World.grownBy.refl _ _)
        case s3 =>
          intro a' w' D D' hD3 hD3' hdo _ hR _ hdep K hK
          have e : a'.tmps.getD 31 undef = .pointer (some ⟨g, 0, none⟩) := hdep 2 (by kernel_rfl)
          have e' := slot_of e
          obtain ⟨r1, r2⟩ := hR
          rw [hD3] at r1
          simp only [Bool.false_eq_true, if_false] at r1
          go_simp
          refine (pick r1 (by omega) (by omega) (by omega)).mono ?_
          rintro e w6 ⟨r, rfl, hr0, hr1, hr6, g6⟩
          exact hK _ _ ⟨r, rfl, by omega, by have := hr1 (by omega); omega⟩ ⟨by rw [hD3']; exact hr6, grown_trans r2 g6⟩ g6
        case s4 =>
          intro a' w' D D' _ _ hdo _ hR _ hdep K hK
          obtain ⟨r, e, hr0, hr1⟩ : SmallN 0 2 (a'.tmps.getD 32 undef) := hdep 3 (by kernel_rfl)
          have e' := slot_of e
          have hw : IntKind.i64.wrap (1 + r) = 1 + r := IntWalk.i64_in _ (by omega)
          go_simp
          exact hK (.int .i64 (1 + r)) _ ⟨_, rfl, by omega, by omega⟩ (hR.same (World.grownBy.refl _ _) (hdo 3 (by decide))) (World.grownBy.refl _ _)
        case s5 =>
          intro a' w' D D' _ _ hdo _ hR _ hdep K hK
          obtain ⟨B, e, hl⟩ : ∃ B, a'.tmps.getD 30 undef = .slice (some ⟨B, 0, none⟩) 3 3 ∧ Lies w' (g + 1) none (.slice (some ⟨B, 0, none⟩) 3 3) [1, 7, 0] := hdep 1 (by kernel_rfl)
          obtain ⟨r, e2, hr0, hr1⟩ : SmallN 1 3 (a'.tmps.getD 33 undef) := hdep 4 (by kernel_rfl)
          have e' := slot_of e
          have e2' := slot_of e2
          have hr3 : r ≤ 3 := hr1
          have hr00 : 0 ≤ r := by omega
          have HL := Lib.hid (hl.front (show r.toNat ≤ 3 by omega))
          clear hl hdep
          go_simp
          exact hK (.slice (some ⟨B, 0, none⟩) r.toNat 3) _ ⟨_, HL.out⟩ (hR.same (World.grownBy.refl _ _) (hdo 3 (by decide))) (World.grownBy.refl _ _)
        case s6 =>
          intro a' w' D D' _ _ hdo _ hR _ hdep K hK
          have e : a'.tmps.getD 29 undef = U := hdep 0 (by kernel_rfl)
          have e' := slot_of e
          go_simp
          exact hK _ _ rfl (hR.same (World.grownBy.refl _ _) (hdo 3 (by decide))) (World.grownBy.refl _ _)
        case s7 =>
          intro a' w' D D' _ _ hdo _ hR _ hdep K hK
          obtain ⟨m, hl⟩ : ∃ m, Lies w' (g + 1) none (a'.tmps.getD 34 undef) ([1, 7, 0].take m) := hdep 5 (by kernel_rfl)
          obtain ⟨x1, e1⟩ : ∃ x, a'.tmps.getD 34 undef = x := ⟨_, rfl⟩
          rw [e1] at hl
          have e1' := slot_of e1
          have HL := Lib.hid hl
          clear hl e1 hdep
          go_simp
          exact hK x1 _ ⟨m, HL.out⟩ (hR.same (World.grownBy.refl _ _) (hdo 3 (by decide))) (World.grownBy.refl _ _)
        case hend =>
          rintro ⟨tm, df⟩ w' D hD hsz hdf hR _ hgood
          have hdf' : df = [] := hdf
          subst hdf'
          have e0 : tm.getD 2 undef = U := hgood 6 (by decide)
          obtain ⟨m, hl⟩ : ∃ m, Lies w' (g + 1) none (tm.getD 3 undef) ([1, 7, 0].take m) := hgood 7 (by decide)
          obtain ⟨x1, e1⟩ : ∃ x, tm.getD 3 undef = x := ⟨_, rfl⟩
          rw [e1] at hl
          have e0' : tm[2]?.getD undef = _ := slot_of (a := ⟨tm, []⟩) e0
          have e1' : tm[3]?.getD undef = _ := slot_of (a := ⟨tm, []⟩) e1
          have HL := Lib.hid hl
          clear hl
          go_wp2_with fail
          go_ret2
          exact ⟨U, x1, bk, _, by simp only [e0, e1], (HBK.out.kept hR.2 (fun b e => by simp at e; omega)).lists (by omega), HL.out.1, hb7, by simp; omega, grown_trans HGR.out hR.2⟩
      · have hq' : (q == 0) = false := by simpa using hq
        clear hq
        go_wp2_with (go_at_call 36; refine (drawCode hrd5 (by omega)).mono ?_)
        rintro e w6 ⟨x, xs, p6, rfl, ox, hx6, hr6, hp6, g6⟩
        have hsz6 := g6.size
        unfold OwnI at ox
        go_wp2_with (at_builtin; refine wpList_append_own _ rfl _ _ 24 rfl w5.heap.size 3 i0 (.int .i64 0) 1 8 Try.underlying24 hi hz0 hz1 hz2 rfl (by decide) _ _ _ rfl (ox.alloc _) ⟨w6.heap.size, 0, none⟩ 2 2 [.int .i64 1, .int .i64 2] rfl rfl ?c1 ?c2 ?c3 ?c4 ?c5 ?_)
        case c1 => exact cells_two_new _ _ _ _
        case c2 => intro u hu; simp at hu; rcases hu with rfl | rfl <;> rfl
        case c3 => simp only [maxLen]; omega
        case c4 => omega
        case c5 => simp; omega
        intro v' w7 hown' hgrow _
        have hg57 := grown_new (grown_alloc g6 (.cells #[.int .i64 1, .int .i64 2] 3)) hgrow (low_of ox)
        have HG := Lib.hid (grown_trans hgr5 hg57)
        have HB := Lib.hid (hbk5.kept hg57 (fun b e => by simp at e; omega))
        have HO := Lib.hid (show OwnI w7 w5.heap.size v' (xs ++ [1, 2]) by unfold OwnI; simpa using hown')
        clear hown' hgrow hg57 ox hbk5 hgr5 g6 hrd5 hr6
        go_wp2_with fail
        go_ret2
        exact ⟨_, v', bk, _, rfl, HB.out.lists (by omega), HO.out.ints (by simp; omega), hb7, by simp; omega, HG.out⟩

/-- A drawn book and a drawn ring, from the outside. -/
def DrawnPair (w : World) (e : Ending) (w' : World) : Prop :=
  ∃ (u v : Value) (bk : List (List Int)) (rs : List Int), e = .returned (.tuple #[u, v]) ∧ Lists w' u bk ∧ Ints w' v rs ∧ bk.length ≤ 7 ∧ rs.length ≤ 40 ∧ Below w.heap.size w w'

set_option maxHeartbeats 400000 in
theorem drawReadings {w : World} {a : Option Addr} {len cap : Nat} {zs : List Int} (h : IsRowK .u8 w a len cap zs) (hl : len ≤ 1048576) :
    Calls Try.prog 6 #[.slice a len cap] w (DrawnPair w) := by
  go_enter Try.func6, Try.ntmps6
  go_wp2_with (go_at_call 22; refine (openRd h hl).mono ?_)
  rintro e w1 ⟨g, rfl, hg, hr, b1⟩
  go_wp2_with (go_at_call 21; refine (drawRing hr (by omega)).mono ?_)
  rintro e w2 ⟨u, v, bk, rs, rfl, hu, hv, hb7, hr40, g2⟩
  go_wp2_with fail
  go_ret2
  exact ⟨u, v, bk, rs, rfl, hu, hv, hb7, hr40, b1.grown g2 b1.size (fun k hk => by simp only [Option.some.injEq] at hk; omega)⟩

end Go.Proofs.Ytcfnklpbiodhjaa
