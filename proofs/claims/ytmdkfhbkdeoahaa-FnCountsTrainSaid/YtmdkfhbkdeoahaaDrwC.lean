/-
  Drawn counts, drawn pulses. For codes of at most 1048576 bytes.
-/
import Derived.Test.YtmdkfhbkdeoahaaDrawA
import Derived.Test.YtmdkfhbkdeoahaaCtrF
import Derived.Test.YtmdkfhbkdeoahaaCtrL
namespace Go.Proofs.Ytmdkfhbkdeoahaa
open Go.RowKit Go.Sort

theorem grown_new {w w1 w2 : World} {row r2 : Option Nat} (h : w.grownBy w1 row) (k : w1.grownBy w2 r2) (hr : ∀ b, r2 = some b → w.heap.size ≤ b) : w.grownBy w2 row :=
  ⟨k.os.trans h.os, k.tape.trans h.tape, k.output.trans h.output, Nat.le_trans h.size k.size, fun i hi hne => (k.block i (Nat.lt_of_lt_of_le hi h.size) (fun e => by have := hr i e.symm; omega)).trans (h.block i hi hne)⟩
theorem grown_alloc {w w1 : World} {row : Option Nat} (h : w.grownBy w1 row) (o : Obj) : w.grownBy (w1.alloc o) row :=
  grown_new h (below_grown ((Below.refl _ _).alloc (Nat.le_refl _) o)) (fun b e => by cases e)
theorem Rdr.alloc {w : World} {g p : Nat} (h : Rdr w g p) (o : Obj) : Rdr (w.alloc o) g p :=
  h.grown (below_grown ((Below.refl _ _).alloc (Nat.le_refl _) o)) (fun b e => by cases e)
theorem own_not {w : World} {base g : Nat} {v : Value} {xs : List Int} (h : OwnI w base v xs) (hg : g < base) : v.ownBlock = none ∨ v.ownBlock ≠ some g :=
  .inr (fun e => by have := (World.ownsRow.lt h g e).1; omega)
theorem low_of {w : World} {base E n : Nat} {v : Value} {ys : List Value} (h : w.ownsRow base E 1 v n ys) : ∀ b, v.ownBlock = some b → base ≤ b := fun b e => (World.ownsRow.lt h b e).1
theorem lit_cell {w w' : World} {cs : Array Value} {t : TypeId} {g : Nat} (h : (w.alloc (.cells cs t)).grownBy w' (some g)) (hg : g < w.heap.size) {j : Nat} (hj : j < cs.size) : w'.cell? ⟨w.heap.size, j, none⟩ = some cs[j] := by
  refine h.cell ?_ (by simp; omega)
  have e := heap_alloc_new w (.cells cs t)
  unfold World.cell?
  simp only [e]
  simp [hj]

theorem own_list {w : World} {base : Nat} {v : Value} {xs : List Int} (h : OwnI w base v xs) (hl : xs.length ≤ 1048576) : ∃ a c, v = .slice a xs.length c ∧ Ints w v xs := by
  have i := h.ints hl
  obtain ⟨a, c, e, -⟩ := id i
  exact ⟨a, c, e, i⟩

/-- Numbers that are small. -/
def Low (m : Int) (xs : List Int) : Prop := ∀ i, i < xs.length → -m ≤ xs.getD i 0 ∧ xs.getD i 0 ≤ m
theorem Low.nil (m : Int) : Low m [] := fun i hi => by simp at hi
theorem Low.snoc {m x : Int} {xs : List Int} (h : Low m xs) (h1 : -m ≤ x) (h2 : x ≤ m) : Low m (xs ++ [x]) := by
  intro i hi
  by_cases e : i < xs.length
  · have := h i e
    simpa [List.getD_eq_getElem?_getD, List.getElem?_append_left e] using this
  · have : i = xs.length := by simp at hi; omega
    subst this
    simpa using And.intro h1 h2
theorem Low.set {m x : Int} {xs : List Int} (h : Low m xs) (k : Nat) (h1 : -m ≤ x) (h2 : x ≤ m) : Low m (xs.set k x) := by
  intro i hi
  rw [List.length_set] at hi
  by_cases hk : k < xs.length
  · rw [getD_set hk hi]
    split
    · exact ⟨h1, h2⟩
    · exact h i hi
  · rw [List.set_eq_of_length_le (by omega)]
    exact h i hi

/-- A drawn list of small numbers. -/
def DrawnLow (w : World) (g P n : Nat) (m : Int) (e : Ending) (w' : World) : Prop :=
  ∃ (v : Value) (xs : List Int) (q : Nat), e = .returned v ∧ OwnI w' w.heap.size v xs ∧ xs.length ≤ n ∧ Low m xs ∧ Rdr w' g q ∧ q ≤ P ∧ w.grownBy w' (some g)

set_option maxHeartbeats 4000000 in
theorem drawCounts {w : World} {g p : Nat} (h : Rdr w g p) (hp : p ≤ 500) :
    Calls Try.prog 27 #[.pointer (some ⟨g, 0, none⟩)] w (DrawnLow w g (p + 20) 4 51) := by
  have hgl := h.lt
  obtain ⟨i0, hi, hz0, hz1, hz2⟩ := info_parts info_int
  go_enter Try.func27, Try.ntmps27
  go_wp2_with (go_at_call 36; refine (pick (h.alloc _) (by omega) (by omega) (by omega)).mono ?_)
  rintro e w1 ⟨n, rfl, hn0, hn1, hr1, g1⟩
  have hn1' := hn1 (by omega)
  have og1 : OwnI w1 w.heap.size (.slice (some ⟨w.heap.size, 0, none⟩) 0 0) [] := (own_empty w).kept g1 (own_not (own_empty w) hgl)
  have gg1 : w.grownBy w1 (some g) := grown_trans (World.grownBy_alloc w _ (some g)) g1
  obtain ⟨p1, hp1⟩ : ∃ p1, p1 = p + 1 := ⟨_, rfl⟩
  rw [← hp1] at hr1
  clear g1 hn1
  go_wp2_with fail
  go_loopw [3, 5] (fun o i wr => ∃ (k : Nat) (xs : List Int), (k : Int) ≤ 1 + n ∧ i = .int .i64 k ∧ xs.length = k ∧ Low 51 xs ∧ OwnI wr w.heap.size o xs ∧ Rdr wr g (p1 + 2 * k) ∧ w.grownBy wr (some g)) (fun _ i _ => (5 - intOf i).toNat)
  case atStart => exact ⟨0, [], by omega, rfl, rfl, Low.nil _, og1, hr1, gg1⟩
  case round =>
    obtain ⟨k, xs, hk, rfl, hxl, hlow, hown, hrd, hgr⟩ := hrel
    have hk4 : k ≤ 4 := by omega
    have hsz := hgr.size
    have LX := Lib.hid hlow
    clear hlow
    by_cases hlt : (k : Int) < 1 + n
    · go_wp2_with (go_at_call 36; with_reducible refine (pick hrd (by omega) (by omega) (by omega)).mono ?_)
      rintro e w2 ⟨r, rfl, hq0, hq1, hr2, g2⟩
      have hq1' := hq1 (by omega)
      have hown1 := hown.kept g2 (own_not hown hgl)
      have hgr1 := grown_trans hgr g2
      clear hown hrd hgr g2 hq1
      go_wp2_with (go_at_call 36; with_reducible refine (pick hr2 (by omega) (by omega) (by omega)).mono ?_)
      rintro e w3 ⟨s, rfl, hs0, hs1, hr3, g3⟩
      have hs1' := hs1 (by omega)
      have hown2 := hown1.kept g3 (own_not hown1 hgl)
      have hgr2 := grown_trans hgr1 g3
      have hsz2 := hgr2.size
      have hp0 : 0 ≤ r * s := Int.mul_nonneg hq0 hs0
      have hp6 : r * s ≤ 6 := by
        have h1 : r = 0 ∨ r = 1 ∨ r = 2 ∨ r = 3 := by omega
        rcases h1 with rfl | rfl | rfl | rfl <;> omega
      have hwm : IntKind.i64.wrap (r * s) = r * s := IntWalk.i64_in _ (by omega)
      clear hown1 hgr1 g3 hs1 hr2
      unfold OwnI at hown2
      rw [hxl] at hown2
      go_wp2_with (at_builtin; refine wpList_append_own _ rfl _ _ 23 rfl w.heap.size 3 i0 (.int .i64 0) 1 8 Try.underlying23 hi hz0 hz1 hz2 rfl (by decide) _ _ _ rfl (hown2.alloc _) ⟨w3.heap.size, 0, none⟩ 1 1 [.int .i64 (r * s)] rfl rfl ?c1 ?c2 ?c3 ?c4 ?c5 ?_)
      case c1 => exact cell_one_new _ _ _
      case c2 => intro u hu; simp at hu; subst hu; rfl
      case c3 => simp only [maxLen]; omega
      case c4 => omega
      case c5 => simp; omega
      intro v' w4 hown' hgrow _
      have hlw := low_of hown2
      have HG := Lib.hid (grown_new (grown_alloc hgr2 _) hgrow hlw)
      have HR := Lib.hid ((hr3.alloc _).grown hgrow (fun b e => Nat.lt_of_lt_of_le hgl (hlw b e)))
      have HO := Lib.hid hown'
      clear hown' hgrow hown2 hgr2 hr3 hlw
      go_wp2_with fail
      go_roundw
      case rel =>
        refine ⟨k + 1, xs ++ [r * s], by omega, by go_num, by simp [hxl], LX.out.snoc (by omega) (by omega), ?_, HR.out, HG.out⟩
        unfold OwnI
        have := HO.out
        simpa [hxl] using this
      case measure => simp [intOf]; omega
    · have hk1 : 1 ≤ k := by omega
      clear hk hn0 hn1' og1 hr1 gg1
      go_wp2_with (go_at_call 36; refine (pick hrd (by omega) (by omega) (by omega)).mono ?_)
      rintro e w2 ⟨r, rfl, hq0, hq1, hr2, g2⟩
      have hown2 := hown.kept g2 (own_not hown hgl)
      have hgr2 := grown_trans hgr g2
      have hsz2 := hgr2.size
      have hgl2 := hr2.lt
      have HXL := Lib.hid hxl
      clear hown hrd hgr g2 hq1 hxl
      by_cases h0 : r = 0
      · subst h0
        go_wp2_with (go_at_call 36; refine (pick (hr2.alloc _) (by omega) (by omega) (by omega)).mono ?_)
        rintro e w3 ⟨q, rfl, hs0, hs1, hr3, g3⟩
        have hs1' := hs1 (by omega)
        obtain ⟨x, hx, hx0, hx1⟩ : ∃ x : Int, w3.cell? ⟨w2.heap.size, q.toNat, none⟩ = some (.int .i64 x) ∧ -51 ≤ x ∧ x ≤ 51 := by
          have hl := fun j hj => lit_cell g3 hgl2 (j := j) hj
          have h4 : q.toNat = 0 ∨ q.toNat = 1 ∨ q.toNat = 2 := by omega
          rcases h4 with e | e | e <;> rw [e] <;> exact ⟨_, hl _ (by decide), by decide, by decide⟩
        have hgr3 := grown_trans (grown_alloc hgr2 (.cells #[.int .i64 (-1), .int .i64 51, .int .i64 50] 3)) g3
        have hown3 := OwnI.kept (hown2.alloc _) g3 (own_not hown2 hgl)
        rcases hown3.shape with ⟨_, e⟩ | ⟨G, c, rfl, hG, hG2⟩
        · rw [e] at HXL; have := HXL.out; simp at this; omega
        · have hst := World.ownsRow.stored hown3 0 (.int .i64 x)
          have hc0 : ∃ y, w3.cell? ⟨G, 0, none⟩ = some y := by
            have h0 : 0 < xs.length := by rw [HXL.out]; exact hk1
            exact ⟨_, by rw [World.ownsRow.cellAt hown3 0 (by simpa using h0)]; simp [h0]; rfl⟩
          obtain ⟨y, hy⟩ := hc0
          have hf : w3.frozen? ⟨G, 0, none⟩ = false := World.ownsRow.frozenAt hown3 0
          have hlen : (0 : Int) < (xs.length : Int) := by rw [HXL.out]; omega
          have hlen' : 0 < xs.length := by rw [HXL.out]; omega
          have HST := Lib.hid hst
          clear hst g3 hown2 hr2 hs1
          go_wp2_with fail
          go_ret
          have ho : OwnI (w3.setCell ⟨G, 0, none⟩ (.int .i64 x)) w.heap.size (.slice (some ⟨G, 0, none⟩) xs.length c) (xs.set 0 x) := by
            unfold OwnI
            have := HST.out.1
            simpa [List.map_set] using this
          have hl4 : (xs.set 0 x).length ≤ 4 := by rw [List.length_set, HXL.out]; omega
          exact ⟨_, xs.set 0 x, _, rfl, ho, hl4, LX.out.set 0 hx0 hx1, hr3.grown HST.out.2 (fun b e => by simp at e; omega), by omega, grown_new hgr3 HST.out.2 (fun b e => by simp at e; omega)⟩
      · have h0' : (r == 0) = false := by simpa using h0
        by_cases h1 : r = 1
        · subst h1
          go_wp2_with fail
          go_ret
          have ho := own_empty w2
          exact ⟨_, [], _, rfl, ho.mono hsz2, by simp, Low.nil _, hr2.alloc _, by omega, grown_alloc hgr2 _⟩
        · have h1' : (r == 1) = false := by simpa using h1
          clear h0 h1
          go_wp2_with fail
          go_ret
          exact ⟨_, xs, _, rfl, hown2, by rw [HXL.out]; omega, LX.out, hr2, by omega, hgr2⟩

set_option maxHeartbeats 2000000 in
theorem drawPulse {w : World} {g p : Nat} (h : Rdr w g p) (hp : p ≤ 1000) {n : Int} (hn0 : 0 ≤ n) (hn : n ≤ 8) :
    Calls Try.prog 28 #[.pointer (some ⟨g, 0, none⟩), .int .i64 n] w fun e w' => ∃ (x : Int) (q : Nat), e = .returned (.int .i64 x) ∧ -2 - n ≤ x ∧ x ≤ n + 1 ∧ Rdr w' g q ∧ q ≤ p + 4 ∧ w.grownBy w' (some g) := by
  have hgl := h.lt
  go_enter Try.func28, Try.ntmps28
  go_wp2_with (go_at_call 36; refine (pick h (by omega) (by omega) (by omega)).mono ?_)
  rintro e w1 ⟨r, rfl, hr0, hr1, hr, g1⟩
  clear h hr1
  have hg1 := hr.lt
  by_cases h0 : r = 0
  · subst h0
    go_wp2_with (go_at_call 36; refine (pick (hr.alloc _) (by omega) (by omega) (by omega)).mono ?_)
    rintro e w2 ⟨q, rfl, hq0, hq1, hr2, g2⟩
    have hq1' := hq1 (by omega)
    have gg := grown_trans (grown_alloc g1 (.cells #[.int .i64 (n + 1), .int .i64 (-2 - n)] 3)) g2
    have hl := fun j hj => lit_cell g2 hg1 (j := j) hj
    have hc0 := hl 0 (by show 0 < 2; decide)
    have hc1 := hl 1 (by show 1 < 2; decide)
    have h2 : q = 0 ∨ q = 1 := by omega
    clear hl hq1 g2
    rcases h2 with rfl | rfl
    · go_wp2_with fail
      go_ret
      exact ⟨_, _, rfl, by omega, by omega, hr2, by omega, gg⟩
    · go_wp2_with fail
      go_ret
      exact ⟨_, _, rfl, by omega, by omega, hr2, by omega, gg⟩
  have t0 : (r == 0) = false := beq_eq_false_iff_ne.2 h0
  clear h0
  go_wp2_with (go_at_call 36; refine (pick hr (by omega) (by omega) (by omega)).mono ?_)
  rintro e w2 ⟨k, rfl, hk0, hk1, hr2, g2⟩
  have hk1' := hk1 (by omega)
  have gg2 := grown_trans g1 g2
  clear hr g2 hk1
  go_wp2_with (go_at_call 36; refine (pick hr2 (by omega) (by omega) (by omega)).mono ?_)
  rintro e w3 ⟨q, rfl, hq0, hq1, hr3, g3⟩
  have gg3 := grown_trans gg2 g3
  clear g3 hq1 hr2
  by_cases h0 : q = 0
  · subst h0
    go_wp2_with fail
    go_ret
    exact ⟨_, _, rfl, by omega, by omega, hr3, by omega, gg3⟩
  · have t1 : (q == 0) = false := beq_eq_false_iff_ne.2 h0
    clear h0
    go_wp2_with fail
    go_ret
    exact ⟨_, _, rfl, by omega, by omega, hr3, by omega, gg3⟩

set_option maxHeartbeats 400000 in
theorem drawCountsPulse {w : World} {a : Option Addr} {len cap : Nat} {zs : List Int} (h : IsRowK .u8 w a len cap zs) (hl : len ≤ 1048576) :
    Calls Try.prog 8 #[.slice a len cap] w fun e w' => ∃ (v : Value) (xs : List Int) (x : Int), e = .returned (.tuple #[v, .int .i64 x]) ∧ Ints w' v xs ∧ xs.length ≤ 4 ∧ Low 51 xs ∧ -6 ≤ x ∧ x ≤ 5 ∧ Below w.heap.size w w' := by
  go_enter Try.func8, Try.ntmps8
  go_wp2_with (go_at_call 26; refine (openRd h hl).mono ?_)
  rintro e w1 ⟨g, rfl, hg, hr, b1⟩
  have hg1 := hr.lt
  go_wp2_with (go_at_call 27; refine (drawCounts hr (by omega)).mono ?_)
  rintro e w2 ⟨v, xs, q, rfl, ho, hl4, hlo, hr2, hq, g2⟩
  obtain ⟨av, cv, rfl, -⟩ := own_list ho (by omega)
  have hli : (xs.length : Int) ≤ 4 := by omega
  go_wp2_with (go_at_call 28; refine (drawPulse hr2 (by omega) (by omega) (by omega)).mono ?_)
  rintro e w3 ⟨x, q3, rfl, hx0, hx1, _, _, g3⟩
  have ho3 := ho.kept g3 (own_not ho hg1)
  have gg := grown_trans g2 g3
  have hi := ho3.ints (by omega)
  go_wp2_with fail
  go_ret2
  exact ⟨_, xs, x, rfl, hi, hl4, hlo, by omega, by omega, b1.grown gg b1.size (fun k hk => by simp only [Option.some.injEq] at hk; omega)⟩

/-- A drawn list of small numbers, from the outside. -/
def DrawnInts (w : World) (n : Nat) (m : Int) (e : Ending) (w' : World) : Prop :=
  ∃ (v : Value) (xs : List Int), e = .returned v ∧ Ints w' v xs ∧ xs.length ≤ n ∧ Low m xs ∧ Below w.heap.size w w'

set_option maxHeartbeats 400000 in
theorem drawCountsClear {w : World} {a : Option Addr} {len cap : Nat} {zs : List Int} (h : IsRowK .u8 w a len cap zs) (hl : len ≤ 1048576) :
    Calls Try.prog 17 #[.slice a len cap] w (DrawnInts w 4 51) := by
  go_enter Try.func17, Try.ntmps17
  go_wp2_with (go_at_call 26; refine (openRd h hl).mono ?_)
  rintro e w1 ⟨g, rfl, hg, hr, b1⟩
  go_wp2_with (go_at_call 27; refine (drawCounts hr (by omega)).mono ?_)
  rintro e w2 ⟨v, xs, q, rfl, ho, hl4, hlo, _, _, g2⟩
  have hi := ho.ints (by omega)
  go_wp2_with fail
  go_ret
  exact ⟨_, xs, rfl, hi, hl4, hlo, b1.grown g2 b1.size (fun k hk => by simp only [Option.some.injEq] at hk; omega)⟩

end Go.Proofs.Ytmdkfhbkdeoahaa
