/-
  A drawn code: a list of at most six numbers. For every reader that stands below 1048576.
-/
import Derived.Test.YtoebgdcgcdigaaaDraws1
import Derived.Test.YtoebgdcgcdigaaaResults
import Derived.Test.YtoebgdcgcdigaaaKit
namespace Go.Proofs.Ytoebgdcgcdigaaa
open Go.RowKit

/-- A drawn list: it can be read, and lies behind what was there. -/
def DrawnList (w : World) (g p : Nat) (e : Ending) (w' : World) : Prop :=
  ∃ (v : Value) (xs : List Int) (p' : Nat), e = .returned v ∧ OwnI w' w.heap.size v xs ∧ xs.length ≤ 6 ∧ Rd w' g p' ∧ p' ≤ p + 8 ∧ w.grownBy w' (some g)

/-- What is written into a block that was not there is nothing to what was. -/
theorem grown_new {w w1 w2 : World} {row r2 : Option Nat} (h : w.grownBy w1 row) (k : w1.grownBy w2 r2) (hr : ∀ b, r2 = some b → w.heap.size ≤ b) : w.grownBy w2 row :=
  ⟨k.os.trans h.os, k.tape.trans h.tape, k.output.trans h.output, Nat.le_trans h.size k.size, fun i hi hne => (k.block i (Nat.lt_of_lt_of_le hi h.size) (fun e => by have := hr i e.symm; omega)).trans (h.block i hi hne)⟩
theorem grown_alloc {w w1 : World} {row : Option Nat} (h : w.grownBy w1 row) (o : Obj) : w.grownBy (w1.alloc o) row :=
  grown_new h (below_grown ((Below.refl _ _).alloc (Nat.le_refl _) o)) (fun b e => by cases e)
theorem Rd.alloc {w : World} {g p : Nat} (h : Rd w g p) (o : Obj) : Rd (w.alloc o) g p :=
  h.grown (below_grown ((Below.refl _ _).alloc (Nat.le_refl _) o)) (fun b e => by cases e)
theorem Rd.lt {w : World} {g p : Nat} (h : Rd w g p) : g < w.heap.size := by
  obtain ⟨v, n, h1, _⟩ := h
  exact (Array.getElem?_eq_some_iff.1 h1).1
theorem own_low {w : World} {base : Nat} {v : Value} {xs : List Int} (h : OwnI w base v xs) : ∀ b o m c, v = .slice (some ⟨b, o, none⟩) m c → base ≤ b := by
  intro b o m c e
  exact (World.ownsRow.lt h b (by rw [e]; rfl)).1
theorem own_not {w : World} {base g : Nat} {v : Value} {xs : List Int} (h : OwnI w base v xs) (hg : g < base) : v.ownBlock = none ∨ v.ownBlock ≠ some g :=
  .inr (fun e => by have := (World.ownsRow.lt h g e).1; omega)

theorem own_slice {w : World} {base E : Nat} {v : Value} {n : Nat} {ys : List Value} (h : w.ownsRow base E 1 v n ys) : ∃ a c, v = .slice a n c := by
  rcases h.2 with ⟨rfl, h0⟩ | ⟨g, cap, cur, rfl, _⟩
  · exact ⟨none, 0, by rw [h0]⟩
  · exact ⟨_, _, rfl⟩
/-- The cells of a literal, behind a pick. -/
theorem lit_cell {w w' : World} {cs : Array Value} {t : TypeId} {g : Nat} (h : (w.alloc (.cells cs t)).grownBy w' (some g)) (hg : g < w.heap.size) {j : Nat} (hj : j < cs.size) : w'.cell? ⟨w.heap.size, j, none⟩ = some cs[j] := by
  refine h.cell ?_ (by simp; omega)
  have e := heap_alloc_new w (.cells cs t)
  unfold World.cell?
  simp only [e]
  simp [hj]
theorem low_of {w : World} {base E n : Nat} {v : Value} {ys : List Value} (h : w.ownsRow base E 1 v n ys) : ∀ b, v.ownBlock = some b → base ≤ b := fun b e => (World.ownsRow.lt h b e).1

set_option maxHeartbeats 2000000 in
theorem drawCode {w : World} {g p : Nat} (h : Rd w g p) (hp : p ≤ 1048576) :
    Calls Try.prog 54 #[.pointer (some ⟨g, 0, none⟩)] w (DrawnList w g p) := by
  have hgl := h.lt
  obtain ⟨i0, hi, hz0, hz1, hz2⟩ := info_parts info_int
  go_enter Try.func54, Try.ntmps54
  go_wp2_with (go_at_call 55; refine (pick (h.alloc _) (by omega) (by omega) (by omega)).mono ?_)
  rintro e w1 ⟨n, rfl, hn0, hn1, hr1, g1⟩
  have hn1' := hn1 (by omega)
  have og1 : OwnI w1 w.heap.size (.slice (some ⟨w.heap.size, 0, none⟩) 0 0) [] := (own_empty w).kept g1 (own_not (own_empty w) hgl)
  have gg1 : w.grownBy w1 (some g) := grown_trans (World.grownBy_alloc w _ (some g)) g1
  obtain ⟨p1, hp1⟩ : ∃ p1, p1 = p + 1 := ⟨_, rfl⟩
  rw [← hp1] at hr1
  clear g1 hn1
  go_wp2_with fail
  go_loopw [3, 5] (fun o i wr => ∃ (k : Nat) (xs : List Int), (k : Int) ≤ 1 + n ∧ i = .int .i64 k ∧ xs.length = k ∧ OwnI wr w.heap.size o xs ∧ Rd wr g (p1 + k) ∧ w.grownBy wr (some g)) (fun _ i _ => (4 - intOf i).toNat)
  case atStart => exact ⟨0, [], by omega, rfl, rfl, og1, hr1, gg1⟩
  case round =>
    obtain ⟨k, xs, hk, rfl, hxl, hown, hrd, hgr⟩ := hrel
    have hk3 : k ≤ 3 := by omega
    have hsz := hgr.size
    by_cases hlt : (k : Int) < 1 + n
    · go_wp2_with (go_at_call 55; refine (pick hrd (by omega) (by omega) (by omega)).mono ?_)
      rintro e w2 ⟨r, rfl, hq0, hq1, hr2, g2⟩
      have hq1' := hq1 (by omega)
      have hown2 := hown.kept g2 (own_not hown hgl)
      unfold OwnI at hown2
      rw [hxl] at hown2
      have hgr2 := grown_trans hgr g2
      have hsz2 := hgr2.size
      clear hown hrd hgr g2 hq1
      go_wp2_with (at_builtin; refine wpList_append_own _ rfl _ _ 23 rfl w.heap.size 3 i0 (.int .i64 0) 1 8 Try.underlying23 hi hz0 hz1 hz2 rfl (by decide) _ _ _ rfl (hown2.alloc _) ⟨w2.heap.size, 0, none⟩ 1 1 [.int .i64 (1 + r)] rfl rfl ?c1 ?c2 ?c3 ?c4 ?c5 ?_)
      case c1 => exact cell_one_new _ _ _
      case c2 => intro u hu; simp at hu; subst hu; rfl
      case c3 => simp only [maxLen]; omega
      case c4 => omega
      case c5 => simp; omega
      intro v' w3 hown' hgrow _
      have hlow := low_of hown2
      have HG := Lib.hid (grown_new (grown_alloc hgr2 _) hgrow hlow)
      have HR := Lib.hid ((hr2.alloc _).grown hgrow (fun b e => Nat.lt_of_lt_of_le hgl (hlow b e)))
      have HO := Lib.hid hown'
      clear hown' hgrow hown2 hgr2 hr2 hlow
      go_wp2_with fail
      go_roundw
      case rel =>
        refine ⟨k + 1, xs ++ [1 + r], by omega, by go_num, by simp [hxl], ?_, HR.out, HG.out⟩
        unfold OwnI
        have := HO.out
        simpa [hxl] using this
      case measure => simp [intOf]; omega
    · have hk1 : 1 ≤ k := by omega
      clear hk hn0 hn1' og1 hr1 gg1
      go_wp2_with (go_at_call 55; refine (pick hrd (by omega) (by omega) (by omega)).mono ?_)
      rintro e w2 ⟨r, rfl, hq0, hq1, hr2, g2⟩
      have hown2 := hown.kept g2 (own_not hown hgl)
      have hgr2 := grown_trans hgr g2
      have hsz2 := hgr2.size
      have hgl2 := hr2.lt
      have hlow := own_low hown2
      have HXL := Lib.hid hxl
      clear hown hrd hgr g2 hq1 hxl
      by_cases h0 : r = 0
      · subst h0
        go_wp2_with (go_at_call 55; refine (pick (hr2.alloc _) (by omega) (by omega) (by omega)).mono ?_)
        rintro e w3 ⟨q, rfl, hs0, hs1, hr3, g3⟩
        have hs1' := hs1 (by omega)
        obtain ⟨x, hx⟩ : ∃ x : Int, w3.cell? ⟨w2.heap.size, q.toNat, none⟩ = some (.int .i64 x) := by
          have hl := fun j hj => lit_cell g3 hgl2 (j := j) hj
          have h4 : q.toNat = 0 ∨ q.toNat = 1 ∨ q.toNat = 2 ∨ q.toNat = 3 := by omega
          rcases h4 with e | e | e | e <;> rw [e] <;> exact ⟨_, hl _ (by decide)⟩
        have hgr3 := grown_trans (grown_alloc hgr2 (.cells #[.int .i64 0, .int .i64 7, .int .i64 6, .int .i64 (-1)] 3)) g3
        have hown3 := OwnI.kept (hown2.alloc _) g3 (own_not hown2 hgl)
        rcases hown3.shape with ⟨_, e⟩ | ⟨G, c, rfl, hG, hG2⟩
        · rw [e] at HXL; have := HXL.out; simp at this; omega
        · have hst := World.ownsRow.stored hown3 0 (.int .i64 x)
          have hc0 : ∃ y, w3.cell? ⟨G, 0, none⟩ = some y := by
            have h0 : 0 < xs.length := by rw [HXL.out]; exact hk1
            exact ⟨_, by rw [World.ownsRow.cellAt hown3 0 (by simpa using h0)]; simp [h0]; rfl⟩
          obtain ⟨y, hy⟩ := hc0
          have hf : w3.frozen? ⟨G, 0, none⟩ = false := World.ownsRow.frozenAt hown3 0
          have hlen : (0 : Int) < (xs.length : Int) := by rw [HXL.out]; omega
          have hlen' : 0 < xs.length := by rw [HXL.out]; omega
          have HST := Lib.hid hst
          clear hst g3 hown2 hr2 hlow hs1
          go_wp2_with fail
          go_ret
          have ho : OwnI (w3.setCell ⟨G, 0, none⟩ (.int .i64 x)) w.heap.size (.slice (some ⟨G, 0, none⟩) xs.length c) (xs.set 0 x) := by
            unfold OwnI
            have := HST.out.1
            simpa [List.map_set] using this
          have hl6 : (xs.set 0 x).length ≤ 6 := by rw [List.length_set, HXL.out]; omega
          exact ⟨_, xs.set 0 x, _, rfl, ho, hl6, hr3.grown HST.out.2 (fun b e => by simp at e; omega), by omega, grown_new hgr3 HST.out.2 (fun b e => by simp at e; omega)⟩
      · have h0' : (r == 0) = false := by simpa using h0
        by_cases h1 : r = 1
        · subst h1
          go_wp2_with fail
          go_ret
          have ho := own_empty w2
          exact ⟨_, [], _, rfl, ho.mono hsz2, by simp, hr2.alloc _, by omega, grown_alloc hgr2 _⟩
        · have h1' : (r == 1) = false := by simpa using h1
          by_cases h2 : r = 2
          · subst h2
            clear h0 h1
            go_wp2_with (go_at_call 55; refine (pick (hr2.alloc _) (by omega) (by omega) (by omega)).mono ?_)
            rintro e w3 ⟨q, rfl, hs0, hs1, hr3, g3⟩
            have hs1' := hs1 (by omega)
            have HB := Lib.hid (show w3.heap[w2.heap.size]? = some (.cells #[.int .i64 1, .int .i64 2, .int .i64 1, .int .i64 2, .int .i64 1, .int .i64 1] 3 (0, 0)) from (g3.block w2.heap.size (by simp) (by simp; omega)).trans (heap_alloc_new _ _))
            have hgr3 := grown_trans (grown_alloc hgr2 (.cells #[.int .i64 1, .int .i64 2, .int .i64 1, .int .i64 2, .int .i64 1, .int .i64 1] 3)) g3
            have hsz3 := g3.size
            have h5 : q = 0 ∨ q = 1 := by omega
            clear g3 hs1
            rcases h5 with rfl | rfl
            · go_wp2_with fail
              go_ret
              exact ⟨_, [1, 2, 1, 2, 1], _, rfl, ⟨by simp, .inr ⟨w2.heap.size, 6, _, rfl, hsz2, HB.out, by simp, by simp [maxLen], rfl, rfl⟩⟩, by simp, hr3, by omega, hgr3⟩
            · go_wp2_with fail
              go_ret
              exact ⟨_, [1, 2, 1, 2, 1, 1], _, rfl, ⟨by simp, .inr ⟨w2.heap.size, 6, _, rfl, hsz2, HB.out, by simp, by simp [maxLen], rfl, rfl⟩⟩, by simp, hr3, by omega, hgr3⟩
          · have h2' : (r == 2) = false := by simpa using h2
            clear h0 h1 h2
            go_wp2_with fail
            go_ret
            exact ⟨_, xs, _, rfl, hown2, by rw [HXL.out]; omega, hr2, by omega, hgr2⟩

/-- A drawn list, from the outside. -/
def DrawnInts (w : World) (e : Ending) (w' : World) : Prop :=
  ∃ (v : Value) (xs : List Int), e = .returned v ∧ Ints w' v xs ∧ xs.length ≤ 6 ∧ Below w.heap.size w w'

end Go.Proofs.Ytoebgdcgcdigaaa
