/-
  Do two paths clash, by the model and by the program: for paths over the same sections.
-/
import Derived.Test.YtoebgdcgcdigaabPathP
import Derived.Test.YtoebgdcgcdigaabPathL
import Derived.Maps.AppendAt
namespace Go.Proofs.Ytoebgdcgcdigaab
open Go.RowKit Go.Sort

theorem own_slice2 {w : World} {base E : Nat} {v : Value} {n : Nat} {ys : List Value} (h : w.ownsRow base E 1 v n ys) : ∃ a c, v = .slice a n c := by
  rcases h.2 with ⟨rfl, h0⟩ | ⟨g, cap, cur, rfl, _⟩
  · exact ⟨none, 0, by rw [h0]⟩
  · exact ⟨_, _, rfl⟩

/-- The number of a section's In and Out, in memory. -/
theorem PathAt.cells {w : World} {b o : Nat} {n : Int} {p : List Int × List Int} (h : PathAt w b o p) (hb : pathB n p = true) :
    ∃ (b1 o1 k1 b2 o2 k2 : Nat), w.cell? ⟨b, o, none⟩ = some (.slice (some ⟨b1, o1, none⟩) p.1.length k1) ∧ w.cell? ⟨b, o + 1, none⟩ = some (.slice (some ⟨b2, o2, none⟩) p.2.length k2) ∧ b < w.heap.size ∧ b1 < w.heap.size ∧ b2 < w.heap.size ∧
      (∀ i, i < p.1.length → w.cell? ⟨b1, o1 + i, none⟩ = some (.int .i64 (p.1.getD i 0))) ∧ ∀ i, i < p.2.length → w.cell? ⟨b2, o2 + i, none⟩ = some (.int .i64 (p.2.getD i 0)) := by
  obtain ⟨u1, u2, g1, g2, hlb, ⟨a1, k1, rfl, l1, i1⟩, ⟨a2, k2, rfl, l2, i2⟩⟩ := h
  obtain ⟨⟨hn1, hn5⟩, hx, hy, hs⟩ := pathB_is hb
  rcases i1 with e | ⟨b1, o1, rfl, hb1, d1⟩
  · rw [e] at hx; simp at hx; omega
  rcases i2 with e | ⟨b2, o2, rfl, hb2, d2⟩
  · rw [e] at hy; simp at hy; omega
  exact ⟨b1, o1, k1, b2, o2, k2, g1, g2, hlb, hb1, hb2, d1, d2⟩

set_option maxHeartbeats 1000000 in
theorem meets {w : World} {b o : Nat} {n x y : Int} {k : Nat} {p : List Int × List Int} (h : PathAt w b o p) (hb : pathB n p = true) (hk : k < p.1.length) :
    Calls Try.prog 39 #[.pointer (some ⟨b, o, none⟩), .int .i64 k, .int .i64 x, .int .i64 y] w fun e w' => e = .returned (.bool (decide (p.1.getD k 0 < y ∧ x < p.2.getD k 0))) ∧ w = w' := by
  have hl : p.1.length = p.2.length := by have := (pathB_is hb).2.1; have := (pathB_is hb).2.2.1; omega
  obtain ⟨b1, o1, k1, b2, o2, k2, g1, g2, hlb, hb1, hb2, d1, d2⟩ := h.cells hb
  have e1 := d1 k hk
  have e2 := d2 k (by omega)
  generalize p.1.getD k 0 = s at e1 ⊢
  generalize p.2.getD k 0 = t at e2 ⊢
  have hk1 : (k : Int) < (p.1.length : Int) := by omega
  have hk2 : (k : Int) < (p.2.length : Int) := by omega
  have hk2' : k < p.2.length := by omega
  clear d1 d2 hl h hb
  by_cases h1 : s < y
  · by_cases h2 : x < t
    · rw [decide_eq_true (And.intro h1 h2)]
      go_enter Try.func39, Try.ntmps39
      go_wp2_with fail
      go_ret
      exact ⟨rfl, rfl⟩
    · rw [decide_eq_false (fun q => h2 q.2)]
      have h2' : decide (x < t) = false := by simpa using h2
      clear h2
      go_enter Try.func39, Try.ntmps39
      go_wp2_with fail
      go_ret
      exact ⟨rfl, rfl⟩
  · rw [decide_eq_false (fun q => h1 q.1)]
    have h1' : decide (s < y) = false := by simpa using h1
    clear h1
    go_enter Try.func39, Try.ntmps39
    go_wp2_with fail
    go_ret
    exact ⟨rfl, rfl⟩

set_option maxHeartbeats 1000000 in
theorem clashes {w : World} {b o b' o' : Nat} {n : Int} {p q : List Int × List Int} (h : PathAt w b o p) (h' : PathAt w b' o' q) (hpq : clashB n p q = true) :
    Calls Try.prog 48 #[.pointer (some ⟨b, o, none⟩), .pointer (some ⟨b', o', none⟩)] w (MadeInts w (clashTo p q p.1.length)) := by
  have hl : p.1.length = p.2.length := by have := (pathB_is (clashB_is hpq).1).2.1; have := (pathB_is (clashB_is hpq).1).2.2.1; omega
  have hl' : p.1.length = q.1.length := by have := (pathB_is (clashB_is hpq).1).2.1; have := (pathB_is (clashB_is hpq).2).2.1; omega
  have hl5 : p.1.length ≤ 5 := by have := (pathB_is (clashB_is hpq).1).2.1; have := (pathB_is (clashB_is hpq).1).1.2; omega
  obtain ⟨b1, o1, k1, b2, o2, k2, g1, g2, hlb, hb1, hb2, d1, d2⟩ := h.cells (clashB_is hpq).1
  obtain ⟨i0, hi, hz0, hz1, hz2⟩ := info_parts info_int
  have hal : Below w.heap.size w (w.alloc (.cells #[] 3)) := (Below.refl _ _).alloc (Nat.le_refl _) _
  have G1 := Lib.hid g1
  have G2 := Lib.hid g2
  have D1 := Lib.hid d1
  have D2 := Lib.hid d2
  have HL := Lib.hid hl
  have HL' := Lib.hid hl'
  have MT := Lib.hid (fun (W : World) (k : Nat) (x y : Int) (c : Below w.heap.size w W) (hk : k < q.1.length) => meets (k := k) (x := x) (y := y) (h'.below c) (clashB_is hpq).2 hk)
  have g1' := (hal.cell (p := ⟨b, o, none⟩) hlb).trans g1
  have ho1 := own_empty w
  clear g1 g2 d1 d2 hl hl' h h' hpq
  go_enter Try.func48, Try.ntmps48
  go_wp2_with fail
  clear g1'
  go_loopw [5, 14] (fun v i wr => ∃ k : Nat, k ≤ p.1.length ∧ i = .int .i64 k ∧ OwnI wr w.heap.size v (clashTo p q k) ∧ Below w.heap.size w wr) (fun _ i _ => p.1.length - (intOf i).toNat)
  case atStart => exact ⟨0, by omega, rfl, ho1, hal⟩
  case round =>
    obtain ⟨k, hk, rfl, hown, hbel⟩ := hrel
    by_cases hlt : k < p.1.length
    · have hlt2 : k < p.2.length := by have := HL.out; omega
      have e1 := (hbel.cell (p := ⟨b1, o1 + k, none⟩) hb1).trans (D1.out k hlt)
      have e2 := (hbel.cell (p := ⟨b2, o2 + k, none⟩) hb2).trans (D2.out k hlt2)
      have f2 := (hbel.cell (p := ⟨b, o + 1, none⟩) hlb).trans G2.out
      have MT1 := Lib.hid (MT.out wr k (p.1.getD k 0) (p.2.getD k 0) hbel (by have := HL'.out; omega))
      have hki : (k : Int) < (p.1.length : Int) := by omega
      have hki2 : (k : Int) < (p.2.length : Int) := by omega
      have CA := Lib.hid (show clashAt p q k = decide (q.1.getD k 0 < p.2.getD k 0 ∧ p.1.getD k 0 < q.2.getD k 0) from decide_eq_decide.2 And.comm)
      rw [← CA.out] at MT1
      generalize p.1.getD k 0 = s at e1 MT1
      generalize p.2.getD k 0 = t at e2 MT1
      clear CA
      cases hc : clashAt p q k
      · rw [hc] at MT1
        have HO := Lib.hid (show OwnI wr w.heap.size _ (clashTo p q (k + 1)) from (clashTo_no hc) ▸ hown)
        clear hown hc
        go_wp2_with (go_at_call 39; refine MT1.out.mono ?_; rintro e w' ⟨rfl, rfl⟩)
        go_roundw
        case rel => exact ⟨k + 1, by omega, by go_num, HO.out, hbel⟩
        case measure => simp [intOf]; omega
      · rw [hc] at MT1
        obtain ⟨m, hm⟩ : ∃ m, m = (clashTo p q k).length := ⟨_, rfl⟩
        have hm5 : m ≤ 5 := by have := clashTo_length p q k; omega
        have HC := Lib.hid (clashTo_yes hc)
        unfold OwnI at hown
        rw [← hm] at hown
        obtain ⟨av, cv, rfl⟩ := own_slice2 hown
        have HM := Lib.hid hm
        clear hc hm
        have hsz := hbel.size
        go_wp2_with (first | (go_at_call 39; refine MT1.out.mono ?_; rintro e w' ⟨rfl, rfl⟩) | (at_builtin; refine wpList_append_own _ rfl _ _ 27 rfl w.heap.size 3 i0 (.int .i64 0) 1 8 Try.underlying27 hi hz0 hz1 hz2 rfl (by decide) _ _ _ rfl (hown.alloc _) ⟨wr.heap.size, 0, none⟩ 1 1 [.int .i64 k] rfl rfl ?c1 ?c2 ?c3 ?c4 ?c5 ?_))
        case c1 => exact cell_one_new _ _ _
        case c2 => intro u hu; simp at hu; subst hu; rfl
        case c3 => simp only [maxLen]; omega
        case c4 => omega
        case c5 => simp; omega
        intro v' w2 hown' hgrow _
        have HB := Lib.hid ((hbel.alloc (by omega) _).grown hgrow (by simp; omega) (fun g hg => (hown.lt g hg).1))
        have HO := Lib.hid (show OwnI w2 w.heap.size v' (clashTo p q (k + 1)) by
          unfold OwnI
          rw [HC.out, List.length_append, List.map_append, ← HM.out]
          exact hown')
        obtain ⟨av', cv', rfl⟩ := own_slice2 hown'
        clear hown' hgrow hown hbel
        go_wp2_with fail
        go_roundw
        case rel => exact ⟨k + 1, by omega, by go_num, HO.out, HB.out⟩
        case measure => simp [intOf]; omega
    · obtain rfl : k = p.1.length := by omega
      go_wp2_with fail
      go_ret
      exact ⟨_, rfl, hown, hbel⟩

end Go.Proofs.Ytoebgdcgcdigaab
