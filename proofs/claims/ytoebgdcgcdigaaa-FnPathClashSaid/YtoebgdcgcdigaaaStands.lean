/-
  The minutes that a path stands, by the model and by the program. No condition but lengths of at most 1048576.
-/
import Derived.Test.YtoebgdcgcdigaaaPathS
namespace Go.Proofs.Ytoebgdcgcdigaaa
open Go.RowKit Go.Sort

theorem stands_no {n : Int} {p : List Int × List Int} (h : pathB n p = false) : stands n p = -1 := by unfold stands; rw [h]; rfl
theorem stands_yes {n : Int} {p : List Int × List Int} (h : pathB n p = true) : stands n p = standsTo p.1 p.2 (p.1.length - 1) := by unfold stands; rw [h]; rfl

set_option maxHeartbeats 1000000 in
theorem implStandsM {w : World} {b o : Nat} {n : Int} {p : List Int × List Int} (h : PathAt w b o p) (hb : pathB n p = true) :
    Calls Try.prog 83 #[.pointer (some ⟨b, o, none⟩)] w fun e w' => e = .returned (.int .i64 (stands n p)) ∧ Below w.heap.size w w' := by
  have HN := Lib.hid (stands_yes hb)
  obtain ⟨xs, ys⟩ := p
  obtain ⟨u1, u2, g1, g2, hlb, i1, i2⟩ := h
  obtain ⟨a1, k1, rfl, l1, i1⟩ := i1
  obtain ⟨a2, k2, rfl, l2, i2⟩ := i2
  simp only at l1 l2 i1 i2 g1 g2 HN
  obtain ⟨⟨hn1, hn5⟩, hx, hy, hs⟩ := pathB_is hb
  simp only at hx hy hs
  have hlen : xs.length = ys.length := by omega
  rcases i1 with e | ⟨b1, o1, rfl, hb1, d1⟩
  · rw [e] at hx; simp at hx; omega
  rcases i2 with e | ⟨b2, o2, rfl, hb2, d2⟩
  · rw [e] at hy; simp at hy; omega
  have D1 := Lib.hid d1
  have D2 := Lib.hid d2
  have G1 := Lib.hid g1
  have G2 := Lib.hid g2
  have HX := Lib.hid hx
  have HL := Lib.hid hlen
  have HS := Lib.hid hs
  clear d1 d2 hx hy hlen hs hb
  go_enter Try.func83, Try.ntmps83
  go_wp2_with fail
  go_loopw [3, 4] (fun r i wr => ∃ k : Nat, k + 1 ≤ xs.length ∧ i = .int .i64 ((k : Int) + 1) ∧ r = .int .i64 (standsTo xs ys k) ∧ Below w.heap.size w wr) (fun _ i _ => xs.length - (intOf i).toNat)
  case atStart => exact ⟨0, by have := HX.out; omega, rfl, rfl, Below.refl _ _⟩
  case round =>
    obtain ⟨k, hk, rfl, rfl, hbel⟩ := hrel
    obtain ⟨r, hr⟩ : ∃ r, r = standsTo xs ys k := ⟨_, rfl⟩
    have hr0 := standsTo_bounds HS.out k (by omega)
    have hbx := HS.out.bounds (j := k) (by omega)
    rw [← hr] at hr0 ⊢
    have R := Lib.hid hr
    have f1 := (hbel.cell (p := ⟨b, o, none⟩) hlb).trans G1.out
    have f2 := (hbel.cell (p := ⟨b, o + 1, none⟩) hlb).trans G2.out
    clear hr
    by_cases hlt : k + 1 < xs.length
    · have hlt' : k < ys.length := by have := HL.out; omega
      have hby := HS.out.bounds hlt
      obtain ⟨x, hx⟩ : ∃ x, x = xs.getD (k + 1) 0 := ⟨_, rfl⟩
      obtain ⟨y, hy⟩ : ∃ y, y = ys.getD k 0 := ⟨_, rfl⟩
      have e1 := (hbel.cell (p := ⟨b1, o1 + (k + 1), none⟩) hb1).trans (D1.out (k + 1) hlt)
      have e2 := (hbel.cell (p := ⟨b2, o2 + k, none⟩) hb2).trans (D2.out k hlt')
      rw [← hx] at e1 hby
      rw [← hy] at e2 hbx
      have X := Lib.hid hx
      have Y := Lib.hid hy
      have hr1 : 0 ≤ r := hr0.1
      have hr2 : r ≤ 2000 := by have := hr0.2; have := hbx.2.1; have := hbx.2.2; omega
      have hx1 : 0 ≤ x := hby.1
      have hx2 : x ≤ 2000 := by have := hby.2.1; have := hby.2.2; omega
      have hy1 : 0 ≤ y := by have := hbx.1; have := hbx.2.1; omega
      have hy2 : y ≤ 2000 := hbx.2.2
      have w1 : IntKind.i64.wrap (x - y) = x - y := IntWalk.i64_in _ (by omega)
      have w2 : IntKind.i64.wrap (r + (x - y)) = r + (x - y) := IntWalk.i64_in _ (by omega)
      have w3 : IntKind.i64.wrap ((k : Int) + 1 - 1) = k := by rw [IntWalk.i64_in _ (by omega)]; omega
      have w4 : ((k : Int) + 1).toNat = k + 1 := by omega
      have hkx : (k : Int) + 1 < (xs.length : Int) := by omega
      have hky : (k : Int) < (ys.length : Int) := by omega
      have HQ := Lib.hid (show standsTo xs ys (k + 1) = r + (x - y) by show standsTo xs ys k + (xs.getD (k + 1) 0 - ys.getD k 0) = _; rw [← R.out, ← X.out, ← Y.out])
      clear hx hy hr0 hbx hby
      go_wp2_with fail
      go_quiet (fail)
      go_wp2_with fail
      go_roundw
      case rel => exact ⟨k + 1, by omega, by go_num, ret_val HQ.out.symm, below_drewN hbel _⟩
      case measure => simp [intOf]; omega
    · have hk' : k + 1 = xs.length := by omega
      have hkn : ¬ (k : Int) + 1 < (xs.length : Int) := by omega
      have HQ := Lib.hid (show stands n (xs, ys) = r by rw [HN.out, R.out]; show standsTo xs ys (xs.length - 1) = _; rw [← hk']; rfl)
      clear hlt hk hr0 hbx hk'
      go_wp2_with fail
      go_ret
      exact ⟨ret_int HQ.out.symm, hbel⟩

set_option maxHeartbeats 400000 in
theorem implStands {w : World} {v : Value} {n : Int} {p : List Int × List Int} (h : PathV w v p) :
    Calls Try.prog 43 #[.int .i64 n, v] w fun e w' => e = .returned (.int .i64 (stands n p)) ∧ Below w.heap.size w w' := by
  obtain ⟨u1, u2, rfl, i1, i2⟩ := h
  have HP := Lib.hid (PathV.boxed i1 i2 44)
  clear i1 i2
  cases hb : pathB n p
  · have HN := Lib.hid (stands_no hb)
    have HO := Lib.hid (isOver (n := n) HP.out)
    rw [hb] at HO
    clear hb
    go_enter Try.func43, Try.ntmps43
    go_wp2_with (go_at_call 82; refine HO.out.mono ?_; rintro e w' ⟨rfl, rfl⟩)
    go_ret
    exact ⟨ret_int HN.out.symm, below_alloc _ _⟩
  · have HS := Lib.hid (implStandsM HP.out hb)
    have HO := Lib.hid (isOver (n := n) HP.out)
    rw [hb] at HO
    clear hb
    go_enter Try.func43, Try.ntmps43
    go_wp2_with (go_at_call 82; refine HO.out.mono ?_; rintro e w' ⟨rfl, rfl⟩)
    refine HS.out.mono ?_
    rintro e w2 ⟨rfl, b2⟩
    go_wp2_with fail
    go_ret
    exact ⟨rfl, (below_alloc w _).trans (b2.mono (below_alloc w (.cells #[u1, u2] 44)).size)⟩

end Go.Proofs.Ytoebgdcgcdigaaa
