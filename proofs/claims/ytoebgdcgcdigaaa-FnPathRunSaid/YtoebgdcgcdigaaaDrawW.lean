/-
  A drawn time and drawn runs. For codes of at most 1048576 bytes.
-/
import Derived.Test.YtoebgdcgcdigaaaDrawQ
namespace Go.Proofs.Ytoebgdcgcdigaaa
open Go.RowKit Go.Sort

/-- A drawn time and drawn runs. -/
def DrawnRun (w : World) (e : Ending) (w' : World) : Prop :=
  ∃ (s : Int) (v : Value) (rs : List Int), e = .returned (.tuple #[.int .i64 s, v]) ∧ (-1 ≤ s ∧ s ≤ 2000) ∧ Ints w' v rs ∧ Below w.heap.size w w'

set_option maxRecDepth 100000 in
set_option maxHeartbeats 1000000 in
theorem drawRun {w : World} {a : Option Addr} {len cap : Nat} {zs : List Int} (h : IsRowK .u8 w a len cap zs) (hl : len ≤ 1048576) :
    Calls Try.prog 36 #[.slice a len cap] w (DrawnRun w) := by
  have OP := Lib.hid (openRd h hl)
  clear h
  go_enter Try.func36, Try.ntmps36
  go_wp2_with (go_at_call 53; refine OP.out.mono ?_)
  rintro e w1 ⟨g, rfl, hg, hrd, b1⟩
  have hgl := hrd.lt
  go_wp2_with (go_at_call 55; refine (pick hrd (by omega) (by omega) (by omega)).mono ?_)
  rintro e w2 ⟨s, rfl, hs0, hs1, hrd2, g2⟩
  have hs1' := hs1 (by omega)
  have B2 := Lib.hid (below_of_grown b1 g2 hg)
  clear g2 hrd OP b1 hs1
  go_wp2_with (go_at_call 55; refine (pick hrd2 (by omega) (by omega) (by omega)).mono ?_)
  rintro e w3 ⟨r, rfl, hr0, hr1, hrd3, g3⟩
  have B3 := Lib.hid (below_of_grown B2.out g3 hg)
  have hgl3 := hrd3.lt
  clear g3 hrd2 B2 hr1
  by_cases h0 : r = 0
  · subst h0
    go_wp2_with (go_at_call 55; refine (pick (qrd_alloc hrd3 _) (by omega) (by omega) (by omega)).mono ?_)
    rintro e w4 ⟨q, rfl, hq0, hq1, hrd4, g4⟩
    have hq1' := hq1 (by omega)
    obtain ⟨x, hx, hx0, hx1⟩ : ∃ x : Int, w4.cell? ⟨w3.heap.size, q.toNat, none⟩ = some (.int .i64 x) ∧ -1 ≤ x ∧ x ≤ 2000 := by
      have hl := fun j hj => qlit_cell g4 hgl3 (j := j) hj
      have h4 : q.toNat = 0 ∨ q.toNat = 1 ∨ q.toNat = 2 := by omega
      rcases h4 with e | e | e <;> rw [e] <;> exact ⟨_, hl _ (by decide), by omega, by omega⟩
    have B4 := Lib.hid (below_of_grown (B3.out.alloc B3.out.size (.cells #[.int .i64 (-1), .int .i64 2000, .int .i64 1980] 3)) g4 hg)
    clear g4 hrd3 B3 hq1
    go_wp2_with (go_at_call 55; refine (pick hrd4 (by omega) (by omega) (by omega)).mono ?_)
    rintro e w5 ⟨m, rfl, hm0, hm1, hrd5, g5⟩
    have hm1' := hm1 (by omega)
    obtain ⟨n, hn⟩ : ∃ n : Nat, (n : Int) = 1 + m := ⟨(1 + m).toNat, by omega⟩
    have hw : IntKind.i64.wrap (1 + m) = (n : Int) := by rw [IntWalk.i64_in _ (by omega)]; omega
    have hw' : wrap64 (1 + m) = (n : Int) := (IntWalk.i64_left _).symm.trans hw
    have hn' : 1 + m = (n : Int) := hn.symm
    have hnn : 1 ≤ n ∧ n ≤ 5 := by omega
    have DR := Lib.hid (drawRuns (n := n) hrd5 (by omega) hnn.1 hnn.2)
    have B5 := Lib.hid (below_of_grown B4.out g5 hg)
    clear g5 hm1 hrd5 hn
    go_wp2_with (go_at_call 76; refine DR.out.mono ?_)
    rintro e w6 ⟨v, rs, p', rfl, hv, hrd6, hp6, g6⟩
    have B6 := Lib.hid (below_of_grown B5.out g6 hg)
    have HV := Lib.hid hv
    clear g6 hrd6 hv
    go_wp2_with fail
    exact bodyPost_ret (v := .tuple #[.int .i64 x, v]) (by simp [results, Try.results36, go_sem]) rfl ⟨x, v, rs, rfl, ⟨hx0, hx1⟩, HV.out, B6.out⟩
  · have h0' : (r == 0) = false := by simpa using h0
    go_wp2_with (go_at_call 55; refine (pick hrd3 (by omega) (by omega) (by omega)).mono ?_)
    rintro e w5 ⟨m, rfl, hm0, hm1, hrd5, g5⟩
    have hm1' := hm1 (by omega)
    obtain ⟨n, hn⟩ : ∃ n : Nat, (n : Int) = 1 + m := ⟨(1 + m).toNat, by omega⟩
    have hw : IntKind.i64.wrap (1 + m) = (n : Int) := by rw [IntWalk.i64_in _ (by omega)]; omega
    have hw' : wrap64 (1 + m) = (n : Int) := (IntWalk.i64_left _).symm.trans hw
    have hn' : 1 + m = (n : Int) := hn.symm
    have hnn : 1 ≤ n ∧ n ≤ 5 := by omega
    have DR := Lib.hid (drawRuns (n := n) hrd5 (by omega) hnn.1 hnn.2)
    have B5 := Lib.hid (below_of_grown B3.out g5 hg)
    clear g5 hm1 hrd5 hn
    go_wp2_with (go_at_call 76; refine DR.out.mono ?_)
    rintro e w6 ⟨v, rs, p', rfl, hv, hrd6, hp6, g6⟩
    have B6 := Lib.hid (below_of_grown B5.out g6 hg)
    have HV := Lib.hid hv
    clear g6 hrd6 hv
    go_wp2_with fail
    exact bodyPost_ret (v := .tuple #[.int .i64 s, v]) (by simp [results, Try.results36, go_sem]) rfl ⟨s, v, rs, rfl, ⟨by omega, by omega⟩, HV.out, B6.out⟩

end Go.Proofs.Ytoebgdcgcdigaaa
