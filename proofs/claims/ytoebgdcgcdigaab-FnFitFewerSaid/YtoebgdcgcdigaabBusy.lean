/-
  How busy a section is, by the model and by the program: 'busyOf', for every number of sections, all lists of at most 1048576 paths, every section.
-/
import Derived.Test.YtoebgdcgcdigaabPathsI
import Derived.Test.YtoebgdcgcdigaabPathP
import Derived.Deep.DeepCutAuto
namespace Go.Proofs.Ytoebgdcgcdigaab
open Go.RowKit Go.Sort

set_option maxHeartbeats 1000000 in
theorem hasSection {w : World} {v : Value} {n k : Int} {ps : List (List Int × List Int)} (h : Paths w v ps) :
    Calls Try.prog 32 #[.int .i64 n, v, .int .i64 k] w fun e w' => e = .returned (.bool (hasB n ps k)) ∧ Below w.heap.size w w' := by
  have SV := Lib.hid (implPaths (n := n) h)
  clear h
  cases hp : pathsB n ps
  · have HN := Lib.hid (hasB_paths (k := k) hp)
    rw [hp] at SV
    clear hp
    go_enter Try.func32, Try.ntmps32
    go_wp2_with (go_at_call 27; refine SV.out.mono ?_)
    rintro e w1 ⟨rfl, b1⟩
    go_wp2_with fail
    go_ret
    exact ⟨ret_bool HN.out.symm, b1⟩
  · rw [hp] at SV
    by_cases h0 : 0 ≤ k
    · by_cases h1 : k < n
      · have HN := Lib.hid (hasB_yes hp ⟨h0, h1⟩)
        clear hp
        go_enter Try.func32, Try.ntmps32
        go_wp2_with (go_at_call 27; refine SV.out.mono ?_)
        rintro e w1 ⟨rfl, b1⟩
        go_wp2_with fail
        go_ret
        exact ⟨ret_bool HN.out.symm, b1⟩
      · have HN := Lib.hid (hasB_sec (n := n) (ps := ps) (fun q => h1 q.2))
        have h1' : decide (k < n) = false := by simpa using h1
        clear hp h1
        go_enter Try.func32, Try.ntmps32
        go_wp2_with (go_at_call 27; refine SV.out.mono ?_)
        rintro e w1 ⟨rfl, b1⟩
        go_wp2_with fail
        go_ret
        exact ⟨ret_bool HN.out.symm, b1⟩
    · have HN := Lib.hid (hasB_sec (n := n) (ps := ps) (fun q => h0 q.1))
      have h0' : decide (0 ≤ k) = false := by simpa using h0
      clear hp h0
      go_enter Try.func32, Try.ntmps32
      go_wp2_with (go_at_call 27; refine SV.out.mono ?_)
      rintro e w1 ⟨rfl, b1⟩
      go_wp2_with fail
      go_ret
      exact ⟨ret_bool HN.out.symm, b1⟩

/-- The cells of path i of a list, in a section. -/
theorem paths_cells {w : World} {b o : Nat} {n : Int} {ps : List (List Int × List Int)} (hat : ∀ j, j < ps.length → PathAt w b (o + j * 2) (ps.getD j noPath)) (h : pathsB n ps = true) {i k : Nat} (hi : i < ps.length) (hk : (k : Int) < n) :
    ∃ (b1 o1 k1 b2 o2 k2 : Nat), w.cell? ⟨b, o + i * 2, none⟩ = some (.slice (some ⟨b1, o1, none⟩) (ps.getD i noPath).1.length k1) ∧ w.cell? ⟨b, o + i * 2 + 1, none⟩ = some (.slice (some ⟨b2, o2, none⟩) (ps.getD i noPath).2.length k2) ∧ b < w.heap.size ∧ b1 < w.heap.size ∧ b2 < w.heap.size ∧
      w.cell? ⟨b1, o1 + k, none⟩ = some (.int .i64 ((ps.getD i noPath).1.getD k 0)) ∧ w.cell? ⟨b2, o2 + k, none⟩ = some (.int .i64 ((ps.getD i noPath).2.getD k 0)) := by
  obtain ⟨b1, o1, k1, b2, o2, k2, c1, c2, hb, hb1, hb2, d1, d2⟩ := (hat i hi).cells (pathsB_at h hi)
  obtain ⟨q1, q2, _⟩ := sec_bounds h hi hk
  exact ⟨b1, o1, k1, b2, o2, k2, c1, c2, hb, hb1, hb2, d1 k q1, d2 k q2⟩

set_option maxHeartbeats 2000000 in
theorem implBusy {w : World} {v : Value} {n k : Int} {ps : List (List Int × List Int)} (h : Paths w v ps) :
    Calls Try.prog 26 #[.int .i64 n, v, .int .i64 k] w fun e w' => e = .returned (.int .i64 (busyOf n ps k)) ∧ Below w.heap.size w w' := by
  have hh := h
  obtain ⟨a, cap, rfl, hl, -⟩ := h
  have SV := Lib.hid (hasSection (n := n) (k := k) hh)
  cases hp : hasB n ps k
  · have HN := Lib.hid (busyOf_no hp)
    rw [hp] at SV
    clear hp hh
    go_enter Try.func26, Try.ntmps26
    go_wp2_with (go_at_call 32; refine SV.out.mono ?_)
    rintro e w1 ⟨rfl, b1⟩
    go_wp2_with fail
    go_ret
    exact ⟨ret_int HN.out.symm, b1⟩
  · rw [hp] at SV
    have HN := Lib.hid (busyOf_yes hp)
    obtain ⟨hpp, hk0, hkn⟩ := hasB_is hp
    obtain ⟨⟨hn1, hn5⟩, h8, _⟩ := pathsB_is hpp
    obtain ⟨k, rfl⟩ : ∃ m : Nat, k = (m : Int) := ⟨k.toNat, by omega⟩
    have HP := Lib.hid hpp
    have HH := Lib.hid (fun (i : Nat) (hi : i < ps.length) => paths_at hh hi)
    clear hp hpp hh hk0
    go_enter Try.func26, Try.ntmps26
    go_wp2_with (go_at_call 32; refine SV.out.mono ?_)
    rintro e w1 ⟨rfl, b1⟩
    go_wp2_with fail
    go_loopw [7, 17] (fun r i wr => ∃ i' : Nat, i' ≤ ps.length ∧ i = .int .i64 i' ∧ r = .int .i64 (busyTo ps k i') ∧ Below w.heap.size w wr) (fun _ i _ => ps.length - (intOf i).toNat)
    case atStart => exact ⟨0, by omega, rfl, rfl, b1⟩
    case round =>
      obtain ⟨i, hi, rfl, rfl, hbel⟩ := hrel
      by_cases hlt : i < ps.length
      · obtain ⟨b, o, rfl, hb, hat⟩ := HH.out i hlt
        obtain ⟨b1', o1, k1, b2, o2, k2, c1, c2, -, hb1, hb2, d1, d2⟩ := paths_cells hat HP.out hlt hkn
        obtain ⟨q1, q2, q3, q4, q5⟩ := sec_bounds HP.out hlt hkn
        have f1 := (hbel.cell (p := ⟨b, o + i * 2, none⟩) hb).trans c1
        have f2 := (hbel.cell (p := ⟨b, o + i * 2 + 1, none⟩) hb).trans c2
        have hbd := busyTo_bounds HP.out hkn i (by omega)
        obtain ⟨r, hr⟩ : ∃ r, r = busyTo ps k i := ⟨_, rfl⟩
        have hB : busyTo ps k (i + 1) = busyTo ps k i + ((ps.getD i noPath).2.getD k 0 - (ps.getD i noPath).1.getD k 0) := rfl
        generalize (ps.getD i noPath).1.length = l1 at f1 q1
        generalize (ps.getD i noPath).2.length = l2 at f2 q2
        have e1 := below_alloc wr (.cells #[.slice (some ⟨b1', o1, none⟩) l1 k1, .slice (some ⟨b2, o2, none⟩) l2 k2] 32)
        have p1 := Pair.new wr (.slice (some ⟨b1', o1, none⟩) l1 k1) (.slice (some ⟨b2, o2, none⟩) l2 k2) 32
        have hE := hbel.trans (e1.mono hbel.size)
        have f3 := (hE.cell (p := ⟨b1', o1 + k, none⟩) hb1).trans d1
        have f4 := (hE.cell (p := ⟨b2, o2 + k, none⟩) hb2).trans d2
        generalize (ps.getD i noPath).1.getD k 0 = s at f3 q3 q4 hB
        generalize (ps.getD i noPath).2.getD k 0 = t at f4 q4 q5 hB
        rw [← hr] at hbd hB ⊢
        have w1 : IntKind.i64.wrap (t - s) = t - s := IntWalk.i64_in _ (by omega)
        have w2 : IntKind.i64.wrap (r + (t - s)) = r + (t - s) := IntWalk.i64_in _ (by omega)
        have hkl1 : (k : Int) < (l1 : Int) := by omega
        have hkl2 : (k : Int) < (l2 : Int) := by omega
        have hil : (i : Int) < (ps.length : Int) := by omega
        have HB := Lib.hid (show busyTo ps k (i + 1) = r + (t - s) by rw [hB])
        obtain ⟨W, hW⟩ : ∃ W, W = wr.alloc (.cells #[.slice (some ⟨b1', o1, none⟩) l1 k1, .slice (some ⟨b2, o2, none⟩) l2 k2] 32) := ⟨_, rfl⟩
        rw [← hW] at p1 hE f3 f4
        have HW := Lib.hid hW.symm
        have g1 := p1.cell0
        have g2 := p1.cell1
        clear hat c1 c2 d1 d2 hr hB hbd hW p1 e1
        go_upto_region 7 with fail
        rw [HW.out]
        go_quiet (fail)
        go_wp2_with fail
        go_roundw
        case rel => exact ⟨i + 1, by omega, by go_num, ret_val HB.out.symm, below_drewN hE _⟩
        case measure => simp [intOf]; omega
      · obtain rfl : i = ps.length := by omega
        have HF := Lib.hid HN.out
        go_wp2_with fail
        go_ret
        exact ⟨ret_int (HF.out.trans (by rw [Int.toNat_natCast])).symm, hbel⟩

end Go.Proofs.Ytoebgdcgcdigaab
