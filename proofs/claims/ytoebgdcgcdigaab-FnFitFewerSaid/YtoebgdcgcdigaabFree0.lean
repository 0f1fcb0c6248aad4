/-
  The least free time of a section where there are no paths, and the path that is fitted there, by the program: for runs of at most 1048576 sections.
-/
import Derived.Test.YtoebgdcgcdigaabBusy
import Derived.Test.YtoebgdcgcdigaabBuild
import Derived.Test.YtoebgdcgcdigaabPathP
namespace Go.Proofs.Ytoebgdcgcdigaab
open Go.RowKit Go.Sort

theorem pathsB_nil {n : Int} (h1 : 1 ≤ n) (h5 : n ≤ 5) : pathsB n [] = true := pathsB_yes h1 h5 (by simp) (RowsOk.zero _ _)
theorem paths_nil (w : World) : Paths w (.slice none 0 0) [] := ⟨none, 0, rfl, by simp, .inl rfl⟩

set_option maxHeartbeats 400000 in
theorem runValid (r : Int) (w : World) : Calls Try.prog 37 #[.int .i64 r] w fun e w' => e = .returned (.bool (decide (1 ≤ r ∧ r ≤ 100))) ∧ w = w' := by
  by_cases h1 : 1 ≤ r
  · by_cases h2 : r ≤ 100
    · rw [decide_eq_true (And.intro h1 h2)]
      go_enter Try.func37, Try.ntmps37
      go_wp2_with fail
      go_ret
      exact ⟨rfl, rfl⟩
    · rw [decide_eq_false (fun q => h2 q.2)]
      have h2' : decide (r ≤ 100) = false := by simpa using h2
      clear h2
      go_enter Try.func37, Try.ntmps37
      go_wp2_with fail
      go_ret
      exact ⟨rfl, rfl⟩
  · rw [decide_eq_false (fun q => h1 q.1)]
    have h1' : decide (1 ≤ r) = false := by simpa using h1
    clear h1
    go_enter Try.func37, Try.ntmps37
    go_wp2_with fail
    go_ret
    exact ⟨rfl, rfl⟩

set_option maxHeartbeats 400000 in
theorem index_nil (f : Value) (w : World) : Calls Try.prog 40 #[.slice none 0 0, f] w fun e w' => e = .returned (.int .i64 (-1)) ∧ w = w' := by
  go_enter Try.func40, Try.ntmps40
  go_wp2_with fail
  refine wp_loop_rounds 1 ?_
  rw [rounds_succ]
  go_wp2_with fail
  go_ret
  exact ⟨rfl, rfl⟩

/-! A block of one cell -/
def One (w : World) (b : Nat) (x : Value) (t : TypeId) : Prop := w.heap[b]? = some (.cells #[x] t (0, 0))
theorem One.lt {w : World} {b : Nat} {x : Value} {t : TypeId} (h : One w b x t) : b < w.heap.size := (Array.getElem?_eq_some_iff.1 h).1
theorem One.cell {w : World} {b : Nat} {x : Value} {t : TypeId} (h : One w b x t) : w.cell? ⟨b, 0, none⟩ = some x := by unfold One at h; simp only [World.cell?, h]; rfl
theorem One.frozen {w : World} {b : Nat} {x : Value} {t : TypeId} (h : One w b x t) (i : Nat) : w.frozen? ⟨b, i, none⟩ = false := by unfold One at h; simp [World.frozen?, h]
theorem One.new (w : World) (x : Value) (t : TypeId) : One (w.alloc (.cells #[x] t)) w.heap.size x t := Go.Deep.blk_alloc_new _ _
theorem One.below {w w' : World} {b : Nat} {x : Value} {t : TypeId} (h : One w b x t) (hb : Below w.heap.size w w') : One w' b x t := (hb.block _ h.lt).trans h

/-- Two numbers boxed, one behind the other. -/
theorem two_ones (w : World) (x y : Value) (t : TypeId) : ∃ W, (w.alloc (.cells #[x] t)).alloc (.cells #[y] t) = W ∧ One W w.heap.size x t ∧ One W (w.heap.size + 1) y t ∧ Below w.heap.size w W := by
  have ea := below_alloc w (.cells #[x] t)
  have pa := One.new w x t
  have sa : (w.alloc (.cells #[x] t)).heap.size = w.heap.size + 1 := Go.Deep.nblk_alloc _ _
  have eb := below_alloc (w.alloc (.cells #[x] t)) (.cells #[y] t)
  have pb := One.new (w.alloc (.cells #[x] t)) y t
  rw [sa] at pb
  exact ⟨_, rfl, pa.below eb, pb, ea.trans (eb.mono ea.size)⟩

/-- The answer of PathsFree without paths. -/
def free0B (t r : Int) : Bool := decide ((1 ≤ r ∧ r ≤ 100) ∧ 0 ≤ t ∧ t + r ≤ 2000)
def free0T (t r : Int) : Int := if free0B t r then t else 0
theorem free0_no {t r : Int} (h : free0B t r = false) (w w' : World) (hb : Below w.heap.size w w') : Ending.returned (.tuple #[.int .i64 0, .bool false]) = .returned (.tuple #[.int .i64 (free0T t r), .bool (free0B t r)]) ∧ Below w.heap.size w w' := by
  unfold free0T
  rw [h]
  exact ⟨rfl, hb⟩
theorem free0_yes {t r : Int} (h : free0B t r = true) (w w' : World) (hb : Below w.heap.size w w') : Ending.returned (.tuple #[.int .i64 t, .bool true]) = .returned (.tuple #[.int .i64 (free0T t r), .bool (free0B t r)]) ∧ Below w.heap.size w w' := by
  unfold free0T
  rw [h]
  exact ⟨rfl, hb⟩

set_option maxHeartbeats 2000000 in
theorem free0 {w : World} {n t r : Int} {k : Nat} (h1 : 1 ≤ n) (h5 : n ≤ 5) (hk : (k : Int) < n) (ht : -9223372036854775808 ≤ t ∧ t ≤ 9223372036854775807) :
    Calls Try.prog 14 #[.int .i64 n, .slice none 0 0, .int .i64 k, .int .i64 t, .int .i64 r] w fun e w' => e = .returned (.tuple #[.int .i64 (free0T t r), .bool (free0B t r)]) ∧ Below w.heap.size w w' := by
  obtain ⟨W, hW, pk, pr, hE⟩ := two_ones w (.int .i64 k) (.int .i64 r) 3
  have HW := Lib.hid hW
  have K0 := pk.cell
  have K1 := pr.cell
  have PR := Lib.hid pr
  have HS := Lib.hid (fun (X : World) => hasSection (n := n) (k := k) (paths_nil X))
  rw [show hasB n [] (k : Int) = true from hasB_yes (pathsB_nil h1 h5) ⟨by omega, hk⟩] at HS
  clear hW pk pr
  by_cases hr : 1 ≤ r ∧ r ≤ 100
  · by_cases h0 : 0 ≤ t
    · by_cases h2 : t ≤ 2000
      · have h2' : decide ((2000 : Int) < t) = false := by simp; omega
        have h0' : decide (t < 0) = false := by simp; omega
        have hrv := decide_eq_true hr
        have hw : IntKind.i64.wrap (t + r) = t + r := IntWalk.i64_in _ (by omega)
        go_enter Try.func14, Try.ntmps14
        go_upto_region 1 with fail
        rw [HW.out]
        go_wp2_with fail
        refine (HS.out W).mono ?_
        rintro e w1 ⟨rfl, b1⟩
        have k2 := (PR.out.below b1).cell
        go_wp2_with fail
        refine (runValid _ _).mono ?_
        rintro e w' ⟨rfl, rfl⟩
        rw [hrv]
        have pi := One.new w1 (.int .i64 t) 3
        have bi := below_alloc w1 (.cells #[.int .i64 t] 3)
        have pr2 := (PR.out.below b1).below bi
        obtain ⟨w2, h2e⟩ : ∃ X, X = w1.alloc (.cells #[.int .i64 t] 3) := ⟨_, rfl⟩
        rw [← h2e] at pi bi pr2
        have H2 := Lib.hid h2e.symm
        have k3 := pi.cell
        have k4 := pr2.cell
        have C2 := Lib.hid (hE.trans ((b1.trans (bi.mono b1.size)).mono hE.size))
        clear h2e pi bi pr2 b1
        go_upto_region 4 with fail
        rw [H2.out]
        go_wp2_with fail
        refine (index_nil _ _).mono ?_
        rintro e w' ⟨rfl, rfl⟩
        go_wp2_with fail
        refine wp_loop_rounds 1 ?_
        rw [rounds_succ]
        by_cases h3 : t + r ≤ 2000
        · have HY := Lib.hid (show free0B t r = true from decide_eq_true ⟨hr, h0, h3⟩)
          have h3' : decide ((2000 : Int) < t + r) = false := by simp; omega
          go_wp2_with fail
          go_ret2
          exact free0_yes HY.out _ _ C2.out
        · have HN := Lib.hid (show free0B t r = false from decide_eq_false fun q => h3 q.2.2)
          have h3' : decide ((2000 : Int) < t + r) = true := decide_eq_true (by omega)
          clear h3
          go_wp2_with fail
          go_ret2
          exact free0_no HN.out _ _ C2.out
      · have HN := Lib.hid (show free0B t r = false from decide_eq_false fun q => h2 (by omega))
        have h2' : decide ((2000 : Int) < t) = true := decide_eq_true (by omega)
        have h0' : decide (t < 0) = false := by simp; omega
        have hrv := decide_eq_true hr
        clear h2
        go_enter Try.func14, Try.ntmps14
        go_upto_region 1 with fail
        rw [HW.out]
        go_wp2_with fail
        refine (HS.out W).mono ?_
        rintro e w1 ⟨rfl, b1⟩
        have k2 := (PR.out.below b1).cell
        go_wp2_with fail
        refine (runValid _ _).mono ?_
        rintro e w' ⟨rfl, rfl⟩
        rw [hrv]
        go_wp2_with fail
        go_ret2
        exact free0_no HN.out _ _ (hE.trans (b1.mono hE.size))
    · have HN := Lib.hid (show free0B t r = false from decide_eq_false fun q => h0 q.2.1)
      have h0' : decide (t < 0) = true := decide_eq_true (by omega)
      have hrv := decide_eq_true hr
      clear h0
      go_enter Try.func14, Try.ntmps14
      go_upto_region 1 with fail
      rw [HW.out]
      go_wp2_with fail
      refine (HS.out W).mono ?_
      rintro e w1 ⟨rfl, b1⟩
      have k2 := (PR.out.below b1).cell
      go_wp2_with fail
      refine (runValid _ _).mono ?_
      rintro e w' ⟨rfl, rfl⟩
      rw [hrv]
      go_wp2_with fail
      go_ret2
      exact free0_no HN.out _ _ (hE.trans (b1.mono hE.size))
  · have HN := Lib.hid (show free0B t r = false from decide_eq_false fun q => hr q.1)
    have hrv := decide_eq_false hr
    clear hr
    go_enter Try.func14, Try.ntmps14
    go_upto_region 1 with fail
    rw [HW.out]
    go_wp2_with fail
    refine (HS.out W).mono ?_
    rintro e w1 ⟨rfl, b1⟩
    have k2 := (PR.out.below b1).cell
    go_wp2_with fail
    refine (runValid _ _).mono ?_
    rintro e w' ⟨rfl, rfl⟩
    rw [hrv]
    go_wp2_with fail
    go_ret2
    exact free0_no HN.out _ _ (hE.trans (b1.mono hE.size))

end Go.Proofs.Ytoebgdcgcdigaab
