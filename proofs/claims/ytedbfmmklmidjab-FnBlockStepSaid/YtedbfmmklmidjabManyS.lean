/-
  The model's list of blocks, the index of one, BlockMany. No condition.
-/
import Derived.Test.YtedbfmmklmidjabManyI
import Derived.Test.YtedbfmmklmidjabBlockN
import Derived.Test.YtedbfmmklmidjabBlockC
import Derived.BigQuiet
namespace Go.Proofs.Ytedbfmmklmidjab
open Go.RowKit Go.Sort

/-- The cells of all blocks. -/
def allCells : Array Value := #[.int .i64 0, .bool false, .bool false, .int .i64 0, .bool false, .bool true, .int .i64 1, .bool false, .bool false, .int .i64 2, .bool false, .bool false, .int .i64 2, .bool true, .bool false]
def AllB (w : World) (g : Nat) : Prop := w.heap[g]? = some (.cells allCells 25 (0, 0))
theorem AllB.lt {w : World} {g : Nat} (h : AllB w g) : g < w.heap.size := (Array.getElem?_eq_some_iff.1 h).1
theorem AllB.below {w w' : World} {g : Nat} (h : AllB w g) (hb : Below w.heap.size w w') : AllB w' g := (hb.block g h.lt).trans h
theorem AllB.grown {w w' : World} {g : Nat} {row : Option Nat} (h : AllB w g) (hg : w.grownBy w' row) (hne : some g ≠ row) : AllB w' g := (hg.block g h.lt hne).trans h
theorem AllB.cell {w : World} {g : Nat} (h : AllB w g) (j : Nat) : w.cell? ⟨g, j, none⟩ = allCells[j]? := by
  unfold AllB at h
  simp only [World.cell?, h]
  rfl
theorem AllB.at0 {w : World} {g i : Nat} (h : AllB w g) (hi : i < 5) : w.cell? ⟨g, i * 3, none⟩ = some (.int .i64 (bkAt i).1) := by
  rw [h.cell]
  match i, hi with
  | 0, _ | 1, _ | 2, _ | 3, _ | 4, _ => rfl
theorem AllB.at1 {w : World} {g i : Nat} (h : AllB w g) (hi : i < 5) : w.cell? ⟨g, i * 3 + 1, none⟩ = some (.bool (bkAt i).2.1) := by
  rw [h.cell]
  match i, hi with
  | 0, _ | 1, _ | 2, _ | 3, _ | 4, _ => rfl
theorem AllB.at2 {w : World} {g i : Nat} (h : AllB w g) (hi : i < 5) : w.cell? ⟨g, i * 3 + 2, none⟩ = some (.bool (bkAt i).2.2) := by
  rw [h.cell]
  match i, hi with
  | 0, _ | 1, _ | 2, _ | 3, _ | 4, _ => rfl

theorem below_drewN {n : Nat} {w w' : World} (h : Below n w w') (k : Nat) : Below n w (w'.drewN k) := ⟨h.os, h.tape, h.output, h.size, h.block⟩

set_option maxHeartbeats 400000 in
theorem l3All (w : World) :
    Calls Try.prog 44 #[] w fun e w' => e = .returned (.slice (some ⟨w.heap.size, 0, none⟩) 5 5) ∧ AllB w' w.heap.size ∧ Below w.heap.size w w' := by
  have A := Lib.hid (show AllB (w.alloc (.cells allCells 25)) w.heap.size from Go.Deep.blk_alloc_new _ _)
  go_enter Try.func44, Try.ntmps44
  go_wp2_with fail
  go_ret
  exact ⟨rfl, A.out, below_alloc _ _⟩

set_option maxHeartbeats 400000 in
theorem l3Index (b : Blk) (hb : bkPos b = true) (w : World) :
    Calls Try.prog 46 #[bkV b] w fun e w' => e = .returned (.int .i64 (bkIx b)) ∧ Below w.heap.size w w' := by
  unfold bkV
  have q0 := below_alloc w (.cells #[.int .i64 b.1, .bool b.2.1, .bool b.2.2] 25)
  have t0 := Tri3.new w (.int .i64 b.1) (.bool b.2.1) (.bool b.2.2) 25
  have BI := Lib.hid (bkAt_ix hb)
  obtain ⟨x, hx⟩ : ∃ x, x = bkIx b := ⟨_, rfl⟩
  rw [← hx] at BI ⊢
  have HX := Lib.hid hx
  have T0 := Lib.hid t0
  have Q0 := Lib.hid q0
  clear hx t0 q0 hb
  go_enter Try.func46, Try.ntmps46
  go_wp2_with (go_at_call 44; refine (l3All _).mono ?_)
  rintro e w1 ⟨rfl, a1, b1⟩
  have B1 := Lib.hid b1
  have A1 := Lib.hid a1
  clear b1 a1
  have hsx : (w.alloc (.cells #[.int .i64 b.1, .bool b.2.1, .bool b.2.2] 25)).heap.size = w.heap.size + 1 := Go.Deep.nblk_alloc _ _
  have t1 := T0.out.below B1.out
  have T1 := Lib.hid t1
  have BB := Lib.hid (Q0.out.trans (B1.out.mono Q0.out.size))
  have AA := Lib.hid (hsx ▸ A1.out)
  clear t1 hsx
  go_wp2_with fail
  go_loopw [4] (fun i wr => ∃ k : Nat, k ≤ x ∧ i = .int .i64 k ∧ Hid (AllB wr (w.heap.size + 1) ∧ Tri3 wr w.heap.size (.int .i64 b.1) (.bool b.2.1) (.bool b.2.2) 25) ∧ Below w.heap.size w wr) (fun i _ => 5 - (intOf i).toNat)
  case atStart => exact ⟨0, by omega, rfl, ⟨AA.out, T1.out⟩, BB.out⟩
  case round =>
    obtain ⟨k, hk, rfl, RR, hbel⟩ := hrel
    obtain ⟨hx5, hxb⟩ := BI.out
    have hk5 : k < 5 := by omega
    have hki : (k : Int) < 5 := by omega
    have h0 : (0 : Int) ≤ k := by omega
    obtain ⟨y, hy⟩ : ∃ y, y = bkAt k := ⟨_, rfl⟩
    have e0 := RR.out.1.at0 hk5
    have e1 := RR.out.1.at1 hk5
    have e2 := RR.out.1.at2 hk5
    rw [← hy] at e0 e1 e2
    have c0 := RR.out.2.cell0
    have c1 := RR.out.2.cell1
    have c2 := RR.out.2.cell2
    obtain ⟨t, ht⟩ : ∃ t, t = decide (y = b) := ⟨_, rfl⟩
    have EQ : ∀ (w : World), (binOp .eql 25 (.agg #[.int .i64 y.1, .bool y.2.1, .bool y.2.2]) (.agg #[.int .i64 b.1, .bool b.2.1, .bool b.2.2])).run Try.prog w = .ok (.bool t) w := by rw [ht]; exact eqBlk y b
    have HT : t = decide (k = x) := by
      rw [ht, hy, ← hxb]
      by_cases e : k = x
      · subst e; simp
      · have : bkAt k ≠ bkAt x := fun q => e (by rw [← (bkIx_at hk5).2, ← (bkIx_at hx5).2, q])
        simp [e, this]
    have HTT := Lib.hid HT
    clear ht HT hy hxb hx5
    go_upto_region 5 with fail
    go_quiet (fail)
    cases t
    · have hne : k < x := by
        have := HTT.out
        have : ¬ k = x := by simpa using this.symm
        omega
      go_wp2_with fail
      go_roundw
      case rel => exact ⟨k + 1, by omega, by go_num, RR.out, below_drewN hbel _⟩
      case measure => simp [intOf]; omega
    · have he : k = x := by
        have := HTT.out
        simpa using this.symm
      have HE := Lib.hid he
      clear he
      go_wp2_with fail
      go_ret
      exact ⟨by rw [← HE.out]; rfl, below_drewN hbel _⟩

/-! ### Rows of five numbers -/
def RowI (w : World) (g : Nat) (xs : List Int) : Prop := w.heap[g]? = some (.cells (xs.map (Value.int .i64)).toArray 3 (0, 0))
theorem RowI.lt {w : World} {g : Nat} {xs : List Int} (h : RowI w g xs) : g < w.heap.size := (Array.getElem?_eq_some_iff.1 h).1
theorem RowI.below {w w' : World} {g : Nat} {xs : List Int} (h : RowI w g xs) (hb : Below w.heap.size w w') : RowI w' g xs := (hb.block g h.lt).trans h
theorem RowI.cell {w : World} {g i : Nat} {xs : List Int} (h : RowI w g xs) (hi : i < xs.length) : w.cell? ⟨g, i, none⟩ = some (.int .i64 (xs.getD i 0)) := by
  unfold RowI at h
  simp only [World.cell?, h]
  simp [hi]
theorem RowI.frozen {w : World} {g : Nat} {xs : List Int} (h : RowI w g xs) (i : Nat) : w.frozen? ⟨g, i, none⟩ = false := by unfold RowI at h; simp [World.frozen?, h]
theorem RowI.set {w : World} {g i : Nat} {xs : List Int} (h : RowI w g xs) (v : Int) : RowI (w.setCell ⟨g, i, none⟩ (.int .i64 v)) g (xs.set i v) := by
  unfold RowI at h ⊢
  simp [World.setCell, Array.getElem?_modify, h, List.map_set]
theorem RowI.other {w : World} {g : Nat} {xs : List Int} (h : RowI w g xs) {a : Addr} (ha : g ≠ a.block) (v : Value) : RowI (w.setCell a v) g xs := (Go.Deep.blk_setCell_other _ _ _ _ ha).trans h
theorem AllB.other {w : World} {g : Nat} (h : AllB w g) {a : Addr} (ha : g ≠ a.block) (v : Value) : AllB (w.setCell a v) g := (Go.Deep.blk_setCell_other _ _ _ _ ha).trans h
theorem row_ne_all {w : World} {g g' : Nat} {xs : List Int} (h : RowI w g xs) (h' : AllB w g') (hl : xs.length = 5) : g' ≠ g := by
  rintro rfl
  unfold RowI at h
  unfold AllB at h'
  rw [h] at h'
  simp only [Option.some.injEq, Obj.cells.injEq] at h'
  have := congrArg Array.size h'.1
  simp [allCells] at this
  omega
theorem row_ne_tri {w : World} {g g' : Nat} {xs : List Int} {x y z : Value} {t : TypeId} (h : RowI w g xs) (h' : Tri3 w g' x y z t) (hl : xs.length = 5) : g' ≠ g := by
  rintro rfl
  unfold RowI at h
  unfold Tri3 at h'
  rw [h] at h'
  simp only [Option.some.injEq, Obj.cells.injEq] at h'
  have := congrArg Array.size h'.1
  simp at this
  omega

/-- A row whose first i entries are counted, and of the i-th the first q events. -/
def nxt (v : List Int) (i q : Nat) : List Int := (List.range 5).map fun j => if j < i then to1 v j (nl j) else if j = i then to1 v i q else 0
theorem nxt_length (v : List Int) (i q : Nat) : (nxt v i q).length = 5 := by simp [nxt]
theorem nxt_at {v : List Int} {i q : Nat} (hi : i < 5) : (nxt v i q).getD i 0 = to1 v i q := by
  unfold nxt
  rw [List.getD_eq_getElem?_getD, List.getElem?_map, List.getElem?_range hi]
  simp
theorem nxt_set {v : List Int} {i q : Nat} (s : Int) (h : s = to1 v i (q + 1)) : (nxt v i q).set i s = nxt v i (q + 1) := by
  apply List.ext_getElem?
  intro j
  by_cases hj : j < 5
  · by_cases e : i = j
    · subst e
      subst h
      simp [nxt, hj]
    · have e' : ¬ j = i := fun q => e q.symm
      simp [nxt, hj, e, e']
  · rw [List.getElem?_eq_none (by rw [List.length_set, nxt_length]; omega), List.getElem?_eq_none (by rw [nxt_length]; omega)]
theorem nxt_next (v : List Int) (i : Nat) : nxt v i (nl i) = nxt v (i + 1) 0 := by
  unfold nxt
  apply List.map_congr_left
  intro j _
  by_cases h1 : j < i
  · simp [h1, show j < i + 1 by omega]
  · by_cases h2 : j = i
    · subst h2; simp
    · by_cases h3 : j = i + 1
      · subst h3; simp [to1]; intro h; omega
      · simp [h1, h2, h3, show ¬ j < i + 1 by omega]
theorem nxt_start (v : List Int) : nxt v 0 0 = [0, 0, 0, 0, 0] := by
  unfold nxt
  simp [List.range, List.range.loop, to1]
theorem nxt_end (v : List Int) : nxt v 5 0 = bwStep v := by
  unfold nxt bwStep
  apply List.map_congr_left
  intro j hj
  have := List.mem_range.1 hj
  simp [this]
theorem to1_small {v : List Int} (hv : ∀ i, i < 5 → 0 ≤ v.getD i 0 ∧ v.getD i 0 ≤ 1000000000) {i : Nat} (hi : i < 5) {q : Nat} (hq : q ≤ nl i) : 0 ≤ to1 v i q ∧ to1 v i q ≤ 2000000000 := by
  have h2 := nl_le hi
  have hn : q = 0 ∨ q = 1 ∨ q = 2 := by omega
  rcases hn with rfl | rfl | rfl
  · simp [to1]
  · have a := hv _ (tg_is hi (q := 0) (by omega)).1
    simp only [to1]; omega
  · have a := hv _ (tg_is hi (q := 0) (by omega)).1
    have b := hv _ (tg_is hi (q := 1) (by omega)).1
    simp only [to1]; omega
theorem ones_set (j : Nat) (hj : j < 5) : ((List.range 5).map fun i => if i < j then (1 : Int) else 0).set j 1 = (List.range 5).map fun i => if i < j + 1 then (1 : Int) else 0 := by
  match j, hj with
  | 0, _ | 1, _ | 2, _ | 3, _ | 4, _ => decide

theorem make_five (w : World) : (Instr.makeSlice 57 (.int .i64 5) (.int .i64 5)).run Try.prog w = .ok (.slice (some ⟨w.heap.size, 0, none⟩) 5 5) (w.alloc (.cells #[.int .i64 0, .int .i64 0, .int .i64 0, .int .i64 0, .int .i64 0] 3)) := by kernel_rfl

set_option maxRecDepth 100000 in
set_option maxHeartbeats 1000000 in
theorem specMany (b : Blk) (n : Int) (w : World) :
    Calls Try.prog 13 #[bkV b, .int .i64 n] w fun e w' => e = .returned (.int .i64 (bkMany b n)) ∧ Below w.heap.size w w' := by
  unfold bkV
  have hmk := make_five
  have q0 := below_alloc w (.cells #[.int .i64 b.1, .bool b.2.1, .bool b.2.2] 25)
  have t0 := Tri3.new w (.int .i64 b.1) (.bool b.2.1) (.bool b.2.2) 25
  have PO := Lib.hid (show ∀ w : World, Calls Try.prog 42 #[.agg #[.int .i64 b.1, .bool b.2.1, .bool b.2.2]] w fun e w' => e = .returned (.bool (bkPos b)) ∧ Below w.heap.size w w' from specPossible b)
  by_cases hno : bkPos b = false ∨ n < 0 ∨ 30 < n
  · have N := Lib.hid (bkMany_no hno)
    obtain ⟨p, hp⟩ : ∃ p, p = bkPos b := ⟨_, rfl⟩
    rw [← hp] at PO hno
    clear hp hmk
    cases p
    · clear hno
      go_enter Try.func13, Try.ntmps13
      go_wp2_with (go_at_call 42; refine (PO.out _).mono ?_)
      rintro e w1 ⟨rfl, b1⟩
      go_wp2_with fail
      go_ret
      exact ⟨ret_int N.out.symm, q0.trans (b1.mono q0.size)⟩
    · have hno' : n < 0 ∨ 30 < n := by simpa using hno
      clear hno
      go_enter Try.func13, Try.ntmps13
      go_wp2_with (go_at_call 42; refine (PO.out _).mono ?_)
      rintro e w1 ⟨rfl, b1⟩
      go_wp2_with (go_at_call 43; refine (in_no _ _ _ _ hno').mono ?_; rintro e w' ⟨rfl, rfl⟩)
      go_ret
      exact ⟨ret_int N.out.symm, q0.trans (b1.mono q0.size)⟩
  · have hb : bkPos b = true := by
      cases e : bkPos b
      · exact absurd (.inl e) hno
      · rfl
    obtain ⟨m, rfl⟩ : ∃ m : Nat, n = m := ⟨n.toNat, by omega⟩
    have hm : m ≤ 30 := by omega
    have N := Lib.hid (bkMany_yes hb hm)
    rw [hb] at PO
    have LI := Lib.hid (show ∀ w : World, Calls Try.prog 46 #[.agg #[.int .i64 b.1, .bool b.2.1, .bool b.2.2]] w fun e w' => e = .returned (.int .i64 (bkIx b)) ∧ Below w.heap.size w w' from l3Index b hb)
    obtain ⟨hi, hbi⟩ := bkAt_ix hb
    obtain ⟨ib, hie⟩ : ∃ i, i = bkIx b := ⟨_, rfl⟩
    rw [← hie] at N hi hbi LI
    have HI := Lib.hid hi
    have T0 := Lib.hid t0
    have Q0 := Lib.hid q0
    clear hno hie hb hbi hi t0 q0
    go_enter Try.func13, Try.ntmps13
    go_wp2_with (go_at_call 42; refine (PO.out _).mono ?_)
    rintro e w1 ⟨rfl, b1⟩
    go_wp2_with (go_at_call 43; refine (in_yes _ _ _ _ (by omega) (by omega)).mono ?_; rintro e w' ⟨rfl, rfl⟩)
    go_wp2_with (go_at_call 44; refine (l3All _).mono ?_)
    rintro e w2 ⟨rfl, a2, b2⟩
    have A2 := Lib.hid a2
    have T2 := Lib.hid ((T0.out.below b1).below b2)
    have B2 := Lib.hid ((Q0.out.trans (b1.mono Q0.out.size)).trans (b2.mono (by have := b1.size; have := Q0.out.size; omega)))
    obtain ⟨G, hG⟩ : ∃ G, G = w1.heap.size := ⟨_, rfl⟩
    rw [← hG] at A2
    have hGw : w.heap.size < G := by have := T0.out.lt; have := b1.size; omega
    have e1 : (Value.slice (some ⟨w1.heap.size, 0, none⟩) 5 5) = Value.slice (some ⟨G, 0, none⟩) 5 5 := by rw [hG]
    rw [e1]
    clear a2 b1 b2 e1 hG
    go_wp2_with fail
    obtain ⟨W3, hW3⟩ : ∃ W, W = w2.alloc (.cells #[.int .i64 0, .int .i64 0, .int .i64 0, .int .i64 0, .int .i64 0] 3) := ⟨_, rfl⟩
    have R3 := Lib.hid (show RowI W3 w2.heap.size ((List.range 5).map fun i => if i < 0 then (1 : Int) else 0) by rw [hW3]; exact Go.Deep.blk_alloc_new _ _)
    have A3 := Lib.hid (show AllB W3 G by rw [hW3]; exact A2.out.below (below_alloc _ _))
    have T3 := Lib.hid (show Tri3 W3 w.heap.size (.int .i64 b.1) (.bool b.2.1) (.bool b.2.2) 25 by rw [hW3]; exact T2.out.alloc _)
    have B3 := Lib.hid (show Below w.heap.size w W3 by rw [hW3]; exact B2.out.alloc B2.out.size _)
    have hS2 := B2.out.size
    rw [← hW3]
    clear hW3
    go_loopw [7] (fun x wr => ∃ k : Nat, k ≤ 5 ∧ x = .int .i64 k ∧ Hid (RowI wr w2.heap.size ((List.range 5).map fun i => if i < k then (1 : Int) else 0) ∧ AllB wr G ∧ Tri3 wr w.heap.size (.int .i64 b.1) (.bool b.2.1) (.bool b.2.2) 25 ∧ Below w.heap.size w wr)) (fun x _ => 5 - (intOf x).toNat)
    case atStart => exact ⟨0, by omega, rfl, R3.out, A3.out, T3.out, B3.out⟩
    case round =>
      obtain ⟨k, hk, rfl, RR⟩ := hrel
      by_cases hlt : k < 5
      · have hki : (k : Int) < 5 := by omega
        have e0 := RR.out.1.cell (i := k) (by simpa using hlt)
        have f0 := RR.out.1.frozen k
        have RS := Lib.hid (RR.out.1.set (i := k) 1)
        have nA := row_ne_all RR.out.1 RR.out.2.1 (by simp)
        have nT := row_ne_tri RR.out.1 RR.out.2.2.1 (by simp)
        have AS := Lib.hid (RR.out.2.1.other (a := ⟨w2.heap.size, k, none⟩) nA (.int .i64 1))
        have TS := Lib.hid (RR.out.2.2.1.other (a := ⟨w2.heap.size, k, none⟩) nT (.int .i64 1))
        have BS := Lib.hid (RR.out.2.2.2.setCell (p := ⟨w2.heap.size, k, none⟩) hS2 (.int .i64 1))
        clear nA nT
        go_wp2_with fail
        go_roundw
        case rel => exact ⟨k + 1, by omega, by go_num, by rw [← ones_set k hlt]; exact RS.out, AS.out, TS.out, BS.out⟩
        case measure => simp [intOf]; omega
      · obtain rfl : k = 5 := by omega
        go_wp2_with fail
        have K0 := Lib.hid RR.out
        go_loopw [6, 8] (fun v x wr => ∃ (k g : Nat), k ≤ m ∧ x = .int .i64 k ∧ v = .slice (some ⟨g, 0, none⟩) 5 5 ∧ Hid (w.heap.size ≤ g ∧ RowI wr g (bw k) ∧ AllB wr G ∧ Tri3 wr w.heap.size (.int .i64 b.1) (.bool b.2.1) (.bool b.2.2) 25 ∧ Below w.heap.size w wr)) (fun _ x _ => m - (intOf x).toNat)
        case atStart => exact ⟨0, w2.heap.size, by omega, rfl, rfl, hS2, K0.out.1, K0.out.2.1, K0.out.2.2.1, K0.out.2.2.2⟩
        case round =>
          obtain ⟨k, g, hk, rfl, rfl, R1⟩ := hrel
          by_cases hlt : k < m
          · have hki : (k : Int) < (m : Int) := by omega
            obtain ⟨wo, rfl⟩ : ∃ X, X = wr := ⟨_, rfl⟩
            obtain ⟨v, hv⟩ : ∃ v, v = bw k := ⟨_, rfl⟩
            have hvs : ∀ i, i < 5 → 0 ≤ v.getD i 0 ∧ v.getD i 0 ≤ 1000000000 := by rw [hv]; exact bw_small k (by omega)
            have hvl : v.length = 5 := by rw [hv]; exact bw_length k
            have V := Lib.hid (And.intro hvs (And.intro hvl (show bwStep v = bw (k + 1) by rw [hv]; rfl)))
            rw [← hv] at R1
            clear hvs hvl hv
            go_wp2_with fail
            obtain ⟨W4, hW4⟩ : ∃ W, W = wo.alloc (.cells #[.int .i64 0, .int .i64 0, .int .i64 0, .int .i64 0, .int .i64 0] 3) := ⟨_, rfl⟩
            have b4 : Below wo.heap.size wo W4 := by rw [hW4]; exact below_alloc _ _
            have R4 := Lib.hid (show RowI W4 wo.heap.size (nxt v 0 0) by rw [hW4, nxt_start]; exact Go.Deep.blk_alloc_new _ _)
            have S4 := Lib.hid (And.intro (R1.out.2.1.below b4) (And.intro (R1.out.2.2.1.below b4) (And.intro (R1.out.2.2.2.1.below b4) (R1.out.2.2.2.2.trans (b4.mono R1.out.2.2.2.2.size)))))
            have hSo := R1.out.2.2.2.2.size
            have hgo := R1.out.2.1.lt
            rw [← hW4]
            clear hW4 b4
            obtain ⟨h, hh⟩ : ∃ h, h = wo.heap.size := ⟨_, rfl⟩
            rw [← hh] at R4 hgo hSo ⊢
            clear hh
            go_loopw [10] (fun x wr => ∃ (i : Nat), i ≤ 5 ∧ x = .int .i64 i ∧ Hid (RowI wr h (nxt v i 0) ∧ RowI wr g v ∧ AllB wr G ∧ Tri3 wr w.heap.size (.int .i64 b.1) (.bool b.2.1) (.bool b.2.2) 25 ∧ Below w.heap.size w wr)) (fun x _ => 5 - (intOf x).toNat)
            case atStart => exact ⟨0, by omega, rfl, R4.out, S4.out⟩
            case round =>
              obtain ⟨i, hi, rfl, R2⟩ := hrel
              by_cases hlt2 : i < 5
              · have hii : (i : Int) < 5 := by omega
                obtain ⟨x, hx⟩ : ∃ x, x = bkAt i := ⟨_, rfl⟩
                have e0 := R2.out.2.2.1.at0 hlt2
                have e1 := R2.out.2.2.1.at1 hlt2
                have e2 := R2.out.2.2.1.at2 hlt2
                rw [← hx] at e0 e1 e2
                have NX := Lib.hid (show ∀ w : World, Calls Try.prog 26 #[.agg #[.int .i64 x.1, .bool x.2.1, .bool x.2.2]] w fun e w' => e = .returned (.string (nxS x)) ∧ Below w.heap.size w w' from specNext x)
                have hsz := nxS_size i
                rw [← hx] at hsz
                obtain ⟨S, hS⟩ : ∃ S, S = nxS x := ⟨_, rfl⟩
                rw [← hS] at NX hsz
                have HS := Lib.hid hS
                have HSZ := Lib.hid hsz
                have HX := Lib.hid hx
                clear hS hx hsz
                go_wp2_with (go_at_call 26; refine (NX.out _).mono ?_)
                rintro e w5 ⟨rfl, b5⟩
                have S5 := Lib.hid (And.intro (R2.out.1.below b5) (And.intro (R2.out.2.1.below b5) (And.intro (R2.out.2.2.1.below b5) (And.intro (R2.out.2.2.2.1.below b5) (R2.out.2.2.2.2.trans (b5.mono R2.out.2.2.2.2.size))))))
                clear b5 e0 e1 e2
                go_wp2_with fail
                go_loopw [12] (fun y wr => ∃ (q : Nat), q ≤ nl i ∧ y = .int .i64 q ∧ Hid (RowI wr h (nxt v i q) ∧ RowI wr g v ∧ AllB wr G ∧ Tri3 wr w.heap.size (.int .i64 b.1) (.bool b.2.1) (.bool b.2.2) 25 ∧ Below w.heap.size w wr)) (fun y _ => 2 - (intOf y).toNat)
                case atStart => exact ⟨0, by omega, rfl, S5.out⟩
                case round =>
                  obtain ⟨q, hq, rfl, R3⟩ := hrel
                  have hsz : S.size = nl i := HSZ.out
                  have hn2 := nl_le hlt2
                  by_cases hlt3 : q < nl i
                  · have hqs : (q : Int) < (S.size : Int) := by omega
                    have hqn : q < S.size := by omega
                    obtain ⟨c, hc⟩ : ∃ c : Int, c = (lb i q).toNat := ⟨_, rfl⟩
                    obtain ⟨y, hy⟩ : ∃ y, y = bkAt (tg i q) := ⟨_, rfl⟩
                    obtain ⟨tq, htq⟩ : ∃ t, t = tg i q := ⟨_, rfl⟩
                    have htq5 := (tg_is hlt2 hlt3).1
                    have hix : ∀ (w : World), (Instr.index 9 (.string S) (.int .i64 q)).run Try.prog w = .ok (.int .u8 c) w := by
                      intro w
                      rw [run_index_string _ _ _ _ _ Try.underlying9, dif_pos ⟨by omega, hqs⟩]
                      have := bt_get hqn
                      have e2 : bt S q = c := by rw [HS.out, HX.out, nxS_bt, hc]
                      rw [← e2, ← bt_get hqn]
                      rfl
                    have L3 := Lib.hid (show ∀ w : World, Calls Try.prog 45 #[.agg #[.int .i64 x.1, .bool x.2.1, .bool x.2.2], .int .u8 c] w fun e w' => e = .returned (.tuple #[.agg #[.int .i64 y.1, .bool y.2.1, .bool y.2.2], .bool true]) ∧ Below w.heap.size w w' by
                      intro w
                      have := l3StepE x c (by rw [HX.out]; exact (bkIx_at hlt2).1) w
                      rw [show bkStep x c = some y by rw [HX.out, hc, hy]; exact (tg_is hlt2 hlt3).2] at this
                      exact this)
                    have LX := Lib.hid (show ∀ w : World, Calls Try.prog 46 #[.agg #[.int .i64 y.1, .bool y.2.1, .bool y.2.2]] w fun e w' => e = .returned (.int .i64 tq) ∧ Below w.heap.size w w' by
                      intro w
                      have := l3Index y (by rw [hy]; exact (bkIx_at htq5).1) w
                      rw [show bkIx y = tq by rw [hy, htq]; exact (bkIx_at htq5).2] at this
                      exact this)
                    rw [← htq] at htq5
                    have e0 := R3.out.2.2.1.at0 hlt2
                    have e1 := R3.out.2.2.1.at1 hlt2
                    have e2 := R3.out.2.2.1.at2 hlt2
                    rw [← HX.out] at e0 e1 e2
                    have HTQ := Lib.hid htq
                    have HI0 : (0 : Int) ≤ i := by omega
                    have HQ0 : (0 : Int) ≤ q := by omega
                    clear hc hy htq
                    go_upto_region 20 with fail
                    go_cut [13, 14] (fun p z wx => ∃ (gx : Nat), p = .pointer (some ⟨gx, 0, none⟩) ∧ z = .bool true ∧ Tri3 wx gx (.int .i64 y.1) (.bool y.2.1) (.bool y.2.2) 25 ∧ Below wr.heap.size wr wx)
                    case first =>
                      have d0 : Below wr.heap.size wr wr.drew := (Below.refl _ _).drew
                      have l0 : G < wr.heap.size := R3.out.2.2.1.lt
                      --A
                      go_region_with (go_at_call 45; refine (L3.out _).mono ?_; rintro e wA ⟨rfl, bA⟩; first | (have z : Tri3 wA wr.heap.size (.int .i64 0) (.bool false) (.bool false) 25 := (Tri3.new wr.drew (.int .i64 0) (.bool false) (.bool false) 25).below bA; have z0 := z.cell0; have z1 := z.cell1; have z2 := z.cell2; have g0 := z.frozen 0; have g1 := z.frozen 1; have g2 := z.frozen 2) | (have z := d0.trans bA))
                      all_goals (go_wp2_with fail; go_meet; first
                        | with_reducible exact step_endA z _ _ _ _
                        | with_reducible exact step_endB bA z _ _ _ _)
                      --B
                    case rest =>
                    obtain ⟨gx, rfl, rfl, tg6, b6⟩ := hcut
                    have S6 := Lib.hid (And.intro (R3.out.1.below b6) (And.intro (R3.out.2.1.below b6) (And.intro (R3.out.2.2.1.below b6) (And.intro (R3.out.2.2.2.1.below b6) (R3.out.2.2.2.2.trans (b6.mono R3.out.2.2.2.2.size))))))
                    clear e0 e1 e2 b6
                    have a0 := tg6.cell0
                    have a1 := tg6.cell1
                    have a2 := tg6.cell2
                    have hh0 := S6.out.1.cell (i := i) (by rw [nxt_length]; omega)
                    rw [nxt_at hlt2] at hh0
                    have hsum := to1_small V.out.1 hlt2 (q := q) (by omega)
                    have hvq := V.out.1 tq htq5
                    have SU := Lib.hid (show to1 v i q + v.getD tq 0 = to1 v i (q + 1) by rw [HTQ.out]; rfl)
                    have gt := S6.out.2.1.cell (i := tq) (by have := V.out.2.1; omega)
                    have ff := S6.out.1.frozen i
                    obtain ⟨s, hs⟩ : ∃ s, s = to1 v i q := ⟨_, rfl⟩
                    obtain ⟨u, hu⟩ : ∃ u, u = v.getD tq 0 := ⟨_, rfl⟩
                    rw [← hs] at hh0 hsum SU
                    rw [← hu] at gt hvq SU
                    obtain ⟨hs0, hs1⟩ := hsum
                    obtain ⟨hu0, hu1⟩ := hvq
                    have hw1 : IntKind.i64.wrap (s + u) = s + u := IntWalk.i64_in _ (by omega)
                    have hw2 : wrap64 (s + u) = s + u := (IntWalk.i64_left _).symm.trans hw1
                    have htn : (tq : Int) < 5 := by omega
                    have ht0 : (0 : Int) ≤ tq := by omega
                    have TG := Lib.hid tg6
                    have GT := Lib.hid gt
                    have HH := Lib.hid hh0
                    have FF := Lib.hid ff
                    clear hs hu tg6
                    go_upto_region 21 with fail
                    go_region_with (go_at_call 46; refine (LX.out _).mono ?_; rintro e wA ⟨rfl, bA⟩; have z0 := (World.cell?_of_block (a := ⟨h, i, none⟩) (bA.block h (S6.out.1.lt))).trans HH.out; have z1 := (World.cell?_of_block (a := ⟨g, tq, none⟩) (bA.block g (S6.out.2.1.lt))).trans GT.out; have z2 := (World.frozen?_of_block (a := ⟨h, i, none⟩) (bA.block h (S6.out.1.lt))).trans FF.out)
                    all_goals
                      have bX : Below wc.heap.size wc wA := ((Below.refl _ wc).drew).trans bA
                      have r1 := S6.out.1.below bX
                      have r2 := S6.out.2.1.below bX
                      have r3 := S6.out.2.2.1.below bX
                      have r4 := S6.out.2.2.2.1.below bX
                      have S7 := Lib.hid (And.intro (nxt_set (s + u) SU.out ▸ r1.set (i := i) (s + u)) (And.intro (r2.other (a := ⟨h, i, none⟩) (by simp only; omega) (.int .i64 (s + u))) (And.intro (r3.other (a := ⟨h, i, none⟩) (row_ne_all r1 r3 (nxt_length _ _ _)) (.int .i64 (s + u))) (And.intro (r4.other (a := ⟨h, i, none⟩) (row_ne_tri r1 r4 (nxt_length _ _ _)) (.int .i64 (s + u))) ((S6.out.2.2.2.2.trans (bX.mono S6.out.2.2.2.2.size)).setCell (p := ⟨h, i, none⟩) hSo (.int .i64 (s + u)))))))
                      clear r1 r2 r3 r4 bX bA z0 z1 z2
                      go_wp2_with fail
                      go_roundw
                      case rel => exact ⟨q + 1, by omega, by go_num, S7.out⟩
                      case measure => simp [intOf]; omega
                  · obtain rfl : q = nl i := by omega
                    have hqs : decide ((nl i : Int) < (S.size : Int)) = false := by simp; omega
                    have RE := Lib.hid (show RowI wr h (nxt v (i + 1) 0) by rw [← nxt_next]; exact R3.out.1)
                    go_wp2_with fail
                    go_roundw
                    case rel =>
                      repeat apply Exists.intro
                      exact ⟨⟨i + 1, by omega, by go_num, RE.out, R3.out.2⟩, rfl⟩
                    case measure => simp [intOf]; omega
              · obtain rfl : i = 5 := by omega
                have RE := Lib.hid (show RowI wr h (bw (k + 1)) by rw [← V.out.2.2, ← nxt_end]; exact R2.out.1)
                go_wp2_with fail
                go_roundw
                case rel => exact ⟨k + 1, h, by omega, by go_num, rfl, hSo, RE.out, R2.out.2.2⟩
                case measure => simp [intOf]; omega
          · obtain rfl : k = m := by omega
            have hkk : decide ((k : Int) < (k : Int)) = false := by simp
            have hi0 : (0 : Int) ≤ ib := by omega
            have hi5 : (ib : Int) < 5 := by have := HI.out; omega
            have c0 := R1.out.2.2.2.1.cell0
            have c1 := R1.out.2.2.2.1.cell1
            have c2 := R1.out.2.2.2.1.cell2
            go_wp2_with (go_at_call 46; refine (LI.out _).mono ?_)
            rintro e w9 ⟨rfl, b9⟩
            have r9 := (R1.out.2.1.below b9).cell (i := ib) (by rw [bw_length]; exact HI.out)
            have B9 := Lib.hid (R1.out.2.2.2.2.trans (b9.mono R1.out.2.2.2.2.size))
            obtain ⟨v, hv⟩ : ∃ v, v = (bw k).getD ib 0 := ⟨_, rfl⟩
            rw [← hv] at r9
            have HV := Lib.hid hv
            clear hv b9 c0 c1 c2
            go_wp2_with fail
            go_ret
            exact ⟨ret_int (by rw [N.out, ← HV.out]), B9.out⟩

end Go.Proofs.Ytedbfmmklmidjab
