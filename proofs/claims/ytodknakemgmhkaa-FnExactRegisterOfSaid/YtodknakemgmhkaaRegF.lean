/-
  RegisterOf, by the program and by the model. For lists of at most 1048576 moves.
-/
import Derived.Test.YtodknakemgmhkaaRegL
import Derived.Test.YtodknakemgmhkaaNoteF
namespace Go.Proofs.Ytodknakemgmhkaa
open Go.RowKit Go.Sort

/-- What RegisterOf hands back. -/
def ofV (ms : List Mv) (ts : List Int) (k : Int) : List Mv := if ts.length = ms.length then regL (ofTo ms ts k ms.length) else []
def ofB (ms : List Mv) (ts : List Int) (k : Int) : Bool := decide (ts.length = ms.length) && regB (ofTo ms ts k ms.length)
theorem ofV_len (ms : List Mv) (ts : List Int) (k : Int) : (ofV ms ts k).length ≤ 1048576 := by
  unfold ofV
  split
  · have := (regB_is (regL_reg (ofTo ms ts k ms.length))).1; omega
  · simp
theorem Ints.at' {w : World} {a : Option Addr} {n cap : Nat} {xs : List Int} (h : Ints w (.slice a n cap) xs) {i : Nat} (hi : i < xs.length) : ∃ b o, a = some ⟨b, o, none⟩ ∧ b < w.heap.size ∧ ∀ i, i < xs.length → w.cell? ⟨b, o + i, none⟩ = some (.int .i64 (xs.getD i 0)) := by
  obtain ⟨a', cap', e, hl, hc⟩ := h
  simp only [Value.slice.injEq] at e
  obtain ⟨rfl, rfl, rfl⟩ := e
  rcases hc with rfl | h
  · simp at hi
  · exact h

set_option maxRecDepth 100000 in
set_option maxHeartbeats 4000000 in
theorem implRegisterOf' {w : World} {u v : Value} {ms : List Mv} {ts : List Int} (h : Mvs w u ms) (h' : Ints w v ts) (k : Int) : Calls Try.prog 51 #[u, v, .int .i64 k] w (MadeNtsB w (ofV ms ts k) (ofB ms ts k)) := by
  obtain ⟨j0, hj, hy0, hy1, hy2⟩ := info_parts info_note
  obtain ⟨au, cu, rfl⟩ := Rd.slice h
  obtain ⟨av, cv, rfl⟩ : ∃ a c, v = .slice a ts.length c := by obtain ⟨a, c, e, _⟩ := h'; exact ⟨a, c, e⟩
  have hl := Rd.len h
  have hl' : (ms.length : Int) ≤ 1048576 := by omega
  have hlt' := h'.len
  have AT := Lib.hid (fun (i : Nat) (hi : i < ms.length) => Mvs.at h hi)
  have AI := Lib.hid (fun (i : Nat) (hi : i < ts.length) => Ints.at' h' hi)
  by_cases he : ts.length = ms.length
  · have S := Lib.hid (show ofV ms ts k = regL (ofTo ms ts k ms.length) by unfold ofV; rw [if_pos he])
    have S2 := Lib.hid (show ofB ms ts k = regB (ofTo ms ts k ms.length) by unfold ofB; rw [decide_eq_true he]; rfl)
    have HE := Lib.hid he
    have hei : ¬ ¬ (ts.length : Int) = (ms.length : Int) := by omega
    have hei2 : (ts.length : Int) = (ms.length : Int) := by omega
    have q0 := below_alloc w (.cells #[] 65)
    have o0 := ow_empty w 65 2 (mvF [])
    obtain ⟨W, hW⟩ : ∃ W, W = w.alloc (.cells #[] 65) := ⟨_, rfl⟩
    rw [← hW] at q0 o0
    have HW := Lib.hid hW
    have Q0 := Lib.hid q0
    have O0 := Lib.hid (show OwnN W w.heap.size _ (ofTo ms ts k 0) from o0)
    have TI := Lib.hid (fun (X : World) (u : Value) (i : Mvs X u (ofTo ms ts k ms.length)) => implRegisterNotes i)
    obtain ⟨rs, hrs⟩ : ∃ rs, rs = regL (ofTo ms ts k ms.length) := ⟨_, rfl⟩
    obtain ⟨t, ht⟩ : ∃ t, t = regB (ofTo ms ts k ms.length) := ⟨_, rfl⟩
    rw [← hrs, ← ht] at TI
    rw [← hrs] at S
    rw [← ht] at S2
    clear h h' hW q0 o0 he hrs ht hei
    go_enter Try.func51, Try.ntmps51
    go_wp2_with fail
    rw [← HW.out]
    go_loopw [8, 20] (fun v i wr => ∃ j : Nat, j ≤ ms.length ∧ i = .int .i64 j ∧ Hid (OwnN wr w.heap.size v (ofTo ms ts k j)) ∧ Hid (Below w.heap.size w wr)) (fun _ i _ => ms.length - (intOf i).toNat)
    case atStart => exact ⟨0, by omega, rfl, O0, Q0⟩
    case round =>
      obtain ⟨j, hjj, rfl, HO, HB⟩ := hrel
      obtain ⟨al, cl, hal⟩ := Ow.slice HO.out
      subst hal
      obtain ⟨n, hnl⟩ : ∃ n, n = (ofTo ms ts k j).length := ⟨_, rfl⟩
      have hnj : n ≤ 1048576 := by have := ofTo_length ms ts k j; omega
      have NL := Lib.hid hnl
      by_cases hlt : j < ms.length
      · obtain ⟨b, o, rfl, hb, hcell⟩ := AT.out j hlt
        obtain ⟨b2, o2, rfl, hb2, hcell2⟩ := AI.out j (by rw [HE.out]; exact hlt)
        obtain ⟨e0, e1⟩ := hcell j hlt
        have e2 := hcell2 j (by rw [HE.out]; exact hlt)
        have c0 := (HB.out.cell (p := ⟨b, o + j * 2, none⟩) hb).trans e0
        have c1 : wr.cell? ⟨b, o + j * 2 + 1, none⟩ = _ := (HB.out.cell (p := ⟨b, o + j * 2 + 1, none⟩) hb).trans e1
        have hji : (j : Int) < (ms.length : Int) := by omega
        have hjt : (j : Int) < (ts.length : Int) := by omega
        have OY := Lib.hid (fun (g : (ms.getD j noMv).1 = k) => ofTo_yes (ts := ts) g)
        have ON := Lib.hid (fun (g : (ms.getD j noMv).1 ≠ k) => ofTo_no (ts := ts) g)
        obtain ⟨x, hx⟩ : ∃ x, x = (ms.getD j noMv).1 := ⟨_, rfl⟩
        obtain ⟨S1, hS1⟩ : ∃ S, S = (ms.getD j noMv).2 := ⟨_, rfl⟩
        obtain ⟨y, hy⟩ : ∃ y, y = ts.getD j 0 := ⟨_, rfl⟩
        rw [← hx] at c0 OY ON
        rw [← hS1] at c1 OY
        rw [← hy] at e2 OY
        have p1 := Pair.new wr (.int .i64 x) (.string S1) 87
        have qV := HB.out.alloc HB.out.size (.cells #[.int .i64 x, .string S1] 87)
        have oV := Ow.below HO.out (below_alloc wr (.cells #[.int .i64 x, .string S1] 87))
        obtain ⟨V, hV⟩ : ∃ V, V = wr.alloc (.cells #[.int .i64 x, .string S1] 87) := ⟨_, rfl⟩
        rw [← hV] at p1 qV oV
        have HV := Lib.hid hV.symm
        have V0 := p1.cell0
        have V1 := p1.cell1
        have QV := Lib.hid qV
        have OV := Lib.hid (show OwnN V w.heap.size _ (ofTo ms ts k j) from oV)
        have c2 := (qV.cell (p := ⟨b2, o2 + j, none⟩) hb2).trans e2
        clear hx hS1 hy hV e0 e1 e2 hcell hcell2 qV oV p1
        go_upto_region 7 with fail
        rw [HV.out]
        by_cases g : x = k
        · have hg : (x == k) = true := beq_iff_eq.2 g
          have NX := Lib.hid (OY.out g)
          have own0 := OV.out
          unfold OwnN Ow at own0
          rw [← hnl] at own0 ⊢
          have HOD := Lib.hid (show ((V.alloc (.cells #[.int .i64 y, .string S1] 65)).drew).ownsRow w.heap.size 65 2 (.slice al n cl) n ((List.range (n * 2)).map (mvF (ofTo ms ts k j))) from (World.ownsRow.alloc own0 _).drew)
          have CON := Lib.hid (show ∀ q u, [Value.int .i64 y, Value.string S1][q]? = some u → ((V.alloc (.cells #[.int .i64 y, .string S1] 65)).drew).cell? ((⟨V.heap.size, 0, none⟩ : Addr).add q) = some u from lit_two_n V _ _ _)
          have SZ := Lib.hid (show w.heap.size ≤ ((V.alloc (.cells #[.int .i64 y, .string S1] 65)).drew).heap.size from Nat.le_trans QV.out.size (below_alloc V (.cells #[.int .i64 y, .string S1] 65)).size)
          have BD := Lib.hid (show Below w.heap.size w (V.alloc (.cells #[.int .i64 y, .string S1] 65)).drew from (QV.out.alloc QV.out.size _).drew)
          clear own0 hnl OY ON g
          go_upto_region 8 with fail
          go_region_law (refine step_append_own rfl (.tmp 29) (.tmp 37) 25 rfl w.heap.size 65 j0 (.agg #[.int .i64 0, .string ⟨#[]⟩]) 2 24 Try.underlying25 hj hy0 hy1 hy2 rfl (by decide) (.slice al n cl) n _ (by simp [Act.eval]) HOD.out ⟨V.heap.size, 0, none⟩ 1 1 [.int .i64 y, .string S1] (by simp [Act.eval]) rfl CON.out (by intro u hu; simp at hu; rcases hu with rfl | rfl <;> rfl) (by simp only [maxLen]; omega) (by omega) SZ.out ?_; intro v2 w2 hown2 hgrow; have HO2 := Lib.hid (show OwnN w2 w.heap.size v2 (ofTo ms ts k (j + 1)) by rw [NX.out]; refine nts_more ?_; rw [← NL.out]; exact hown2); have HB2 := Lib.hid (BD.out.grown hgrow SZ.out (fun c hc => (HOD.out.lt c hc).1)); obtain ⟨av2, cv2, rfl⟩ := Ow.slice HO2.out)
          all_goals
            (clear hown2 hgrow
             go_wp2_with fail
             go_roundw
             case rel => exact ⟨j + 1, by omega, by go_num, HO2, HB2⟩
             case measure => simp [intOf]; omega)
        · have hg : (x == k) = false := beq_eq_false_iff_ne.2 g
          have NX := Lib.hid (ON.out g)
          clear OY ON
          go_wp2_with fail
          go_roundw
          case rel => exact ⟨j + 1, by omega, by go_num, Lib.hid (by rw [NX.out]; exact OV.out), QV⟩
          case measure => simp [intOf]; omega
      · obtain rfl : j = ms.length := by omega
        have TN := Lib.hid (TI.out wr _ (OwnN.nts HO.out (by rw [← NL.out]; exact hnj)))
        clear hnl
        go_wp2_with (go_at_call 75; refine TN.out.mono ?_; rintro e w4 ⟨u4, rfl, o4, b4⟩; obtain ⟨a4, c4, rfl⟩ := Ow.slice o4; have O4 := Lib.hid (Ow.mono o4 HB.out.size); have B4 := Lib.hid (HB.out.trans (b4.mono HB.out.size)); clear o4 b4)
        go_ret2
        exact ⟨.slice a4 rs.length c4, by rw [S2.out]; rfl, by rw [S.out]; exact O4.out, B4.out⟩
  · have S := Lib.hid (show ofV ms ts k = [] by unfold ofV; rw [if_neg he])
    have S2 := Lib.hid (show ofB ms ts k = false by unfold ofB; rw [decide_eq_false he]; rfl)
    have hei : ¬ (ts.length : Int) = (ms.length : Int) := by omega
    have O := Lib.hid (show OwnN (w.alloc (.cells #[] 65)) w.heap.size (.slice (some ⟨w.heap.size, 0, none⟩) 0 0) [] from ow_empty w 65 2 (mvF []))
    clear h h' he
    go_enter Try.func51, Try.ntmps51
    go_wp2_with fail
    go_ret2
    exact ⟨.slice (some ⟨w.heap.size, 0, none⟩) 0 0, by rw [S2.out]; rfl, by rw [S.out]; exact O.out, below_alloc _ _⟩

set_option maxRecDepth 100000 in
set_option maxHeartbeats 4000000 in
theorem specRegisterOf {w : World} {u v : Value} {ms : List Mv} {ts : List Int} (h : Mvs w u ms) (h' : Ints w v ts) (k : Int) : Calls Try.prog 48 #[u, v, .int .i64 k] w (MadeNtsB w (ofV ms ts k) (ofB ms ts k)) := by
  obtain ⟨j0, hj, hy0, hy1, hy2⟩ := info_parts info_note
  obtain ⟨au, cu, rfl⟩ := Rd.slice h
  obtain ⟨av, cv, rfl⟩ : ∃ a c, v = .slice a ts.length c := by obtain ⟨a, c, e, _⟩ := h'; exact ⟨a, c, e⟩
  have hl := Rd.len h
  have hl' : (ms.length : Int) ≤ 1048576 := by omega
  have hlt' := h'.len
  have AT := Lib.hid (fun (i : Nat) (hi : i < ms.length) => Mvs.at h hi)
  have AI := Lib.hid (fun (i : Nat) (hi : i < ts.length) => Ints.at' h' hi)
  have q0 := below_alloc w (.cells #[] 65)
  have o0 := ow_empty w 65 2 (mvF [])
  obtain ⟨W, hW⟩ : ∃ W, W = w.alloc (.cells #[] 65) := ⟨_, rfl⟩
  rw [← hW] at q0 o0
  have HW := Lib.hid hW
  have Q0 := Lib.hid q0
  have O0 := Lib.hid (show OwnN W w.heap.size _ (ofTo ms ts k 0) from o0)
  clear hW q0 o0 h h'
  by_cases he : ts.length = ms.length
  · have S := Lib.hid (show ofV ms ts k = regL (ofTo ms ts k ms.length) by unfold ofV; rw [if_pos he])
    have S2 := Lib.hid (show ofB ms ts k = regB (ofTo ms ts k ms.length) by unfold ofB; rw [decide_eq_true he]; rfl)
    have HE := Lib.hid he
    obtain ⟨N, hN⟩ : ∃ N : Int, N = (ms.length : Int) := ⟨_, rfl⟩
    have hN2 : (ts.length : Int) = N := by omega
    have RW := Lib.hid (fun (X : World) (p : Value) (xs : List Mv) (i : Mvs X p xs) => specRegisterValid i)
    clear he
    go_enter Try.func48, Try.ntmps48
    go_wp2_with fail
    rw [← HW.out]
    have hei : ((ts.length : Int) == (ms.length : Int)) = true := by rw [beq_iff_eq]; omega
    have hei2 : (ts.length : Int) = (ms.length : Int) := by omega
    clear hN hN2
    go_loopw [8, 9] (fun v i wr => ∃ j : Nat, j ≤ ms.length ∧ i = .int .i64 j ∧ Hid (OwnN wr w.heap.size v (ofTo ms ts k j)) ∧ Hid (Below w.heap.size w wr)) (fun _ i _ => ms.length - (intOf i).toNat)
    case atStart => exact ⟨0, by omega, rfl, O0, Q0⟩
    case round =>
      obtain ⟨j, hjj, rfl, HO, HB⟩ := hrel
      obtain ⟨al, cl, hal⟩ := Ow.slice HO.out
      subst hal
      obtain ⟨n, hnl⟩ : ∃ n, n = (ofTo ms ts k j).length := ⟨_, rfl⟩
      have hnj : n ≤ 1048576 := by have := ofTo_length ms ts k j; omega
      have NL := Lib.hid hnl
      by_cases hlt : j < ms.length
      · obtain ⟨b, o, rfl, hb, hcell⟩ := AT.out j hlt
        obtain ⟨b2, o2, rfl, hb2, hcell2⟩ := AI.out j (by rw [HE.out]; exact hlt)
        obtain ⟨e0, e1⟩ := hcell j hlt
        have e2 := hcell2 j (by rw [HE.out]; exact hlt)
        have c0 := (HB.out.cell (p := ⟨b, o + j * 2, none⟩) hb).trans e0
        have c1 : wr.cell? ⟨b, o + j * 2 + 1, none⟩ = _ := (HB.out.cell (p := ⟨b, o + j * 2 + 1, none⟩) hb).trans e1
        have c2 := (HB.out.cell (p := ⟨b2, o2 + j, none⟩) hb2).trans e2
        have hji : (j : Int) < (ms.length : Int) := by omega
        have hjt : (j : Int) < (ts.length : Int) := by omega
        have OY := Lib.hid (fun (g : (ms.getD j noMv).1 = k) => ofTo_yes (ts := ts) g)
        have ON := Lib.hid (fun (g : (ms.getD j noMv).1 ≠ k) => ofTo_no (ts := ts) g)
        obtain ⟨x, hx⟩ : ∃ x, x = (ms.getD j noMv).1 := ⟨_, rfl⟩
        obtain ⟨S1, hS1⟩ : ∃ S, S = (ms.getD j noMv).2 := ⟨_, rfl⟩
        obtain ⟨y, hy⟩ : ∃ y, y = ts.getD j 0 := ⟨_, rfl⟩
        rw [← hx] at c0 OY ON
        rw [← hS1] at c1 OY
        rw [← hy] at c2 OY
        clear hx hS1 hy e0 e1 e2 hcell hcell2
        by_cases g : x = k
        · have hg : (x == k) = true := beq_iff_eq.2 g
          have NX := Lib.hid (OY.out g)
          have own0 := HO.out
          unfold OwnN Ow at own0
          rw [← hnl] at own0 ⊢
          have HOD := Lib.hid (show ((wr.alloc (.cells #[.int .i64 y, .string S1] 65)).drew).ownsRow w.heap.size 65 2 (.slice al n cl) n ((List.range (n * 2)).map (mvF (ofTo ms ts k j))) from (World.ownsRow.alloc own0 _).drew)
          have CON := Lib.hid (show ∀ q u, [Value.int .i64 y, Value.string S1][q]? = some u → ((wr.alloc (.cells #[.int .i64 y, .string S1] 65)).drew).cell? ((⟨wr.heap.size, 0, none⟩ : Addr).add q) = some u from lit_two_n wr _ _ _)
          have SZ := Lib.hid (show w.heap.size ≤ ((wr.alloc (.cells #[.int .i64 y, .string S1] 65)).drew).heap.size from Nat.le_trans HB.out.size (below_alloc wr (.cells #[.int .i64 y, .string S1] 65)).size)
          have BD := Lib.hid (show Below w.heap.size w (wr.alloc (.cells #[.int .i64 y, .string S1] 65)).drew from (HB.out.alloc HB.out.size _).drew)
          clear own0 hnl OY ON g
          go_upto_region 6 with fail
          go_region_law (refine step_append_own rfl (.tmp 31) (.tmp 42) 25 rfl w.heap.size 65 j0 (.agg #[.int .i64 0, .string ⟨#[]⟩]) 2 24 Try.underlying25 hj hy0 hy1 hy2 rfl (by decide) (.slice al n cl) n _ (by simp [Act.eval]) HOD.out ⟨wr.heap.size, 0, none⟩ 1 1 [.int .i64 y, .string S1] (by simp [Act.eval]) rfl CON.out (by intro u hu; simp at hu; rcases hu with rfl | rfl <;> rfl) (by simp only [maxLen]; omega) (by omega) SZ.out ?_; intro v2 w2 hown2 hgrow; have HO2 := Lib.hid (show OwnN w2 w.heap.size v2 (ofTo ms ts k (j + 1)) by rw [NX.out]; refine nts_more ?_; rw [← NL.out]; exact hown2); have HB2 := Lib.hid (BD.out.grown hgrow SZ.out (fun c hc => (HOD.out.lt c hc).1)); obtain ⟨av2, cv2, rfl⟩ := Ow.slice HO2.out)
          all_goals
            (clear hown2 hgrow
             go_wp2_with fail
             go_roundw
             case rel => exact ⟨j + 1, by omega, by go_num, HO2, HB2⟩
             case measure => simp [intOf]; omega)
        · have hg : (x == k) = false := beq_eq_false_iff_ne.2 g
          have NX := Lib.hid (ON.out g)
          clear OY ON
          go_wp2_with fail
          go_roundw
          case rel => exact ⟨j + 1, by omega, by go_num, Lib.hid (by rw [NX.out]; exact HO.out), HB⟩
          case measure => simp [intOf]; omega
      · have hge : (ms.length : Int) ≤ (j : Int) := by omega
        have hje : j = ms.length := by omega
        have OA := HO.out
        rw [hje] at OA
        have SL : (ofTo ms ts k ms.length).length = n := by rw [hnl, hje]
        have OL := Lib.hid (show OwnN wr w.heap.size (.slice al n cl) (ofTo ms ts k ms.length) by rw [← SL]; exact OA)
        have VW := Lib.hid (RW.out _ _ (ofTo ms ts k ms.length) (OwnN.nts OL.out (by rw [SL]; exact hnj)))
        have RL := Lib.hid (show regL (ofTo ms ts k ms.length) = if regB (ofTo ms ts k ms.length) = true then ofTo ms ts k ms.length else [] from rfl)
        obtain ⟨t, ht⟩ : ∃ t, t = regB (ofTo ms ts k ms.length) := ⟨_, rfl⟩
        rw [← ht] at VW S2 RL
        have HNL := Lib.hid hnl
        rw [← hnl]
        clear OA ht hje SL hnl
        cases t
        · go_wp2_with (go_at_call 17; refine VW.out.mono ?_; rintro e w1 ⟨rfl, b1⟩; have B1 := Lib.hid (HB.out.trans (b1.mono HB.out.size)); clear b1)
          have O := Lib.hid (show OwnN (w1.alloc (.cells #[] 65)) w.heap.size (.slice (some ⟨w1.heap.size, 0, none⟩) 0 0) [] from (ow_empty w1 65 2 (mvF [])).mono B1.out.size)
          go_ret2
          exact ⟨.slice (some ⟨w1.heap.size, 0, none⟩) 0 0, by rw [S2.out]; rfl, by rw [S.out, RL.out]; exact O.out, B1.out.alloc B1.out.size _⟩
        · go_wp2_with (go_at_call 17; refine VW.out.mono ?_; rintro e w1 ⟨rfl, b1⟩; have B1 := Lib.hid (HB.out.trans (b1.mono HB.out.size)); have O1 := Lib.hid (OL.out.below b1); clear b1)
          go_ret2
          exact ⟨.slice al n cl, by rw [S2.out]; rfl, by rw [S.out, RL.out]; exact O1.out, B1.out⟩
  · have S := Lib.hid (show ofV ms ts k = [] by unfold ofV; rw [if_neg he])
    have S2 := Lib.hid (show ofB ms ts k = false by unfold ofB; rw [decide_eq_false he]; rfl)
    have hei : ((ts.length : Int) == (ms.length : Int)) = false := by rw [beq_eq_false_iff_ne]; omega
    have hei2 : ¬ (ts.length : Int) = (ms.length : Int) := by omega
    have O := Lib.hid (show OwnN (W.alloc (.cells #[] 65)) w.heap.size (.slice (some ⟨W.heap.size, 0, none⟩) 0 0) [] from (ow_empty W 65 2 (mvF [])).mono Q0.out.size)
    have B := Lib.hid (Q0.out.alloc Q0.out.size (.cells #[] 65))
    clear he
    by_cases h0 : (0 : Int) < (ms.length : Int)
    · go_enter Try.func48, Try.ntmps48
      go_wp2_with fail
      rw [← HW.out]
      refine wp_loop_rounds 1 ?_
      rw [rounds_succ]
      go_wp2_with fail
      go_ret2
      exact ⟨.slice (some ⟨W.heap.size, 0, none⟩) 0 0, by rw [S2.out]; rfl, by rw [S.out]; exact O.out, B.out⟩
    · have h1 : (ms.length : Int) ≤ 0 := by omega
      go_enter Try.func48, Try.ntmps48
      go_wp2_with fail
      rw [← HW.out]
      refine wp_loop_rounds 1 ?_
      rw [rounds_succ]
      go_wp2_with fail
      go_ret2
      exact ⟨.slice (some ⟨W.heap.size, 0, none⟩) 0 0, by rw [S2.out]; rfl, by rw [S.out]; exact O.out, B.out⟩

end Go.Proofs.Ytodknakemgmhkaa
