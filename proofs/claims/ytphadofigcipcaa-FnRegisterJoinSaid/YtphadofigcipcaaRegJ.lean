/-
  RegisterJoin: two lists put behind one another (slices.Concat; two appends), the program's and the model's. For lists of at most 1048576 notes together.
-/
import Derived.Lib.AppendZerosOnto
import Derived.Lib.Walk
import Derived.Test.YtphadofigcipcaaRegV
import Derived.Test.YtphadofigcipcaaRegN
namespace Go.Proofs.Ytphadofigcipcaa
open Go.RowKit Go.Sort

def joinV (ms ns : List Mv) : List Mv := regL (ms ++ ns)
def joinB (ms ns : List Mv) : Bool := regB (ms ++ ns)
theorem joinV_len (ms ns : List Mv) : (joinV ms ns).length ≤ 1048576 := by
  have := (regB_is (regL_reg (ms ++ ns))).1
  unfold joinV
  omega

/-- A list without an array, put behind one of the call's own. -/
theorem run_add_none {X : World} {base : Nat} {v : Value} {ms : List Mv} (ho : OwnN X base v ms) (c : Nat) (ty : TypeId) :
    (Builtin.append_ #[23, 23] ty #[v, .slice none 0 c]).run Try.prog X = .ok v X := by
  obtain ⟨i0, hi, hz0, hz1, hz2⟩ := info_parts info_note
  have hs : Go.Src Try.prog i0.size 23 (.slice none 0 c) 0 [] X := Go.Src.ofNil X Try.underlying23 c
  rcases ho.2 with ⟨rfl, h0⟩ | ⟨g, cap, cur, rfl, hbg, hg, hnc, hcm, hcs, htake⟩
  · simp [Builtin.append_, run_underlying Try.underlying23, sizeOf, typeInfo, hi, Builtin.lenOf, Builtin.firstCells]
  · have := Go.run_append_room_src (w := X) 23 23 ty 29 i0 Try.underlying23 hi g 0 ms.length cap _ 0 [] hs (by omega) (fun j hj => by simp at hj) (fun j hj => by simp at hj)
    rw [this]
    rfl

/-- A list put behind one of the call's own. -/
theorem run_addN {X : World} {base : Nat} {v u : Value} {ms ns : List Mv} (ho : OwnN X base v ms) (hr : Mvs X u ns) (hb : base ≤ X.heap.size) (hl : ms.length + ns.length ≤ 1048576) (ty : TypeId) :
    ∃ v' w', (Builtin.append_ #[23, 23] ty #[v, u]).run Try.prog X = .ok v' w' ∧ OwnN w' base v' (ms ++ ns) ∧ Below base X w' := by
  obtain ⟨i0, hi, hz0, hz1, hz2⟩ := info_parts info_note
  obtain ⟨a, c, rfl, hn, hc⟩ := hr
  rcases hc with h0 | ⟨b, o, rfl, hb', hcell⟩
  · have e : ns = [] := List.length_eq_zero_iff.1 h0
    subst e
    cases a with
    | none => exact ⟨v, X, run_add_none ho c ty, by rw [List.append_nil]; exact ho, Below.refl _ _⟩
    | some a =>
      obtain ⟨v', w', hr, ho', hg, -, -⟩ := run_append_own_at (P := Try.prog) X base 23 ty 29 i0 (.agg #[.int .i64 0, .string ⟨#[]⟩]) 2 24 Try.underlying23 hi hz0 hz1 hz2 rfl (by decide) v ms.length _ ho a 0 c [] rfl (fun j u hu => by simp at hu) (fun u hu => by cases hu) (by simp only [maxLen]; omega) (by omega) hb
      refine ⟨v', w', hr, ?_, (Below.refl base X).grown hg hb (fun g hg => (World.ownsRow.lt ho g hg).1)⟩
      rw [List.append_nil]
      rw [List.append_nil] at ho'
      exact ho'
  · obtain ⟨v', w', hr, ho', hg, -, -⟩ := run_append_own_at (P := Try.prog) X base 23 ty 29 i0 (.agg #[.int .i64 0, .string ⟨#[]⟩]) 2 24 Try.underlying23 hi hz0 hz1 hz2 rfl (by decide) v ms.length _ ho ⟨b, o, none⟩ ns.length c ((List.range (ns.length * 2)).map (mvF ns)) (by simp) (rd_newsN hcell) (mvF_oneCell _ _) (by simp only [maxLen]; omega) (by omega) hb
    refine ⟨v', w', hr, ?_, (Below.refl base X).grown hg hb (fun g hg => (World.ownsRow.lt ho g hg).1)⟩
    unfold OwnN Ow
    rw [List.length_append]
    have e := mvF_join ms ns
    rw [List.length_append] at e
    rw [← e]
    exact ho'

set_option maxHeartbeats 2000000 in
set_option maxRecDepth 100000 in
/-- slices.Grow of no list. -/
theorem implGrowN (n : Nat) (hn : n ≤ 1048576) (w : World) : Calls Try.prog 91 #[.slice none 0 0, .int .i64 n] w (MadeNts w []) := by
  obtain ⟨i0, hi, hz0, hz1, hz2⟩ := info_parts info_note
  rcases Nat.eq_zero_or_pos n with h0 | h0
  · subst h0
    go_enter Try.func91, Try.ntmps91
    go_wp2_with fail
    go_ret
    exact ⟨.slice none 0 0, rfl, ow_nil _ _ _ _ _, Below.refl _ _⟩
  · have h1 : ¬ ((n : Int) < 0) := by omega
    have h4 : (0 : Int) < (n : Int) := by omega
    have h3 : wrap64 (n : Int) = (n : Int) := (IntWalk.i64_left _).symm.trans (IntWalk.i64_in _ (by omega))
    have hrz : ∀ ty, (Builtin.append_ #[23, 3] ty #[.slice none 0 0, .int .i64 (n : Int)]).run Try.prog w = .ok (.slice (some ⟨w.heap.size, 0, none⟩) n (grownCap w n 0 29)) (w.drew.alloc (.cells (Builtin.zeroCells (.agg #[.int .i64 0, .string ⟨#[]⟩] : Value).cells n ++ Builtin.zeroCells (.agg #[.int .i64 0, .string ⟨#[]⟩] : Value).cells (grownCap w n 0 29 - n)) 29)) := fun ty => by
      have h := Lib.run_append_grow_zeros (P := Try.prog) w 23 3 ty 29 i0 _ .i64 .i64 Try.underlying23 Try.underlying3 hi hz0 none 0 0 [] (Go.run_firstCells_none w.drew i0.size 0 0 0) n h0 (by omega) (by omega) (by omega) (by rw [hz2]; omega) (growslice_fits (by omega) (by rw [hz2]; omega))
      simpa using h
    have hge := grownCap_ge w n 0 29
    have hgm := grownCap_le_maxLen w n 0 29 (by unfold maxLen; omega)
    have OW := Lib.hid (show OwnN (w.drew.alloc (.cells (Builtin.zeroCells (.agg #[.int .i64 0, .string ⟨#[]⟩] : Value).cells n ++ Builtin.zeroCells (.agg #[.int .i64 0, .string ⟨#[]⟩] : Value).cells (grownCap w n 0 29 - n)) 29)) w.heap.size (.slice (some ⟨w.heap.size, 0, none⟩) 0 (grownCap w n 0 29)) [] from by
      unfold OwnN Ow
      refine ⟨rfl, .inr ⟨w.heap.size, _, _, rfl, Nat.le_refl _, heap_alloc_new w.drew _, by simp, hgm, ?_, by simp⟩⟩
      simp only [Array.size_append, size_zeroCells]
      show n * 2 + (grownCap w n 0 29 - n) * 2 = _
      omega)
    have BW := Lib.hid ((Below.refl w.heap.size w).drew.alloc (by simp) (.cells (Builtin.zeroCells (.agg #[.int .i64 0, .string ⟨#[]⟩] : Value).cells n ++ Builtin.zeroCells (.agg #[.int .i64 0, .string ⟨#[]⟩] : Value).cells (grownCap w n 0 29 - n)) 29))
    obtain ⟨G, hG⟩ : ∃ G, G = grownCap w n 0 29 := ⟨_, rfl⟩
    rw [← hG] at hrz OW BW hge hgm
    obtain ⟨X, hX⟩ : ∃ X, X = (w.drew.alloc (.cells (Builtin.zeroCells (.agg #[.int .i64 0, .string ⟨#[]⟩] : Value).cells n ++ Builtin.zeroCells (.agg #[.int .i64 0, .string ⟨#[]⟩] : Value).cells (G - n)) 29)) := ⟨_, rfl⟩
    rw [← hX] at hrz OW BW
    have hg0 : (0 : Int) ≤ (G : Int) := by omega
    clear hG hX
    go_enter Try.func91, Try.ntmps91
    go_wp2_with (at_builtin; refine Lib.wpList_append_run _ rfl _ _ _ _ rfl _ _ rfl rfl _ _ (hrz _) ?_)
    go_ret
    exact ⟨_, rfl, OW.out, BW.out⟩

set_option maxHeartbeats 4000000 in
set_option maxRecDepth 100000 in
/-- slices.Concat of two lists. -/
theorem implConcatN {w : World} {v0 v1 : Value} {ms ns : List Mv} {L : Nat} (h0 : Mvs w v0 ms) (h1 : Mvs w v1 ns) (hL : L < w.heap.size) (k0 : w.cell? ⟨L, 0, none⟩ = some v0) (k1 : w.cell? ⟨L, 1, none⟩ = some v1) (hl : ms.length + ns.length ≤ 1048576) :
    Calls Try.prog 71 #[.slice (some ⟨L, 0, none⟩) 2 2] w (MadeNts w (ms ++ ns)) := by
  have GR := Lib.hid (show Calls Try.prog 91 #[.slice none 0 0, .int .i64 ((ms.length : Int) + (ns.length : Int))] w (MadeNts w []) from by
    have := implGrowN (ms.length + ns.length) hl w
    rw [Int.natCast_add] at this
    exact this)
  have H0 := Lib.hid h0
  have H1 := Lib.hid h1
  obtain ⟨a0, d0, rfl⟩ := Rd.slice h0
  obtain ⟨a1, d1, rfl⟩ := Rd.slice h1
  have n0 : ¬ ((ms.length : Int) < 0) := by omega
  have n1 : ¬ ((ms.length : Int) + (ns.length : Int) < 0) := by omega
  have HL := Lib.hid hl
  have w0 : wrap64 (ms.length : Int) = (ms.length : Int) := (IntWalk.i64_left _).symm.trans (IntWalk.i64_in _ (by omega))
  have w1 : wrap64 ((ms.length : Int) + (ns.length : Int)) = (ms.length : Int) + (ns.length : Int) := (IntWalk.i64_left _).symm.trans (IntWalk.i64_in _ (by omega))
  clear h0 h1 hl
  go_enter Try.func71, Try.ntmps71
  go_wp2_with fail
  refine wp_loop_rounds 3 ?_
  rw [rounds_succ]
  go_wp2_with fail
  rw [rounds_succ]
  go_wp2_with fail
  rw [rounds_succ]
  go_wp2_with (go_at_call 91; refine GR.out.mono ?_)
  rintro e x1 ⟨v, rfl, o1, b1⟩
  have q0 := (b1.cell (p := ⟨L, 0, none⟩) hL).trans k0
  have R0 := Lib.hid (run_addN o1 (Rd.below H0.out b1) b1.size (by have := HL.out; simp only [List.length_nil]; omega) 23)
  have B1 := Lib.hid b1
  clear w0 w1 n0 n1 k0 o1 b1
  go_wp2_with fail
  refine wp_loop_rounds 3 ?_
  rw [rounds_succ]
  obtain ⟨v2, x2, hr2, o2, b2⟩ := R0.out
  go_wp2_with (at_builtin; refine Lib.wpList_append_run _ rfl _ _ _ _ rfl _ _ rfl rfl _ _ hr2 ?_)
  have b3 := B1.out.trans b2
  have q1 := (b3.cell (p := ⟨L, 1, none⟩) hL).trans k1
  obtain ⟨v3, x3, hr3, o3, b4⟩ := run_addN o2 (Rd.below H1.out b3) b3.size (by have := HL.out; simp only [List.nil_append]; omega) 23
  have B3 := Lib.hid b3
  have B4 := Lib.hid b4
  have O3 := Lib.hid o3
  clear hr2 q0 k1 o2 o3 b2 b3 b4
  go_wp2_with fail
  rw [rounds_succ]
  go_wp2_with (at_builtin; refine Lib.wpList_append_run _ rfl _ _ _ _ rfl _ _ rfl rfl _ _ hr3 ?_)
  clear hr3 q1
  rw [rounds_succ]
  go_wp2_with fail
  go_ret
  exact ⟨_, rfl, O3.out, B3.out.trans B4.out⟩

theorem join_no1 {ms ns : List Mv} (h : regB ms = false) : regB (ms ++ ns) = false := by
  cases e : regB (ms ++ ns)
  · rfl
  · rw [(reg_joined e).1] at h
    cases h
theorem join_no2 {ms ns : List Mv} (h : regB ns = false) : regB (ms ++ ns) = false := by
  cases e : regB (ms ++ ns)
  · rfl
  · rw [(reg_joined e).2] at h
    cases h

set_option maxHeartbeats 1000000 in
set_option maxRecDepth 100000 in
theorem implRegisterJoin {w : World} {u v : Value} {ms ns : List Mv} (h : Mvs w u ms) (h' : Mvs w v ns) (hl : ms.length + ns.length ≤ 1048576) : Calls Try.prog 25 #[u, v] w (MadeNtsB w (joinV ms ns) (joinB ms ns)) := by
  have q := below_alloc w (.cells #[u, v] 23)
  have R := Lib.hid (implConcatN (L := w.heap.size) (Rd.below h q) (Rd.below h' q) (by simp) (World.cell?_alloc_new w #[u, v] 23 0) (World.cell?_alloc_new w #[u, v] 23 1) hl)
  have Q := Lib.hid q
  have HL := Lib.hid (show (ms ++ ns).length ≤ 1048576 by rw [List.length_append]; exact hl)
  clear q
  obtain ⟨au, cu, rfl⟩ := Rd.slice h
  obtain ⟨av, cv, rfl⟩ := Rd.slice h'
  clear h h' hl
  go_enter Try.func25, Try.ntmps25
  go_wp2_with (first
    | (go_at_call 71; refine R.out.mono ?_; rintro e x1 ⟨v1, rfl, o1, b1⟩; have N := Lib.hid (implRegisterNotes (OwnN.nts o1 HL.out)); have B1 := Lib.hid (Q.out.trans (b1.mono Q.out.size)); clear o1 b1)
    | (go_at_call 67; refine N.out.mono ?_; rintro e x2 ⟨v2, rfl, o2, b2⟩; have B2 := Lib.hid (B1.out.trans (b2.mono B1.out.size)); have O2 := Lib.hid (Ow.mono o2 B1.out.size); clear o2 b2))
  go_ret2
  exact ⟨v2, rfl, O2.out, B2.out⟩

set_option maxHeartbeats 4000000 in
set_option maxRecDepth 100000 in
theorem specRegisterJoin {w : World} {u v : Value} {ms ns : List Mv} (h : Mvs w u ms) (h' : Mvs w v ns) (hl : ms.length + ns.length ≤ 1048576) : Calls Try.prog 40 #[u, v] w (MadeNtsB w (joinV ms ns) (joinB ms ns)) := by
  have q := below_alloc w (.cells #[] 29)
  have o1 : OwnN (w.alloc (.cells #[] 29)) w.heap.size (.slice (some ⟨w.heap.size, 0, none⟩) 0 0) [] := ow_empty w 29 2 (mvF [])
  obtain ⟨v2, x2, hr2, o2, b2⟩ := run_addN o1 (Rd.below h q) q.size (by simp only [List.length_nil]; omega) 23
  obtain ⟨v3, x3, hr3, o3, b3⟩ := run_addN o2 (Rd.below h' (q.trans b2)) (q.trans b2).size (by simp only [List.nil_append]; omega) 23
  have B3 := Lib.hid ((q.trans b2).trans b3)
  have M3 := OwnN.nts o3 (by simp only [List.nil_append, List.length_append]; omega)
  rw [List.nil_append] at o3 M3
  have O3 := Lib.hid o3
  have V1 := Lib.hid (fun (X : World) (c : Below w.heap.size w X) => specRegisterValid (Rd.below h c))
  have V2 := Lib.hid (fun (X : World) (c : Below w.heap.size w X) => specRegisterValid (Rd.below h' c))
  have V3 := Lib.hid (fun (X : World) (c : Below x3.heap.size x3 X) => specRegisterValid (Rd.below M3 c))
  obtain ⟨au, cu, rfl⟩ := Rd.slice h
  obtain ⟨av, cv, rfl⟩ := Rd.slice h'
  obtain ⟨a3, c3, rfl⟩ := Ow.slice o3
  rw [List.length_append] at hr3 O3 V3
  clear h h' hl q o1 o2 o3 b2 b3 M3
  have FIN := Lib.hid (fun (X : World) (c : Below w.heap.size w X) => show MadeNtsB w [] false (.returned (.tuple #[.slice (some ⟨X.heap.size, 0, none⟩) 0 0, .bool false])) (X.alloc (.cells #[] 29)) from ⟨_, rfl, Ow.mono (ow_empty X 29 2 (mvF [])) c.size, c.alloc c.size _⟩)
  have JN := Lib.hid (fun (g : regB (ms ++ ns) = false) => show joinV ms ns = [] ∧ joinB ms ns = false from ⟨by unfold joinV; exact regL_no g, g⟩)
  have JY := Lib.hid (fun (g : regB (ms ++ ns) = true) => show joinV ms ns = ms ++ ns ∧ joinB ms ns = true from ⟨by unfold joinV; exact regL_yes g, g⟩)
  cases e1 : regB ms
  · rw [e1] at V1
    have J := Lib.hid (JN.out (join_no1 e1))
    clear e1 JN JY V2 V3 O3
    go_enter Try.func40, Try.ntmps40
    rw [J.out.1, J.out.2]
    go_wp2_with (first
      | (at_builtin; refine Lib.wpList_append_run _ rfl _ _ _ _ rfl _ _ rfl rfl _ _ hr2 ?_)
      | (at_builtin; refine Lib.wpList_append_run _ rfl _ _ _ _ rfl _ _ rfl rfl _ _ hr3 ?_)
      | (go_at_call 62; refine (V1.out _ B3.out).mono ?_; rintro e w1 ⟨rfl, b1⟩; have B4 := Lib.hid (B3.out.trans (b1.mono B3.out.size)); clear b1))
    go_ret2
    exact FIN.out _ B4.out
  rw [e1] at V1
  cases e2 : regB ns
  · rw [e2] at V2
    have J := Lib.hid (JN.out (join_no2 e2))
    clear e1 e2 JN JY V3 O3
    go_enter Try.func40, Try.ntmps40
    rw [J.out.1, J.out.2]
    go_wp2_with (first
      | (at_builtin; refine Lib.wpList_append_run _ rfl _ _ _ _ rfl _ _ rfl rfl _ _ hr2 ?_)
      | (at_builtin; refine Lib.wpList_append_run _ rfl _ _ _ _ rfl _ _ rfl rfl _ _ hr3 ?_)
      | (go_at_call 62; refine (V1.out _ B3.out).mono ?_; rintro e w1 ⟨rfl, b1⟩; have B4 := Lib.hid (B3.out.trans (b1.mono B3.out.size)); clear b1 V1)
      | (go_at_call 62; refine (V2.out _ B4.out).mono ?_; rintro e w2 ⟨rfl, b2⟩; have B5 := Lib.hid (B4.out.trans (b2.mono B4.out.size)); clear b2 V2))
    go_ret2
    exact FIN.out _ B5.out
  rw [e2] at V2
  cases e3 : regB (ms ++ ns)
  · rw [e3] at V3
    have J := Lib.hid (JN.out e3)
    clear e1 e2 e3 JN JY O3
    go_enter Try.func40, Try.ntmps40
    rw [J.out.1, J.out.2]
    go_wp2_with (first
      | (at_builtin; refine Lib.wpList_append_run _ rfl _ _ _ _ rfl _ _ rfl rfl _ _ hr2 ?_)
      | (at_builtin; refine Lib.wpList_append_run _ rfl _ _ _ _ rfl _ _ rfl rfl _ _ hr3 ?_)
      | (go_at_call 62; refine (V1.out _ B3.out).mono ?_; rintro e w1 ⟨rfl, b1⟩; have C4 := Lib.hid b1; have B4 := Lib.hid (B3.out.trans (b1.mono B3.out.size)); clear b1 V1)
      | (go_at_call 62; refine (V2.out _ B4.out).mono ?_; rintro e w2 ⟨rfl, b2⟩; have C5 := Lib.hid (chain C4.out b2); have B5 := Lib.hid (B4.out.trans (b2.mono B4.out.size)); clear b2 V2)
      | (go_at_call 62; refine (V3.out _ C5.out).mono ?_; rintro e w3 ⟨rfl, b3⟩; have B6 := Lib.hid (B5.out.trans (b3.mono B5.out.size)); clear b3 V3))
    go_ret2
    exact FIN.out _ B6.out
  · rw [e3] at V3
    have J := Lib.hid (JY.out e3)
    clear e1 e2 e3 JN JY FIN
    go_enter Try.func40, Try.ntmps40
    rw [J.out.1, J.out.2]
    go_wp2_with (first
      | (at_builtin; refine Lib.wpList_append_run _ rfl _ _ _ _ rfl _ _ rfl rfl _ _ hr2 ?_)
      | (at_builtin; refine Lib.wpList_append_run _ rfl _ _ _ _ rfl _ _ rfl rfl _ _ hr3 ?_)
      | (go_at_call 62; refine (V1.out _ B3.out).mono ?_; rintro e w1 ⟨rfl, b1⟩; have C4 := Lib.hid b1; have B4 := Lib.hid (B3.out.trans (b1.mono B3.out.size)); clear b1 V1)
      | (go_at_call 62; refine (V2.out _ B4.out).mono ?_; rintro e w2 ⟨rfl, b2⟩; have C5 := Lib.hid (chain C4.out b2); have B5 := Lib.hid (B4.out.trans (b2.mono B4.out.size)); clear b2 V2)
      | (go_at_call 62; refine (V3.out _ C5.out).mono ?_; rintro e w3 ⟨rfl, b3⟩; have C6 := Lib.hid (chain C5.out b3); have B6 := Lib.hid (B5.out.trans (b3.mono B5.out.size)); clear b3 V3))
    go_ret2
    exact ⟨.slice a3 (ms.length + ns.length) c3, rfl, O3.out.below C6.out, B6.out⟩

end Go.Proofs.Ytphadofigcipcaa
