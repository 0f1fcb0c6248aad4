/-
  For every input the law 'FnLineStep' returns true, and each of its arguments reads behind the call as it read before. Conditions: none beyond those of the row.
-/
import Derived.Test.YtpofkfcjnhoamaaRows
import Derived.WalkKit
import Derived.ProofKit
import Derived.OpenShut
import Derived.ShutString
import Derived.ChangeOld
import Derived.Below
import Derived.Deep.Matrix
import Derived.Test.YtpofkfcjnhoamaaIo
import Derived.Test.YtpofkfcjnhoamaaDrawLM
import Derived.Test.YtpofkfcjnhoamaaLineS
import Derived.Test.YtpofkfcjnhoamaaStepL
import Derived.Lib.QuietBelow
import Derived.BigQuiet
namespace Go.Proofs.Ytpofkfcjnhoamaa
open Go.RowKit

theorem take_succ_getD (xs : List Int) (k : Nat) (h : k < xs.length) : xs.take (k + 1) = xs.take k ++ [xs.getD k 0] := by
  rw [List.take_succ_eq_append_getElem h]
  simp [h]

/-- Do the lists agree on their first k numbers? -/
def AgreeTo (xs ys : List Int) (k : Nat) : Prop := xs.take k = ys.take k

theorem AgreeTo.succ {xs ys : List Int} {k : Nat} (h : AgreeTo xs ys k) (hx : k < xs.length) (hy : k < ys.length) (e : xs.getD k 0 = ys.getD k 0) : AgreeTo xs ys (k + 1) := by
  unfold AgreeTo at *
  rw [take_succ_getD xs k hx, take_succ_getD ys k hy, h, e]

theorem differ {xs ys : List Int} {k : Nat} (_hx : k < xs.length) (_hy : k < ys.length) (e : xs.getD k 0 ≠ ys.getD k 0) : decide (xs = ys) = false := by
  simp only [decide_eq_false_iff_not]
  rintro rfl
  exact e rfl

set_option maxHeartbeats 400000 in
theorem sameInts {w : World} {u v : Value} {xs ys : List Int} (h : Ints w u xs) (h' : Ints w v ys) :
    Calls Try.prog 51 #[u, v] w fun e w' => e = .returned (.bool (decide (xs = ys))) ∧ Below w.heap.size w w' := by
  obtain ⟨a, cap, rfl, hl, hc⟩ := h
  obtain ⟨a', cap', rfl, hl2, hc'⟩ := h'
  have hl' : (xs.length : Int) ≤ 1048576 := by omega
  by_cases hlen : xs.length = ys.length
  · rcases hc with rfl | ⟨b, o, rfl, hb, hcell⟩
    · have hy : ys = [] := by cases ys <;> simp_all
      subst hy
      go_enter Try.func51, Try.ntmps51
      go_wp2_with fail
      refine wp_loop_rounds 1 ?_
      rw [rounds_succ]
      go_wp2_with fail
      go_ret
      exact ⟨rfl, Below.refl _ _⟩
    · rcases hc' with rfl | ⟨b', o', rfl, hb', hcell'⟩
      · have hx : xs = [] := by cases xs <;> simp_all
        subst hx
        go_enter Try.func51, Try.ntmps51
        go_wp2_with fail
        refine wp_loop_rounds 1 ?_
        rw [rounds_succ]
        go_wp2_with fail
        go_ret
        exact ⟨rfl, Below.refl _ _⟩
      · rw [← hlen] at hcell' ⊢
        have HL := Lib.hid hlen
        have HC := Lib.hid hcell
        have HC' := Lib.hid hcell'
        clear hlen hcell hcell' hl2
        go_enter Try.func51, Try.ntmps51
        go_wp2_with fail
        go_loopw [5] (fun i wr => ∃ k : Nat, k ≤ xs.length ∧ i = .int .i64 k ∧ AgreeTo xs ys k ∧ Below w.heap.size w wr) (fun i _ => xs.length - (intOf i).toNat)
        case atStart => exact ⟨0, by omega, rfl, rfl, Below.refl _ _⟩
        case round =>
          obtain ⟨k, hk, rfl, hag, hbel⟩ := hrel
          by_cases hlt : k < xs.length
          · obtain ⟨x, hx⟩ : ∃ x, x = xs.getD k 0 := ⟨_, rfl⟩
            obtain ⟨y, hy⟩ : ∃ y, y = ys.getD k 0 := ⟨_, rfl⟩
            have hc1 : wr.cell? ⟨b, o + k, none⟩ = some (.int .i64 x) := by rw [hx]; exact (hbel.cell (p := ⟨b, o + k, none⟩) hb).trans (HC.out k hlt)
            have hc2 : wr.cell? ⟨b', o' + k, none⟩ = some (.int .i64 y) := by rw [hy]; exact (hbel.cell (p := ⟨b', o' + k, none⟩) hb').trans (HC'.out k hlt)
            have hi : (k : Int) < (xs.length : Int) := by omega
            have HX := Lib.hid hx
            have HY := Lib.hid hy
            clear hx hy
            by_cases e : x = y
            · subst e
              go_wp2_with fail
              go_quiet (fail)
              go_wp2_with fail
              go_roundw
              case rel => exact ⟨k + 1, by omega, by go_num, hag.succ hlt (by rw [← HL.out]; exact hlt) (HX.out.symm.trans HY.out), below_drewN hbel _⟩
              case measure => simp [intOf]; omega
            · have en : (x != y) = true := by simpa using e
              have HN := Lib.hid (differ hlt (by rw [← HL.out]; exact hlt) (by rw [← HX.out, ← HY.out]; exact e))
              clear e
              go_wp2_with fail
              go_quiet (fail)
              go_wp2_with fail
              go_ret
              exact ⟨ret_bool HN.out.symm, below_drewN hbel _⟩
          · obtain rfl : k = xs.length := by omega
            have HE := Lib.hid (show decide (xs = ys) = true by
              unfold AgreeTo at hag
              rw [List.take_length, HL.out, List.take_length] at hag
              simp [hag])
            clear hag
            go_wp2_with fail
            go_ret
            exact ⟨ret_bool HE.out.symm, hbel⟩
  · have en : ((xs.length : Int) != (ys.length : Int)) = true := by simp; omega
    have HN := Lib.hid (show decide (xs = ys) = false by simp only [decide_eq_false_iff_not]; rintro rfl; exact hlen rfl)
    clear hlen
    go_enter Try.func51, Try.ntmps51
    go_wp2_with fail
    go_ret
    exact ⟨ret_bool HN.out.symm, Below.refl _ _⟩

set_option maxHeartbeats 1000000 in
theorem sameLine {w : World} {u v : Value} {l : Ln} (h : LineV w u l) (h' : LineV w v l) :
    Calls Try.prog 19 #[u, v] w fun e w' => e = .returned (.bool true) ∧ Below w.heap.size w w' := by
  obtain ⟨u1, u2, rfl, i1, i2⟩ := h
  obtain ⟨v1, v2, rfl, j1, j2⟩ := h'
  have k1 : (l.1.length : Int) ≤ 1048576 := by have := Rd.len i1; omega
  obtain ⟨a1, c1, rfl⟩ := Rd.slice i1
  obtain ⟨a2, c2, rfl⟩ := Rd.slice j1
  have ea := below_alloc w (.cells #[.slice a1 l.1.length c1, u2] 26)
  have pa := Pair.new w (.slice a1 l.1.length c1) u2 26
  obtain ⟨Wa, hWa⟩ : ∃ W, W = w.alloc (.cells #[.slice a1 l.1.length c1, u2] 26) := ⟨_, rfl⟩
  have sa : Wa.heap.size = w.heap.size + 1 := by rw [hWa]; exact Go.Deep.nblk_alloc _ _
  rw [← hWa] at ea pa
  have eb := below_alloc Wa (.cells #[.slice a2 l.1.length c2, v2] 26)
  have pb := Pair.new Wa (.slice a2 l.1.length c2) v2 26
  obtain ⟨W, hW⟩ : ∃ W, W = Wa.alloc (.cells #[.slice a2 l.1.length c2, v2] 26) := ⟨_, rfl⟩
  rw [← hW] at eb pb
  rw [sa] at pb
  have E := Lib.hid (ea.trans (eb.mono ea.size))
  have PA := Lib.hid (pa.below eb)
  have PB := Lib.hid pb
  have HW := Lib.hid (show (w.alloc (.cells #[.slice a1 l.1.length c1, u2] 26)).alloc (.cells #[.slice a2 l.1.length c2, v2] 26) = W by rw [hW, hWa])
  have J1 := Lib.hid (fun (X : World) (c : Below W.heap.size W X) => And.intro ((Rd.below (Rd.below i1 E.out) c)) ((Rd.below (Rd.below j1 E.out) c)))
  have J2 := Lib.hid (And.intro (i2.below E.out) (j2.below E.out))
  clear ea eb pa pb sa hW hWa i1 i2 j1 j2
  go_enter Try.func19, Try.ntmps19
  go_upto_region 1 with fail
  rw [HW.out]
  have x0 := PA.out.cell0
  have x1 := PA.out.cell1
  have y0 := PB.out.cell0
  have y1 := PB.out.cell1
  have hss := sameInts J2.out.1 J2.out.2
  rw [show decide (l.2 = l.2) = true by simp] at hss
  go_wp2_with (go_at_call 51; refine hss.mono ?_)
  rintro e w1 ⟨rfl, b1⟩
  have PA := Lib.hid (PA.out.below b1)
  have PB := Lib.hid (PB.out.below b1)
  have E := Lib.hid (chain E.out b1)
  have J3 := Lib.hid (fun (X : World) (c : Below w1.heap.size w1 X) => J1.out X (chain b1 c))
  clear x0 x1 y0 y1 hss b1 J2 J1
  go_wp2_with fail
  go_loopw [5] (fun i wr => ∃ k : Nat, k ≤ l.1.length ∧ i = .int .i64 k ∧ Below w1.heap.size w1 wr) (fun i _ => l.1.length - (intOf i).toNat)
  case atStart => exact ⟨0, by omega, rfl, Below.refl _ _⟩
  case round =>
    obtain ⟨k, hk, rfl, hbel⟩ := hrel
    have x0 := (PA.out.below hbel).cell0
    have y0 := (PB.out.below hbel).cell0
    by_cases hlt : k < l.1.length
    · obtain ⟨jx, jy⟩ := J3.out wr hbel
      obtain ⟨b, o, rfl, hb, hcell⟩ := Blks.at jx hlt
      obtain ⟨b', o', rfl, hb', hcell'⟩ := Blks.at jy hlt
      obtain ⟨g0, g1, g2⟩ := hcell k hlt
      obtain ⟨q0, q1, q2⟩ := hcell' k hlt
      obtain ⟨x, hx⟩ : ∃ x, x = l.1.getD k nb := ⟨_, rfl⟩
      rw [← hx] at g0 g1 g2 q0 q1 q2
      have hi : (k : Int) < (l.1.length : Int) := by omega
      have en := neqBlk x x
      rw [show (!decide (x = x)) = false by simp] at en
      clear hx hcell hcell'
      go_wp2_with fail
      go_quiet (fail)
      go_wp2_with fail
      go_roundw
      case rel => exact ⟨k + 1, by omega, by go_num, below_drewN hbel _⟩
      case measure => simp [intOf]; omega
    · obtain rfl : k = l.1.length := by omega
      go_wp2_with fail
      go_ret
      exact ⟨rfl, chain E.out hbel⟩

/-- By how much the first j trains have moved. -/
def sdTo (ts us : List Int) : Nat → Int
  | 0 => 0
  | j + 1 => sdTo ts us j + us.getD j 0 - ts.getD j 0
theorem sd_same (ts : List Int) : ∀ j, sdTo ts ts j = 0 := by
  intro j
  induction j with
  | zero => rfl
  | succ j ih => simp only [sdTo]; rw [ih]; omega
theorem sd_set {ts : List Int} {i : Nat} (hi : i < ts.length) : ∀ j, sdTo ts (ts.set i (ts.getD i 0 + 1)) j = if i < j then 1 else 0 := by
  intro j
  induction j with
  | zero => rfl
  | succ j ih =>
    simp only [sdTo]
    rw [ih, set_get hi]
    by_cases e : i = j
    · subst e
      rw [if_neg (Nat.lt_irrefl i), if_pos rfl, if_pos (Nat.lt_succ_self i)]
      omega
    · rw [if_neg e]
      by_cases q : i < j
      · rw [if_pos q, if_pos (by omega)]; omega
      · rw [if_neg q, if_neg (by omega)]; omega
theorem sd_facts {l x : Ln} {K : Nat} {S : ByteArray} (ht : (isE S = true ∧ ∃ i, fst l.2 (2 * (K : Int)) = some i ∧ x.2 = l.2.set i (2 * (K : Int) + 1)) ∨ (isE S = false ∧ isL S = true ∧ ∃ i, fst l.2 (2 * (K : Int) + 1) = some i ∧ x.2 = l.2.set i (2 * (K : Int) + 1 + 1)) ∨ (isE S = false ∧ isL S = false ∧ x.2 = l.2)) :
    ∃ due : Int, due = (if isE S || isL S then 1 else 0) ∧ (∀ k, 0 ≤ sdTo l.2 x.2 k ∧ sdTo l.2 x.2 k ≤ 1) ∧ sdTo l.2 x.2 l.2.length = due := by
  rcases ht with ⟨he, i, hi, ex⟩ | ⟨he, hl, i, hi, ex⟩ | ⟨he, hl, ex⟩
  · obtain ⟨i1, i2, -⟩ := fst_is hi
    rw [← i2] at ex
    refine ⟨1, by rw [he]; rfl, fun k => ?_, ?_⟩
    · rw [ex, sd_set i1]; split <;> omega
    · rw [ex, sd_set i1, if_pos i1]
  · obtain ⟨i1, i2, -⟩ := fst_is hi
    rw [← i2] at ex
    refine ⟨1, by rw [he, hl]; rfl, fun k => ?_, ?_⟩
    · rw [ex, sd_set i1]; split <;> omega
    · rw [ex, sd_set i1, if_pos i1]
  · refine ⟨0, by rw [he, hl]; rfl, fun k => ?_, ?_⟩
    · rw [ex, sd_same]; omega
    · rw [ex, sd_same]
theorem step_len2 (l : Ln) (m : Mv) : ((lnStep l m).getD noLn).1.length ≤ 5 ∧ ((lnStep l m).getD noLn).2.length ≤ 5 := by
  cases h : lnStep l m with
  | none => exact ⟨by simp [noLn], by simp [noLn]⟩
  | some x =>
    have h1 := lnDo_len (step_ok h).2.2
    have h2 := lnB_is (step_ok h).1
    have h3 := h2.1
    have h4 := h2.2.1
    exact ⟨by simp only [Option.getD_some]; omega, by simp only [Option.getD_some]; omega⟩

set_option maxRecDepth 100000 in
set_option maxHeartbeats 8000000 in
theorem walk_FnLineStep (a0 : Option Addr) (len0 cap0 : Nat) (z0 : List Int) (w : World) (w0 : IsRowK .u8 w a0 len0 cap0 z0) :
    Calls Try.prog 5 #[.slice a0 len0 cap0] w fun e w' => e = .returned (.bool true) ∧ Below w.heap.size w w' := by
  rcases Nat.lt_or_ge 1048576 len0 with hbig | hsm
  · have hb : (1048576 : Int) < (len0 : Int) := by omega
    go_enter Try.func5, Try.ntmps5
    go_wp2_with fail
    go_ret
    exact ⟨rfl, Below.refl _ _⟩
  have hb : (len0 : Int) ≤ 1048576 := by omega
  have DN := Lib.hid (drawLineStep w0 hsm)
  clear w0
  go_enter Try.func5, Try.ntmps5
  go_wp2_with (go_at_call 17; refine DN.out.mono ?_)
  rintro e w1 ⟨v, l, s, S, rfl, hS, o1, hl1, hl2, b1⟩
  obtain ⟨a1, n1, c1, a2, n2, c2, rfl⟩ := own_form o1
  have pl := (Pair.new w1 (.slice a1 n1 c1) (.slice a2 n2 c2) 26).alloc (.cells #[.int .i64 s, .string S] 40)
  have pm := Pair.new (w1.alloc (.cells #[.slice a1 n1 c1, .slice a2 n2 c2] 26)) (.int .i64 s) (.string S) 40
  have q2 := chain (below_alloc w1 (.cells #[.slice a1 n1 c1, .slice a2 n2 c2] 26)) (below_alloc _ (.cells #[.int .i64 s, .string S] 40))
  have hws : (w1.alloc (.cells #[.slice a1 n1 c1, .slice a2 n2 c2] 26)).heap.size = w1.heap.size + 1 := by simp
  rw [hws] at pm
  have LV := (o1.below q2).lineV (by omega) (by omega)
  obtain ⟨V, hV⟩ : ∃ X, X = (w1.alloc (.cells #[.slice a1 n1 c1, .slice a2 n2 c2] 26)).alloc (.cells #[.int .i64 s, .string S] 40) := ⟨_, rfl⟩
  rw [← hV] at q2 pl pm LV
  have HV := Lib.hid hV.symm
  have B1 := Lib.hid (chain b1 q2)
  obtain ⟨B, hB⟩ : ∃ B, B = w1.heap.size := ⟨_, rfl⟩
  rw [← hB] at pl pm
  have PL := Lib.hid (fun (X : World) (q : Below V.heap.size V X) => pl.below q)
  have PM := Lib.hid (fun (X : World) (q : Below V.heap.size V X) => pm.below q)
  obtain ⟨_, _, e, ⟨_, _, e1, -, hcB⟩, ⟨_, _, e2, -, hcT⟩⟩ := id LV
  simp only [Value.agg.injEq, Array.mk.injEq, List.cons.injEq, and_true] at e
  obtain ⟨rfl, rfl⟩ := e
  simp only [Value.slice.injEq] at e1 e2
  obtain ⟨rfl, rfl, rfl⟩ := e1
  obtain ⟨rfl, rfl, rfl⟩ := e2
  have HCB := Lib.hid hcB
  have HCT := Lib.hid hcT
  clear hcB hcT
  have V0 := Lib.hid (below_self V)
  have IS := Lib.hid (fun (X : World) (q : Below V.heap.size V X) => implLineStep (s := s) (S := S) (LV.below q) (by omega))
  have SS := Lib.hid (fun (X : World) (q : Below V.heap.size V X) => specLineStep (s := s) (S := S) (LV.below q))
  have IL := Lib.hid (fun (X : World) (q : Below V.heap.size V X) => implLineLeft (LV.below q))
  have SF := Lib.hid (fun (x : Ln) (h : lnStep l (s, S) = some x) => And.intro (left_step h) (step_ok h))
  have HLN := Lib.hid (step_len2 l (s, S))
  obtain ⟨o, ho⟩ : ∃ o, o = lnStep l (s, S) := ⟨_, rfl⟩
  have IS := IS.out
  have SS := SS.out
  simp only [← ho] at IS SS
  rw [← ho] at HLN SF
  have IS := Lib.hid IS
  have SS := Lib.hid SS
  have HO := Lib.hid ho
  have x0 := pl.cell0
  have x1 := pl.cell1
  have m0 := pm.cell0
  have m1 := pm.cell1
  have L1 := Lib.hid (show (o.getD noLn).1.length ≤ 1048576 by have := HLN.out.1; omega)
  have L2 := Lib.hid (show (o.getD noLn).2.length ≤ 1048576 by have := HLN.out.2; omega)
  clear hV q2 o1 b1 LV pl pm ho DN hws
  go_upto_region 4 with fail
  rw [HV.out, ← hB]
  clear hB HV
  go_upto_region 5 with (go_at_call 16; refine (IS.out _ V0.out).mono ?_; rintro e w4 ⟨vo, rfl, oo, b4⟩; obtain ⟨a3, n3, c3, a4, n4, c4, rfl⟩ := own_form oo)
  have q5 := below_alloc w4 (.cells #[.slice a3 n3 c3, .slice a4 n4 c4] 26)
  have po := Pair.new w4 (.slice a3 n3 c3) (.slice a4 n4 c4) 26
  have LO := (oo.below q5).lineV L1.out L2.out
  obtain ⟨Y, hY⟩ : ∃ X, X = w4.alloc (.cells #[.slice a3 n3 c3, .slice a4 n4 c4] 26) := ⟨_, rfl⟩
  rw [← hY] at q5 po LO
  have HY := Lib.hid hY.symm
  have B5 := Lib.hid (b4.trans (q5.mono b4.size))
  obtain ⟨C, hC⟩ : ∃ C, C = w4.heap.size := ⟨_, rfl⟩
  rw [← hC] at po
  have PO := Lib.hid (fun (X : World) (q : Below Y.heap.size Y X) => po.below q)
  have LO := Lib.hid (fun (X : World) (q : Below Y.heap.size Y X) => LO.below q)
  have Y0 := Lib.hid (below_self Y)
  clear x0 x1 m0 m1 hY q5 po oo b4
  have pl := PL.out _ B5.out
  have pm := PM.out _ B5.out
  have x0 := pl.cell0
  have x1 := pl.cell1
  have m0 := pm.cell0
  have m1 := pm.cell1
  rw [HY.out, ← hC]
  clear pl pm hC HY
  go_upto_region 6 with (go_at_call 18; refine (SS.out _ B5.out).mono ?_; rintro e w6 ⟨vw, rfl, ow, b6⟩; obtain ⟨a5, n5, c5, a6, n6, c6, rfl⟩ := own_form ow)
  have q7 := below_alloc w6 (.cells #[.slice a5 n5 c5, .slice a6 n6 c6] 26)
  have pw := Pair.new w6 (.slice a5 n5 c5) (.slice a6 n6 c6) 26
  have LW := (ow.below q7).lineV L1.out L2.out
  obtain ⟨Z, hZ⟩ : ∃ X, X = w6.alloc (.cells #[.slice a5 n5 c5, .slice a6 n6 c6] 26) := ⟨_, rfl⟩
  rw [← hZ] at q7 pw LW
  have HZ := Lib.hid hZ.symm
  have YZ := Lib.hid (b6.trans (q7.mono b6.size))
  have BZ := Lib.hid (B5.out.trans ((b6.trans (q7.mono b6.size)).mono B5.out.size))
  obtain ⟨E, hE⟩ : ∃ C, C = w6.heap.size := ⟨_, rfl⟩
  rw [← hE] at pw
  have PW := Lib.hid (fun (X : World) (q : Below Z.heap.size Z X) => pw.below q)
  have SM := Lib.hid (fun (X : World) (q : Below Z.heap.size Z X) => sameLine (LO.out X (YZ.out.trans (q.mono YZ.out.size))) (LW.below q))
  have Z0 := Lib.hid (below_self Z)
  clear x0 x1 m0 m1 hZ q7 ow b6 LW
  have po := PO.out _ YZ.out
  have y0 := po.cell0
  have y1 := po.cell1
  have z0 := pw.cell0
  have z1 := pw.cell1
  rw [HZ.out, ← hE]
  clear po pw hE HZ
  cases o with
  | none =>
    go_wp2_with (go_at_call 19; refine (SM.out _ Z0.out).mono ?_)
    rintro e w8 ⟨rfl, b8⟩
    have B8 := Lib.hid b8
    clear y0 y1 z0 z1 b8
    have po := PO.out _ (YZ.out.trans (B8.out.mono YZ.out.size))
    have pw := PW.out _ B8.out
    have y0 := po.cell0
    have y1 := po.cell1
    have z0 := pw.cell0
    have z1 := pw.cell1
    clear po pw
    go_wp2_with (go_at_call 19; refine (SM.out _ B8.out).mono ?_)
    rintro e w9 ⟨rfl, b9⟩
    go_wp2_with fail
    go_ret
    exact ⟨rfl, chain B1.out (chain BZ.out (chain B8.out b9))⟩
  | some x =>
    go_upto_region 8 with (go_at_call 19; refine (SM.out _ Z0.out).mono ?_; rintro e w8 ⟨rfl, b8⟩)
    have B8 := Lib.hid b8
    have V8 := Lib.hid (BZ.out.trans (b8.mono BZ.out.size))
    obtain ⟨lft, hl, hx, hd⟩ := SF.out x rfl
    have LFT := Lib.hid lft
    clear lft
    obtain ⟨K, hm, hK, b, hbo, ex1, ht⟩ := lnDo_is hd
    have hm : s = (K : Int) := hm
    subst hm
    have hlen := lnDo_len hd
    rcases HCB.out with h0 | ⟨gb, ob, rfl, hgb, hcb⟩
    · omega
    have k0 := hcb (K * 3) (by omega)
    have k1 := hcb (K * 3 + 1) (by omega)
    have k2 := hcb (K * 3 + 2) (by omega)
    rw [bkF0] at k0
    rw [bkF1, ← Nat.add_assoc] at k1
    rw [bkF2, ← Nat.add_assoc] at k2
    have BSC := implStepE (l.1.getD K nb) S (by omega)
    have hbo' : bkOne (l.1.getD K nb) S = some b := hbo
    rw [hbo'] at BSC
    obtain ⟨bk, hbk⟩ : ∃ bk, bk = l.1.getD K nb := ⟨_, rfl⟩
    rw [← hbk] at k0 k1 k2 BSC
    obtain ⟨bn, bi, bo⟩ := bk
    obtain ⟨cn, ci, co⟩ := b
    have BSC : ∀ X : World, Calls Try.prog 20 #[.agg #[.int .i64 bn, .bool bi, .bool bo], .string S] X fun e w' => e = .returned (.tuple #[.agg #[.int .i64 cn, .bool ci, .bool co], .bool true]) ∧ Below X.heap.size X w' := BSC
    have BSC := Lib.hid BSC
    have hKi : (K : Int) < (l.1.length : Int) := by omega
    have KS := Lib.hid (fun (X : World) (q : Below w8.heap.size w8 X) => (show X.cell? ⟨B, 0, none⟩ = some (.slice (some ⟨gb, ob, none⟩) l.1.length c1) ∧ X.cell? ⟨B + 1, 0, none⟩ = some (.int .i64 (K : Int)) ∧ X.cell? ⟨B + 1, 1, none⟩ = some (.string S) ∧ X.cell? ⟨gb, ob + K * 3, none⟩ = some (.int .i64 bn) ∧ X.cell? ⟨gb, ob + K * 3 + 1, none⟩ = some (.bool bi) ∧ X.cell? ⟨gb, ob + K * 3 + 2, none⟩ = some (.bool bo) from by
      have r := V8.out.trans (q.mono V8.out.size)
      have pl := PL.out _ r
      have pm := PM.out _ r
      exact ⟨pl.cell0, pm.cell0, pm.cell1, (r.cell (p := ⟨gb, ob + K * 3, none⟩) hgb).trans k0, (r.cell (p := ⟨gb, ob + K * 3 + 1, none⟩) hgb).trans k1, (r.cell (p := ⟨gb, ob + K * 3 + 2, none⟩) hgb).trans k2⟩))
    have D0 := Lib.hid (show Below w8.heap.size w8 w8.drew from (Below.refl _ _).drew)
    have DA := Lib.hid (show Below w8.heap.size w8 (w8.alloc (.cells #[.int .i64 0, .bool false, .bool false] 33)).drew from (below_alloc _ _).drew)
    have TZ := Lib.hid (show Tri3 (w8.alloc (.cells #[.int .i64 0, .bool false, .bool false] 33)).drew w8.heap.size (.int .i64 0) (.bool false) (.bool false) 33 from Tri3.new _ _ _ _ _)
    have HBK := Lib.hid hbk
    have HT := Lib.hid ht
    have HBO := Lib.hid hbo
    have EX1 := Lib.hid ex1
    have HLEN := Lib.hid hlen
    clear k0 k1 k2 hcb hbk ht hbo hbo' ex1 hlen b8 y0 y1 z0 z1 hd hm
    go_cut [9, 10] (fun p u wx => ∃ gx : Nat, p = .pointer (some ⟨gx, 0, none⟩) ∧ u = .bool true ∧ Tri3 wx gx (.int .i64 cn) (.bool ci) (.bool co) 33 ∧ Below w8.heap.size w8 wx)
    case first =>
      go_region_held3 (fun X => X.cell? ⟨B, 0, none⟩ = some (.slice (some ⟨gb, ob, none⟩) l.1.length c1) ∧ X.cell? ⟨B + 1, 0, none⟩ = some (.int .i64 (K : Int)) ∧ X.cell? ⟨B + 1, 1, none⟩ = some (.string S) ∧ X.cell? ⟨gb, ob + K * 3, none⟩ = some (.int .i64 bn) ∧ X.cell? ⟨gb, ob + K * 3 + 1, none⟩ = some (.bool bi) ∧ X.cell? ⟨gb, ob + K * 3 + 2, none⟩ = some (.bool bo))
        ((refine KS.out _ ?_; first | with_reducible exact D0.out | with_reducible exact DA.out | with_reducible exact BA2.out | with_reducible exact bel_alloc BA2.out _ | with_reducible exact ((BA2.out.setCell (Nat.le_refl _) _).setCell (Nat.le_refl _) _).setCell (Nat.le_refl _) _ | with_reducible exact (((bel_alloc BA2.out _).setCell BA2.out.size _).setCell BA2.out.size _).setCell BA2.out.size _))
        (first
          | (go_at_call 20; refine (BSC.out _).mono ?_; rintro e wA ⟨rfl, bA⟩; first | (have z' := TZ.out.below bA; have z0 := z'.cell0; have z1 := z'.cell1; have z2 := z'.cell2; have g0 := z'.frozen 0; have g1 := z'.frozen 1; have g2 := z'.frozen 2; have BA2 := Lib.hid (DA.out.trans (bA.mono DA.out.size))) | (have z' := D0.out.trans (bA.mono D0.out.size); have BA2 := Lib.hid z'))
          | fail)
      all_goals (go_wp2_with fail; go_meet; first | with_reducible exact step_endA BA2.out _ _ _ _ | with_reducible exact step_endB bA z' _ _ _ _)
    case rest =>
    obtain ⟨gx, rfl, rfl, t9, b9⟩ := hcut
    rename World => w9
    have T9 := Lib.hid (fun (X : World) (q : Below w9.heap.size w9 X) => t9.below q)
    have V9 := Lib.hid (V8.out.trans (b9.mono V8.out.size))
    have Y9 := Lib.hid (YZ.out.trans ((B8.out.trans (b9.mono B8.out.size)).mono YZ.out.size))
    have W0 := Lib.hid (below_self w9)
    have LOx := Lib.hid (fun (X : World) (q : Below w9.heap.size w9 X) => (show LineV X (.agg #[.slice a3 n3 c3, .slice a4 n4 c4]) x from LO.out X (Y9.out.trans (q.mono Y9.out.size))))
    obtain ⟨_, _, e, ⟨_, _, e1, -, hcB2⟩, ⟨_, _, e2, -, hcT2⟩⟩ := LOx.out w9 W0.out
    simp only [Value.agg.injEq, Array.mk.injEq, List.cons.injEq, and_true] at e
    obtain ⟨rfl, rfl⟩ := e
    simp only [Value.slice.injEq] at e1 e2
    obtain ⟨rfl, rfl, rfl⟩ := e1
    obtain ⟨rfl, rfl, rfl⟩ := e2
    have HCB2 := Lib.hid hcB2
    have HCT2 := Lib.hid hcT2
    obtain ⟨due, hdue, hdr, hsd⟩ : ∃ due : Int, due = (if isE S || isL S then 1 else 0) ∧ (∀ k, 0 ≤ sdTo l.2 x.2 k ∧ sdTo l.2 x.2 k ≤ 1) ∧ sdTo l.2 x.2 l.2.length = due := sd_facts HT.out
    have PLB := Lib.hid (lnB_is hl)
    have PXB := Lib.hid (lnB_is hx)
    have HSD := Lib.hid hsd
    have HDR := Lib.hid hdr
    have HDUE := Lib.hid hdue
    have hxl : x.2.length = l.2.length := HLEN.out.2
    have HXL := Lib.hid hxl
    have hl5 : (l.2.length : Int) ≤ 6 := by omega
    clear t9 b9 hcB2 hcT2 hsd hdr hdue hxl
    go_wp2_with fail
    go_loopw [11, 12] (fun m i wr => ∃ k : Nat, k ≤ l.2.length ∧ i = .int .i64 k ∧ m = .int .i64 (sdTo l.2 x.2 k) ∧ Hid (Below w9.heap.size w9 wr)) (fun _ i _ => l.2.length - (intOf i).toNat)
    case atStart => exact ⟨0, Nat.zero_le _, rfl, rfl, W0⟩
    case round =>
      obtain ⟨k, hk, rfl, rfl, BR⟩ := hrel
      have pl := PL.out _ (V9.out.trans (BR.out.mono V9.out.size))
      have po := PO.out _ (Y9.out.trans (BR.out.mono Y9.out.size))
      by_cases hlt : k < l.2.length
      · have hki : (k : Int) < (l.2.length : Int) := by omega
        have hkx : (k : Int) < (x.2.length : Int) := by have := HXL.out; omega
        rcases HCT.out with h0 | ⟨gt, ot, rfl, hgt, hct⟩
        · rw [h0] at hlt; simp at hlt
        rcases HCT2.out with h0 | ⟨gu, ou, rfl, hgu, hcu⟩
        · have := HXL.out; rw [h0] at this; simp at this; omega
        have c0 := ((V9.out.trans (BR.out.mono V9.out.size)).cell (p := ⟨gt, ot + k, none⟩) hgt).trans (hct k hlt)
        have c1 := (BR.out.cell (p := ⟨gu, ou + k, none⟩) hgu).trans (hcu k (by have := HXL.out; omega))
        have r0 := (PLB.out.2.2.1 k hlt)
        have r1 := (PXB.out.2.2.1 k (by have := HXL.out; omega))
        have n0 := PLB.out.1.2
        have n1 := PXB.out.1.2
        have m0 := HDR.out k
        have m1 := HDR.out (k + 1)
        have NX := Lib.hid (show sdTo l.2 x.2 (k + 1) = sdTo l.2 x.2 k + x.2.getD k 0 - l.2.getD k 0 from rfl)
        obtain ⟨tv, htv⟩ : ∃ t, t = l.2.getD k 0 := ⟨_, rfl⟩
        obtain ⟨uv, huv⟩ : ∃ t, t = x.2.getD k 0 := ⟨_, rfl⟩
        obtain ⟨mv, hmv⟩ : ∃ t, t = sdTo l.2 x.2 k := ⟨_, rfl⟩
        rw [← htv] at c0 NX r0
        rw [← huv] at c1 NX r1
        rw [← hmv] at NX m0
        rw [← hmv]
        have E0 := fun d os => cell_regrown c0 d os
        have E1 := fun d os => cell_regrown c1 d os
        have E2 := fun d os => cell_regrown pl.cell1 d os
        have E3 := fun d os => cell_regrown po.cell1 d os
        have hw1 : IntKind.i64.wrap (mv + uv) = mv + uv := IntWalk.i64_in _ (by omega)
        have hw2 : IntKind.i64.wrap (mv + uv - tv) = mv + uv - tv := IntWalk.i64_in _ (by omega)
        have x1 := pl.cell1
        clear htv huv hmv c0 c1 r0 r1 n0 n1 m0 m1 hct hcu po pl
        go_upto_region 13 with fail
        clear x1 hlt
        refine wp_region_quiet_below (by kernel_rfl) (by kernel_rfl) ?_
        repeat (go_big_quiet_step (skip))
        refine wpQuiet_nil ?_
        intro _ hw'
        obtain ⟨⟨dq, osq⟩, hw''⟩ := hw'
        subst hw''
        have B10 := Lib.hid (BR.out.trans ((below_regrown wr dq osq).mono BR.out.size))
        clear E0 E1 E2 E3
        go_wp2_with fail
        go_roundw
        case rel => exact ⟨k + 1, by omega, by go_num, by rw [NX.out], B10⟩
        case measure => simp [intOf]; omega
      · obtain rfl : k = l.2.length := by omega
        have hsd := HSD.out
        rw [hsd]
        have hdue := HDUE.out
        have hd01 : 0 ≤ due ∧ due ≤ 1 := by rw [hdue]; split <;> omega
        have pm := PM.out _ (V9.out.trans (BR.out.mono V9.out.size))
        have x1 := pl.cell1
        have m1 := pm.cell1
        clear hsd hlt pl po pm
        have e1 : (S.toList == [(101 : UInt8)]) = isE S := by rw [isE_lit]
        have e2 : (S.toList == [(108 : UInt8)]) = isL S := by rw [isL_lit]
        rcases HCB2.out with h0 | ⟨gu, ou, rfl, hgu, hcu⟩
        · have := HLEN.out.1; omega
        have hKx : (K : Int) < (x.1.length : Int) := by have := HLEN.out.1; omega
        have hKx2 : K < x.1.length := by have := HLEN.out.1; omega
        have k0 := hcu (K * 3) (by omega)
        have k1 := hcu (K * 3 + 1) (by omega)
        have k2 := hcu (K * 3 + 2) (by omega)
        have hbx : x.1.getD K nb = (cn, ci, co) := by rw [EX1.out, setB_get hK, if_pos rfl]
        rw [bkF0, hbx] at k0
        rw [bkF1, hbx, ← Nat.add_assoc] at k1
        rw [bkF2, hbx, ← Nat.add_assoc] at k2
        have KT := Lib.hid (fun (X : World) (q : Below wr.heap.size wr X) => (show X.cell? ⟨C, 0, none⟩ = some (.slice (some ⟨gu, ou, none⟩) x.1.length c3) ∧ X.cell? ⟨C, 1, none⟩ = some (.slice a4 x.2.length c4) ∧ X.cell? ⟨B, 0, none⟩ = some (.slice (some ⟨gb, ob, none⟩) l.1.length c1) ∧ X.cell? ⟨B, 1, none⟩ = some (.slice a2 l.2.length c2) ∧ X.cell? ⟨B + 1, 0, none⟩ = some (.int .i64 (K : Int)) ∧ X.cell? ⟨gu, ou + K * 3, none⟩ = some (.int .i64 cn) ∧ X.cell? ⟨gu, ou + K * 3 + 1, none⟩ = some (.bool ci) ∧ X.cell? ⟨gu, ou + K * 3 + 2, none⟩ = some (.bool co) ∧ X.cell? ⟨gx, 0, none⟩ = some (.int .i64 cn) ∧ X.cell? ⟨gx, 1, none⟩ = some (.bool ci) ∧ X.cell? ⟨gx, 2, none⟩ = some (.bool co) from by
          have r9 := BR.out.trans (q.mono BR.out.size)
          have r := V9.out.trans (r9.mono V9.out.size)
          have ry := Y9.out.trans (r9.mono Y9.out.size)
          have pl := PL.out _ r
          have pm := PM.out _ r
          have po := PO.out _ ry
          have t9 := T9.out _ r9
          exact ⟨po.cell0, po.cell1, pl.cell0, pl.cell1, pm.cell0, (r9.cell (p := ⟨gu, ou + K * 3, none⟩) hgu).trans k0, (r9.cell (p := ⟨gu, ou + K * 3 + 1, none⟩) hgu).trans k1, (r9.cell (p := ⟨gu, ou + K * 3 + 2, none⟩) hgu).trans k2, t9.cell0, t9.cell1, t9.cell2⟩))
        have IV := Lib.hid (fun (X : World) (q : Below wr.heap.size wr X) => (show Calls Try.prog 10 #[.agg #[.slice (some ⟨gu, ou, none⟩) x.1.length c3, .slice a4 x.2.length c4]] X fun e w' => e = .returned (.bool true) ∧ Below X.heap.size X w' from by
          have r := implLineValid (LOx.out X (BR.out.trans (q.mono BR.out.size)))
          rw [hx] at r
          exact r))
        have IX := Lib.hid (fun (X : World) (q : Below wr.heap.size wr X) => implLineLeft (LOx.out X (BR.out.trans (q.mono BR.out.size))))
        have IL2 := Lib.hid (fun (X : World) (q : Below wr.heap.size wr X) => IL.out X (V9.out.trans ((BR.out.trans (q.mono BR.out.size)).mono V9.out.size)))
        obtain ⟨f1, f2, f3, f4, f5⟩ := LFT.out
        obtain ⟨lx, hlx⟩ : ∃ y, y = leftV x := ⟨_, rfl⟩
        obtain ⟨ll, hll⟩ : ∃ y, y = leftV l := ⟨_, rfl⟩
        have IX := IX.out
        have IL2 := IL2.out
        simp only [← hlx] at IX
        simp only [← hll] at IL2
        have IX := Lib.hid IX
        have IL2 := Lib.hid IL2
        rw [← hll] at f1 f2 f3
        rw [← hlx] at f1 f4 f5
        have hw1 : IntKind.i64.wrap (ll - 1) = ll - 1 := IntWalk.i64_in _ (by omega)
        have tf : decide (ll - 1 ≤ lx) = true := decide_eq_true f1
        have EQ : ∀ X : World, (binOp .eql 33 (.agg #[.int .i64 cn, .bool ci, .bool co]) (.agg #[.int .i64 cn, .bool ci, .bool co])).run Try.prog X = .ok (.bool true) X := fun X => by
          have r := eqBlk (cn, ci, co) (cn, ci, co) X
          rw [decide_eq_true rfl] at r
          exact r
        have te : (due == due) = true := beq_self_eq_true due
        have D0 := Lib.hid (show Below wr.heap.size wr wr.drew from (Below.refl _ _).drew)
        obtain ⟨pe, hpe⟩ : ∃ b, b = isE S := ⟨_, rfl⟩
        obtain ⟨pn, hpn⟩ : ∃ b, b = isL S := ⟨_, rfl⟩
        rw [← hpe] at e1 hdue
        rw [← hpn] at e2 hdue
        have hdd : (pe || pn) = true → due = 1 := fun q => by rw [hdue, if_pos q]
        have hdn : (pe || pn) = false → due = 0 := fun q => by rw [hdue, q]; rfl
        clear hpe hpn hdue k0 k1 k2 hbx hcu hlx hll hKx2 hd01
        have FIN : (pe || pn) = (pe || pn) := rfl
        cases pe with
        | true =>
          obtain rfl := hdd rfl
          clear hdd hdn FIN
          go_upto_region 17 with fail
          go_region_held3 (fun X => X.cell? ⟨C, 0, none⟩ = some (.slice (some ⟨gu, ou, none⟩) x.1.length c3) ∧ X.cell? ⟨C, 1, none⟩ = some (.slice a4 x.2.length c4) ∧ X.cell? ⟨B, 0, none⟩ = some (.slice (some ⟨gb, ob, none⟩) l.1.length c1) ∧ X.cell? ⟨B, 1, none⟩ = some (.slice a2 l.2.length c2) ∧ X.cell? ⟨B + 1, 0, none⟩ = some (.int .i64 (K : Int)) ∧ X.cell? ⟨gu, ou + K * 3, none⟩ = some (.int .i64 cn) ∧ X.cell? ⟨gu, ou + K * 3 + 1, none⟩ = some (.bool ci) ∧ X.cell? ⟨gu, ou + K * 3 + 2, none⟩ = some (.bool co) ∧ X.cell? ⟨gx, 0, none⟩ = some (.int .i64 cn) ∧ X.cell? ⟨gx, 1, none⟩ = some (.bool ci) ∧ X.cell? ⟨gx, 2, none⟩ = some (.bool co))
            ((refine KT.out _ ?_; first | with_reducible exact D0.out | with_reducible exact BV.out | with_reducible exact BXL.out | with_reducible exact BLL.out | with_reducible exact BXL2.out | with_reducible exact BLL2.out))
            (first
              | (go_at_call 10; refine (IV.out _ D0.out).mono ?_; rintro e wA ⟨rfl, bA⟩; have BV := Lib.hid (D0.out.trans (bA.mono D0.out.size)))
              | (go_at_call_of 21 (Value.agg #[.slice (some ⟨gu, ou, none⟩) x.1.length c3, .slice a4 x.2.length c4]); first | (have Q := BLL; refine (IX.out _ BLL.out).mono ?_; rintro e wB ⟨rfl, bB⟩; have BXL2 := Lib.hid (BLL.out.trans (bB.mono BLL.out.size))) | (refine (IX.out _ BV.out).mono ?_; rintro e wB ⟨rfl, bB⟩; have BXL := Lib.hid (BV.out.trans (bB.mono BV.out.size))))
              | (go_at_call_of 21 (Value.agg #[.slice (some ⟨gb, ob, none⟩) l.1.length c1, .slice a2 l.2.length c2]); first | (have Q := BXL; refine (IL2.out _ BXL.out).mono ?_; rintro e wB ⟨rfl, bB⟩; have BLL2 := Lib.hid (BXL.out.trans (bB.mono BXL.out.size))) | (refine (IL2.out _ BV.out).mono ?_; rintro e wB ⟨rfl, bB⟩; have BLL := Lib.hid (BV.out.trans (bB.mono BV.out.size))))
              | fail)
          all_goals (go_wp2_with fail; go_ret; first | exact ⟨rfl, chain B1.out (V9.out.trans ((BR.out.trans (BXL2.out.mono BR.out.size)).mono V9.out.size))⟩ | exact ⟨rfl, chain B1.out (V9.out.trans ((BR.out.trans (BLL2.out.mono BR.out.size)).mono V9.out.size))⟩)
        | false =>
          cases pn with
          | true =>
            obtain rfl := hdd rfl
            clear hdd hdn FIN
            go_upto_region 17 with fail
            go_region_held3 (fun X => X.cell? ⟨C, 0, none⟩ = some (.slice (some ⟨gu, ou, none⟩) x.1.length c3) ∧ X.cell? ⟨C, 1, none⟩ = some (.slice a4 x.2.length c4) ∧ X.cell? ⟨B, 0, none⟩ = some (.slice (some ⟨gb, ob, none⟩) l.1.length c1) ∧ X.cell? ⟨B, 1, none⟩ = some (.slice a2 l.2.length c2) ∧ X.cell? ⟨B + 1, 0, none⟩ = some (.int .i64 (K : Int)) ∧ X.cell? ⟨gu, ou + K * 3, none⟩ = some (.int .i64 cn) ∧ X.cell? ⟨gu, ou + K * 3 + 1, none⟩ = some (.bool ci) ∧ X.cell? ⟨gu, ou + K * 3 + 2, none⟩ = some (.bool co) ∧ X.cell? ⟨gx, 0, none⟩ = some (.int .i64 cn) ∧ X.cell? ⟨gx, 1, none⟩ = some (.bool ci) ∧ X.cell? ⟨gx, 2, none⟩ = some (.bool co))
              ((refine KT.out _ ?_; first | with_reducible exact D0.out | with_reducible exact BV.out | with_reducible exact BXL.out | with_reducible exact BLL.out | with_reducible exact BXL2.out | with_reducible exact BLL2.out))
              (first
                | (go_at_call 10; refine (IV.out _ D0.out).mono ?_; rintro e wA ⟨rfl, bA⟩; have BV := Lib.hid (D0.out.trans (bA.mono D0.out.size)))
                | (go_at_call_of 21 (Value.agg #[.slice (some ⟨gu, ou, none⟩) x.1.length c3, .slice a4 x.2.length c4]); first | (have Q := BLL; refine (IX.out _ BLL.out).mono ?_; rintro e wB ⟨rfl, bB⟩; have BXL2 := Lib.hid (BLL.out.trans (bB.mono BLL.out.size))) | (refine (IX.out _ BV.out).mono ?_; rintro e wB ⟨rfl, bB⟩; have BXL := Lib.hid (BV.out.trans (bB.mono BV.out.size))))
                | (go_at_call_of 21 (Value.agg #[.slice (some ⟨gb, ob, none⟩) l.1.length c1, .slice a2 l.2.length c2]); first | (have Q := BXL; refine (IL2.out _ BXL.out).mono ?_; rintro e wB ⟨rfl, bB⟩; have BLL2 := Lib.hid (BXL.out.trans (bB.mono BXL.out.size))) | (refine (IL2.out _ BV.out).mono ?_; rintro e wB ⟨rfl, bB⟩; have BLL := Lib.hid (BV.out.trans (bB.mono BV.out.size))))
                | fail)
            all_goals (go_wp2_with fail; go_ret; first | exact ⟨rfl, chain B1.out (V9.out.trans ((BR.out.trans (BXL2.out.mono BR.out.size)).mono V9.out.size))⟩ | exact ⟨rfl, chain B1.out (V9.out.trans ((BR.out.trans (BLL2.out.mono BR.out.size)).mono V9.out.size))⟩)
          | false =>
            obtain rfl := hdn rfl
            clear hdd hdn FIN
            go_upto_region 17 with fail
            go_region_held3 (fun X => X.cell? ⟨C, 0, none⟩ = some (.slice (some ⟨gu, ou, none⟩) x.1.length c3) ∧ X.cell? ⟨C, 1, none⟩ = some (.slice a4 x.2.length c4) ∧ X.cell? ⟨B, 0, none⟩ = some (.slice (some ⟨gb, ob, none⟩) l.1.length c1) ∧ X.cell? ⟨B, 1, none⟩ = some (.slice a2 l.2.length c2) ∧ X.cell? ⟨B + 1, 0, none⟩ = some (.int .i64 (K : Int)) ∧ X.cell? ⟨gu, ou + K * 3, none⟩ = some (.int .i64 cn) ∧ X.cell? ⟨gu, ou + K * 3 + 1, none⟩ = some (.bool ci) ∧ X.cell? ⟨gu, ou + K * 3 + 2, none⟩ = some (.bool co) ∧ X.cell? ⟨gx, 0, none⟩ = some (.int .i64 cn) ∧ X.cell? ⟨gx, 1, none⟩ = some (.bool ci) ∧ X.cell? ⟨gx, 2, none⟩ = some (.bool co))
              ((refine KT.out _ ?_; first | with_reducible exact D0.out | with_reducible exact BV.out | with_reducible exact BXL.out | with_reducible exact BLL.out | with_reducible exact BXL2.out | with_reducible exact BLL2.out))
              (first
                | (go_at_call 10; refine (IV.out _ D0.out).mono ?_; rintro e wA ⟨rfl, bA⟩; have BV := Lib.hid (D0.out.trans (bA.mono D0.out.size)))
                | (go_at_call_of 21 (Value.agg #[.slice (some ⟨gu, ou, none⟩) x.1.length c3, .slice a4 x.2.length c4]); first | (have Q := BLL; refine (IX.out _ BLL.out).mono ?_; rintro e wB ⟨rfl, bB⟩; have BXL2 := Lib.hid (BLL.out.trans (bB.mono BLL.out.size))) | (refine (IX.out _ BV.out).mono ?_; rintro e wB ⟨rfl, bB⟩; have BXL := Lib.hid (BV.out.trans (bB.mono BV.out.size))))
                | (go_at_call_of 21 (Value.agg #[.slice (some ⟨gb, ob, none⟩) l.1.length c1, .slice a2 l.2.length c2]); first | (have Q := BXL; refine (IL2.out _ BXL.out).mono ?_; rintro e wB ⟨rfl, bB⟩; have BLL2 := Lib.hid (BXL.out.trans (bB.mono BXL.out.size))) | (refine (IL2.out _ BV.out).mono ?_; rintro e wB ⟨rfl, bB⟩; have BLL := Lib.hid (BV.out.trans (bB.mono BV.out.size))))
                | fail)
            all_goals (go_wp2_with fail; go_ret; first | exact ⟨rfl, chain B1.out (V9.out.trans ((BR.out.trans (BXL2.out.mono BR.out.size)).mono V9.out.size))⟩ | exact ⟨rfl, chain B1.out (V9.out.trans ((BR.out.trans (BLL2.out.mono BR.out.size)).mono V9.out.size))⟩)

end Go.Proofs.Ytpofkfcjnhoamaa

namespace Go.Proofs.Ytpofkfcjnhoamaa.fnLineStep
open Go.ChangeShapes Go.WideShapes Go.ChangeAt Go.RowKit
open Go.ChangeMaps (open_string shut_string)
set_option linter.unusedVariables false

theorem own : ownKnob Try.prog.godebug = none := by kernel_rfl
theorem laidOut : laidOutB Try.prog = true := by kernel_rfl

set_option maxRecDepth 100000 in
theorem lifted (os : Os) (started : os.Started) (H : Type) (enc : TypeId × Value → H) :
    ReturnsInHanded {} Try.checked os 5 .any (Rows.fnLineStepSpec.pre6 enc Try.prog Try.f5 Rows.fnLineStepRow.domain false) (Rows.fnLineStepSpec.post enc Try.prog Try.f5 false true false false) := by
  refine returnsInHanded_of_change (C := Try.checked) own started (by kernel_rfl) Try.func5
    (ChangeSpec.witness6 (enc := enc) (C := Try.checked) false ⟨#[], #[.slice none 0 0], []⟩ 8 (by kernel_rfl) (by kernel_rfl) (by kernel_rfl) (by kernel_rfl)) ?_
  intro W base args ds gs before hval0 hW hcnd _
  have hval : ∀ (j : Nat) t v, Try.f5.params[j]? = some t → args[j]? = some v → Value.okWide Try.prog W .any base t v := hval0
  have hW' := hW
  obtain ⟨p, q, hA0, hV, rfl, hfz, hnd⟩ := hW
  have hA : DataW.TrodAll enc Try.prog W 0 (fun _ => true) true Try.f5.params.toList args.toList ds p := hA0
  rw [Try.params5] at hA hval
  obtain ⟨v0, vs0, d0, ds0, p0, q0, hargs, rfl, rfl, h0, r0⟩ := trodAll_cons hA
  obtain ⟨rfl, rfl, rfl⟩ := trodAll_nil r0
  obtain rfl : args = #[v0] := by cases args; simp_all
  obtain ⟨rfl, rfl⟩ := trodVars_none hV
  obtain ⟨a0, len0, cap0, rfl⟩ := okWide_slice Try.underlying22 (hval 0 22 v0 rfl rfl)
  have k0 := h0
  have lt0 : ∀ x ∈ p0, x.block < W.heap.size := by obtain ⟨m, hm⟩ := k0; exact DataW.trod_lt m _ _ _ hm
  obtain ⟨z0, w0⟩ : ∃ zs, IsRowK .u8 W a0 len0 cap0 zs := by
    obtain ⟨fuel, hf⟩ := h0
    rcases open_ints Try.underlying22 Try.underlying5 (by kernel_rfl) hf with ⟨hcs, _⟩ | ⟨x, l, c, zs, hcs, _, hl, hm, hz, _, hcell, hwz⟩
    · simp [Value.cells] at hcs
      obtain ⟨rfl, rfl, rfl⟩ := hcs
      exact ⟨[], .inl ⟨rfl, rfl, rfl, rfl⟩⟩
    · simp [Value.cells] at hcs
      obtain ⟨rfl, rfl, rfl⟩ := hcs
      exact ⟨zs, .inr ⟨_, rfl, hl, hm, by simpa using hz, hcell, hwz⟩⟩
  clear hA0 hval0
  refine (walk_FnLineStep a0 len0 cap0 z0 W w0).mono fun e W' ⟨he, bel⟩ => ?_
  subst he
  exact ⟨_, rfl, _, _, _, [], _, [], hW', trodAll_mk1 (shut_bool Try.underlying4 _), (trodAll_cons_mk (Below.trod laidOut (by kernel_rfl) (of_decide_eq_true (by kernel_rfl)) k0 bel lt0) trodAll_mk0), rfl, bel.frame _, fun h => by cases h⟩

theorem closed : joinedFacts Try.checked.prog 5 Try.f5 Rows.fnLineStepSpec Rows.fnLineStepRow = true := by
  unfold joinedFacts
  simp only [Bool.and_eq_true]
  repeat' (refine And.intro ?_ ?_)
  all_goals first
    | with_reducible exact may_enter
    | (rw [lifts_final]; kernel_rfl)
    | (rw [make_is]; kernel_rfl)
    | kernel_rfl

theorem over : Rows.fnLineStepRow.holds Try.pinned (OpenSpec.ofChange Rows.fnLineStepSpec) :=
  OpenClaim.holds_of_wide 5 Try.f5 rfl rfl rfl rfl rfl rfl rfl ⟨rfl, rfl, rfl, rfl, rfl⟩ rfl rfl rfl rfl rfl (by kernel_rfl) Try.func5 closed
    (of_decide_eq_true (by kernel_rfl)) (by unfold Func.isWrapper; first | (rw [if_pos (by decide +kernel)]; kernel_rfl) | (rw [if_neg (by decide +kernel)]; exact ⟨rfl, rfl⟩))
    (fun os started H enc _ => lifted os started H enc)

theorem proved : Rows.FnLineStepSaid := over
#print axioms proved
end Go.Proofs.Ytpofkfcjnhoamaa.fnLineStep
