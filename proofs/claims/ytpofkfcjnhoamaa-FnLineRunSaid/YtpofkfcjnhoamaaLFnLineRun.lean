/-
  For every input the law 'FnLineRun' returns true, and each of its arguments reads behind the call as it read before. Conditions: none beyond those of the row.
-/
import Derived.Test.YtpofkfcjnhoamaaRows
import Derived.WalkKit
import Derived.ProofKit
import Derived.OpenShut
import Derived.ShutString
import Derived.ChangeOld
import Derived.Below
import Derived.Deep.Matrix
import Derived.Test.YtpofkfcjnhoamaaIo
import Derived.Test.YtpofkfcjnhoamaaDrawLV
import Derived.Test.YtpofkfcjnhoamaaLineS
import Derived.Test.YtpofkfcjnhoamaaRunI
import Derived.Test.YtpofkfcjnhoamaaRunS
import Derived.Lib.QuietBelow
import Derived.BigQuiet
namespace Go.Proofs.Ytpofkfcjnhoamaa
open Go.RowKit

theorem take_succ_getD (xs : List Int) (k : Nat) (h : k < xs.length) : xs.take (k + 1) = xs.take k ++ [xs.getD k 0] := by
  rw [List.take_succ_eq_append_getElem h]
  simp [h]

/-- Do the lists agree on their first k numbers? -/
def AgreeTo (xs ys : List Int) (k : Nat) : Prop := xs.take k = ys.take k

theorem AgreeTo.succ {xs ys : List Int} {k : Nat} (h : AgreeTo xs ys k) (hx : k < xs.length) (hy : k < ys.length) (e : xs.getD k 0 = ys.getD k 0) : AgreeTo xs ys (k + 1) := by
  unfold AgreeTo at *
  rw [take_succ_getD xs k hx, take_succ_getD ys k hy, h, e]

theorem differ {xs ys : List Int} {k : Nat} (_hx : k < xs.length) (_hy : k < ys.length) (e : xs.getD k 0 ≠ ys.getD k 0) : decide (xs = ys) = false := by
  simp only [decide_eq_false_iff_not]
  rintro rfl
  exact e rfl

set_option maxHeartbeats 400000 in
theorem sameInts {w : World} {u v : Value} {xs ys : List Int} (h : Ints w u xs) (h' : Ints w v ys) :
    Calls Try.prog 51 #[u, v] w fun e w' => e = .returned (.bool (decide (xs = ys))) ∧ Below w.heap.size w w' := by
  obtain ⟨a, cap, rfl, hl, hc⟩ := h
  obtain ⟨a', cap', rfl, hl2, hc'⟩ := h'
  have hl' : (xs.length : Int) ≤ 1048576 := by omega
  by_cases hlen : xs.length = ys.length
  · rcases hc with rfl | ⟨b, o, rfl, hb, hcell⟩
    · have hy : ys = [] := by cases ys <;> simp_all
      subst hy
      go_enter Try.func51, Try.ntmps51
      go_wp2_with fail
      refine wp_loop_rounds 1 ?_
      rw [rounds_succ]
      go_wp2_with fail
      go_ret
      exact ⟨rfl, Below.refl _ _⟩
    · rcases hc' with rfl | ⟨b', o', rfl, hb', hcell'⟩
      · have hx : xs = [] := by cases xs <;> simp_all
        subst hx
        go_enter Try.func51, Try.ntmps51
        go_wp2_with fail
        refine wp_loop_rounds 1 ?_
        rw [rounds_succ]
        go_wp2_with fail
        go_ret
        exact ⟨rfl, Below.refl _ _⟩
      · rw [← hlen] at hcell' ⊢
        have HL := Lib.hid hlen
        have HC := Lib.hid hcell
        have HC' := Lib.hid hcell'
        clear hlen hcell hcell' hl2
        go_enter Try.func51, Try.ntmps51
        go_wp2_with fail
        go_loopw [5] (fun i wr => ∃ k : Nat, k ≤ xs.length ∧ i = .int .i64 k ∧ AgreeTo xs ys k ∧ Below w.heap.size w wr) (fun i _ => xs.length - (intOf i).toNat)
        case atStart => exact ⟨0, by omega, rfl, rfl, Below.refl _ _⟩
        case round =>
          obtain ⟨k, hk, rfl, hag, hbel⟩ := hrel
          by_cases hlt : k < xs.length
          · obtain ⟨x, hx⟩ : ∃ x, x = xs.getD k 0 := ⟨_, rfl⟩
            obtain ⟨y, hy⟩ : ∃ y, y = ys.getD k 0 := ⟨_, rfl⟩
            have hc1 : wr.cell? ⟨b, o + k, none⟩ = some (.int .i64 x) := by rw [hx]; exact (hbel.cell (p := ⟨b, o + k, none⟩) hb).trans (HC.out k hlt)
            have hc2 : wr.cell? ⟨b', o' + k, none⟩ = some (.int .i64 y) := by rw [hy]; exact (hbel.cell (p := ⟨b', o' + k, none⟩) hb').trans (HC'.out k hlt)
            have hi : (k : Int) < (xs.length : Int) := by omega
            have HX := Lib.hid hx
            have HY := Lib.hid hy
            clear hx hy
            by_cases e : x = y
            · subst e
              go_wp2_with fail
              go_quiet (fail)
              go_wp2_with fail
              go_roundw
              case rel => exact ⟨k + 1, by omega, by go_num, hag.succ hlt (by rw [← HL.out]; exact hlt) (HX.out.symm.trans HY.out), below_drewN hbel _⟩
              case measure => simp [intOf]; omega
            · have en : (x != y) = true := by simpa using e
              have HN := Lib.hid (differ hlt (by rw [← HL.out]; exact hlt) (by rw [← HX.out, ← HY.out]; exact e))
              clear e
              go_wp2_with fail
              go_quiet (fail)
              go_wp2_with fail
              go_ret
              exact ⟨ret_bool HN.out.symm, below_drewN hbel _⟩
          · obtain rfl : k = xs.length := by omega
            have HE := Lib.hid (show decide (xs = ys) = true by
              unfold AgreeTo at hag
              rw [List.take_length, HL.out, List.take_length] at hag
              simp [hag])
            clear hag
            go_wp2_with fail
            go_ret
            exact ⟨ret_bool HE.out.symm, hbel⟩
  · have en : ((xs.length : Int) != (ys.length : Int)) = true := by simp; omega
    have HN := Lib.hid (show decide (xs = ys) = false by simp only [decide_eq_false_iff_not]; rintro rfl; exact hlen rfl)
    clear hlen
    go_enter Try.func51, Try.ntmps51
    go_wp2_with fail
    go_ret
    exact ⟨ret_bool HN.out.symm, Below.refl _ _⟩

set_option maxHeartbeats 1000000 in
theorem sameLine {w : World} {u v : Value} {l : Ln} (h : LineV w u l) (h' : LineV w v l) :
    Calls Try.prog 19 #[u, v] w fun e w' => e = .returned (.bool true) ∧ Below w.heap.size w w' := by
  obtain ⟨u1, u2, rfl, i1, i2⟩ := h
  obtain ⟨v1, v2, rfl, j1, j2⟩ := h'
  have k1 : (l.1.length : Int) ≤ 1048576 := by have := Rd.len i1; omega
  obtain ⟨a1, c1, rfl⟩ := Rd.slice i1
  obtain ⟨a2, c2, rfl⟩ := Rd.slice j1
  have ea := below_alloc w (.cells #[.slice a1 l.1.length c1, u2] 26)
  have pa := Pair.new w (.slice a1 l.1.length c1) u2 26
  obtain ⟨Wa, hWa⟩ : ∃ W, W = w.alloc (.cells #[.slice a1 l.1.length c1, u2] 26) := ⟨_, rfl⟩
  have sa : Wa.heap.size = w.heap.size + 1 := by rw [hWa]; exact Go.Deep.nblk_alloc _ _
  rw [← hWa] at ea pa
  have eb := below_alloc Wa (.cells #[.slice a2 l.1.length c2, v2] 26)
  have pb := Pair.new Wa (.slice a2 l.1.length c2) v2 26
  obtain ⟨W, hW⟩ : ∃ W, W = Wa.alloc (.cells #[.slice a2 l.1.length c2, v2] 26) := ⟨_, rfl⟩
  rw [← hW] at eb pb
  rw [sa] at pb
  have E := Lib.hid (ea.trans (eb.mono ea.size))
  have PA := Lib.hid (pa.below eb)
  have PB := Lib.hid pb
  have HW := Lib.hid (show (w.alloc (.cells #[.slice a1 l.1.length c1, u2] 26)).alloc (.cells #[.slice a2 l.1.length c2, v2] 26) = W by rw [hW, hWa])
  have J1 := Lib.hid (fun (X : World) (c : Below W.heap.size W X) => And.intro ((Rd.below (Rd.below i1 E.out) c)) ((Rd.below (Rd.below j1 E.out) c)))
  have J2 := Lib.hid (And.intro (i2.below E.out) (j2.below E.out))
  clear ea eb pa pb sa hW hWa i1 i2 j1 j2
  go_enter Try.func19, Try.ntmps19
  go_upto_region 1 with fail
  rw [HW.out]
  have x0 := PA.out.cell0
  have x1 := PA.out.cell1
  have y0 := PB.out.cell0
  have y1 := PB.out.cell1
  have hss := sameInts J2.out.1 J2.out.2
  rw [show decide (l.2 = l.2) = true by simp] at hss
  go_wp2_with (go_at_call 51; refine hss.mono ?_)
  rintro e w1 ⟨rfl, b1⟩
  have PA := Lib.hid (PA.out.below b1)
  have PB := Lib.hid (PB.out.below b1)
  have E := Lib.hid (chain E.out b1)
  have J3 := Lib.hid (fun (X : World) (c : Below w1.heap.size w1 X) => J1.out X (chain b1 c))
  clear x0 x1 y0 y1 hss b1 J2 J1
  go_wp2_with fail
  go_loopw [5] (fun i wr => ∃ k : Nat, k ≤ l.1.length ∧ i = .int .i64 k ∧ Below w1.heap.size w1 wr) (fun i _ => l.1.length - (intOf i).toNat)
  case atStart => exact ⟨0, by omega, rfl, Below.refl _ _⟩
  case round =>
    obtain ⟨k, hk, rfl, hbel⟩ := hrel
    have x0 := (PA.out.below hbel).cell0
    have y0 := (PB.out.below hbel).cell0
    by_cases hlt : k < l.1.length
    · obtain ⟨jx, jy⟩ := J3.out wr hbel
      obtain ⟨b, o, rfl, hb, hcell⟩ := Blks.at jx hlt
      obtain ⟨b', o', rfl, hb', hcell'⟩ := Blks.at jy hlt
      obtain ⟨g0, g1, g2⟩ := hcell k hlt
      obtain ⟨q0, q1, q2⟩ := hcell' k hlt
      obtain ⟨x, hx⟩ : ∃ x, x = l.1.getD k nb := ⟨_, rfl⟩
      rw [← hx] at g0 g1 g2 q0 q1 q2
      have hi : (k : Int) < (l.1.length : Int) := by omega
      have en := neqBlk x x
      rw [show (!decide (x = x)) = false by simp] at en
      clear hx hcell hcell'
      go_wp2_with fail
      go_quiet (fail)
      go_wp2_with fail
      go_roundw
      case rel => exact ⟨k + 1, by omega, by go_num, below_drewN hbel _⟩
      case measure => simp [intOf]; omega
    · obtain rfl : k = l.1.length := by omega
      go_wp2_with fail
      go_ret
      exact ⟨rfl, chain E.out hbel⟩

theorem neSame (x : Blk) (w : World) : (binOp .neq 33 (.agg #[.int .i64 x.1, .bool x.2.1, .bool x.2.2]) (.agg #[.int .i64 x.1, .bool x.2.1, .bool x.2.2])).run Try.prog w = .ok (.bool false) w := by
  obtain ⟨n, i, o⟩ := x
  simp [go_sem, Try.underlying33, Try.underlying3, Try.underlying4]
theorem lineA {wr wA : World} {b0 : Nat} {v1 v2 : Value} {y : Ln} (z : Below wr.heap.size wr wA) (o : OwnLine wA b0 (.agg #[v1, v2]) y) (h1 : y.1.length ≤ 1048576) (h2 : y.2.length ≤ 1048576) :
    ∃ (gx : Nat) (u1 u2 : Value), Value.pointer (some ⟨wA.heap.size, 0, none⟩) = .pointer (some ⟨gx, 0, none⟩) ∧ Value.bool true = .bool true ∧ Pair (wA.alloc (.cells #[v1, v2] 26)) gx u1 u2 26 ∧ LineV (wA.alloc (.cells #[v1, v2] 26)) (.agg #[u1, u2]) y ∧ Below wr.heap.size wr (wA.alloc (.cells #[v1, v2] 26)) :=
  ⟨_, v1, v2, rfl, rfl, Pair.new _ _ _ _, (o.below (below_alloc _ _)).lineV h1 h2, bel_alloc z _⟩
theorem lineB {wr wA : World} {b0 : Nat} {x1 x2 v1 v2 : Value} {y : Ln} (z : Below wr.heap.size wr wA) (o : OwnLine wA b0 (.agg #[v1, v2]) y) (p : Pair wA wr.heap.size x1 x2 26) (hb : wr.heap.size < b0) (h1 : y.1.length ≤ 1048576) (h2 : y.2.length ≤ 1048576) :
    ∃ (gx : Nat) (u1 u2 : Value), Value.pointer (some ⟨wr.heap.size, 0, none⟩) = .pointer (some ⟨gx, 0, none⟩) ∧ Value.bool true = .bool true ∧ Pair ((wA.setCell ⟨wr.heap.size, 0, none⟩ v1).setCell ⟨wr.heap.size, 1, none⟩ v2) gx u1 u2 26 ∧ LineV ((wA.setCell ⟨wr.heap.size, 0, none⟩ v1).setCell ⟨wr.heap.size, 1, none⟩ v2) (.agg #[u1, u2]) y ∧ Below wr.heap.size wr ((wA.setCell ⟨wr.heap.size, 0, none⟩ v1).setCell ⟨wr.heap.size, 1, none⟩ v2) := by
  have r := line_ret (lo := b0) o p hb (Nat.le_refl _)
  exact ⟨_, v1, v2, rfl, rfl, r.1, r.2.lineV h1 h2, (z.setCell (p := ⟨wr.heap.size, 0, none⟩) (Nat.le_refl _) _).setCell (p := ⟨wr.heap.size, 1, none⟩) (Nat.le_refl _) _⟩
theorem run_len2 (l : Ln) (ms : List Mv) : ((lnRun l ms).getD noLn).1.length ≤ 5 ∧ ((lnRun l ms).getD noLn).2.length ≤ 5 := by
  cases h : lnRun l ms with
  | none => exact ⟨by simp [noLn], by simp [noLn]⟩
  | some x =>
    obtain ⟨-, hx, -⟩ := run_ok h
    have h2 := lnB_is hx
    have h3 := h2.1
    have h4 := h2.2.1
    exact ⟨by simp only [Option.getD_some]; omega, by simp only [Option.getD_some]; omega⟩
theorem run_facts {l x : Ln} {ms : List Mv} (h : lnRun l ms = some x) : (∃ y, lnRun l (ms.take (ms.length / 2)) = some y ∧ lnRun y (ms.drop (ms.length / 2)) = some x ∧ y.1.length ≤ 5 ∧ y.2.length ≤ 5) ∧ x.1.length = l.1.length ∧ lnB l = true ∧ lnB x = true ∧ ∀ K, K < l.1.length → (lnTx ms K ms.length).size ≤ 30 → bkRun (l.1.getD K nb) (lnTx ms K ms.length) = some (x.1.getD K nb) :=
  ⟨run_halves h (Nat.div_le_self _ _), (lnTo_len (run_ok h).2.2).1, (run_ok h).1, (run_ok h).2.1, fun _ hK h30 => sec_run h hK h30⟩

set_option maxRecDepth 100000 in
set_option maxHeartbeats 8000000 in
theorem walk_FnLineRun (a0 : Option Addr) (len0 cap0 : Nat) (z0 : List Int) (w : World) (w0 : IsRowK .u8 w a0 len0 cap0 z0) :
    Calls Try.prog 6 #[.slice a0 len0 cap0] w fun e w' => e = .returned (.bool true) ∧ Below w.heap.size w w' := by
  rcases Nat.lt_or_ge 1048576 len0 with hbig | hsm
  · have hb : (1048576 : Int) < (len0 : Int) := by omega
    go_enter Try.func6, Try.ntmps6
    go_wp2_with fail
    go_ret
    exact ⟨rfl, Below.refl _ _⟩
  have hb : (len0 : Int) ≤ 1048576 := by omega
  have DN := Lib.hid (drawLineRun w0 hsm)
  clear w0
  go_enter Try.func6, Try.ntmps6
  go_wp2_with (go_at_call 22; refine DN.out.mono ?_)
  rintro e w1 ⟨v, u, l, ms, rfl, om, hml, hon, o1, hl1, hl2, b1⟩
  obtain ⟨a1, n1, c1, a2, n2, c2, rfl⟩ := own_form o1
  have q2 := below_alloc w1 (.cells #[.slice a1 n1 c1, .slice a2 n2 c2] 26)
  have pl := Pair.new w1 (.slice a1 n1 c1) (.slice a2 n2 c2) 26
  have LV := (o1.below q2).lineV (by omega) (by omega)
  have MV : Mvs (w1.alloc (.cells #[.slice a1 n1 c1, .slice a2 n2 c2] 26)) u ms := Ow.rd (Ow.below om q2) (by omega)
  obtain ⟨V, hV⟩ : ∃ X, X = w1.alloc (.cells #[.slice a1 n1 c1, .slice a2 n2 c2] 26) := ⟨_, rfl⟩
  rw [← hV] at q2 pl LV MV
  have HV := Lib.hid hV.symm
  have B1 := Lib.hid (chain b1 q2)
  obtain ⟨B, hB⟩ : ∃ B, B = w1.heap.size := ⟨_, rfl⟩
  rw [← hB] at pl
  have PL := Lib.hid (fun (X : World) (q : Below V.heap.size V X) => pl.below q)
  have LVX := Lib.hid (fun (X : World) (q : Below V.heap.size V X) => LV.below q)
  have MVX := Lib.hid (fun (X : World) (q : Below V.heap.size V X) => (Rd.below MV q : Mvs X u ms))
  obtain ⟨_, _, e, ⟨_, _, e1, -, hcB⟩, ⟨_, _, e2, -, -⟩⟩ := id LV
  simp only [Value.agg.injEq, Array.mk.injEq, List.cons.injEq, and_true] at e
  obtain ⟨rfl, rfl⟩ := e
  simp only [Value.slice.injEq] at e1 e2
  obtain ⟨rfl, rfl, rfl⟩ := e1
  obtain ⟨rfl, rfl, rfl⟩ := e2
  obtain ⟨am, cm, e, ⟨-, hcm⟩, -⟩ := id MV
  subst e
  have HCB := Lib.hid hcB
  clear hcB
  have V0 := Lib.hid (below_self V)
  have hon2 : ∀ i, i < ms.length → (ms.getD i noMv).2.size ≤ 2097152 := fun i hi => by have := hon i hi; omega
  have IR := Lib.hid (fun (X : World) (q : Below V.heap.size V X) => implLineRun (LV.below q) (MVX.out X q) hon2)
  have SR := Lib.hid (fun (X : World) (q : Below V.heap.size V X) => specLineRun (LV.below q) (MVX.out X q))
  have TX := Lib.hid (fun (k : Int) (X : World) (q : Below V.heap.size V X) => implLineText k (MVX.out X q) (by rw [sumS_ones hon _ (Nat.le_refl _)]; omega))
  have HON := Lib.hid hon2
  have SF := Lib.hid (fun (x : Ln) (h : lnRun l ms = some x) => run_facts h)
  have HLN := Lib.hid (run_len2 l ms)
  have TSZ := Lib.hid (fun (k : Int) => (show (lnTx ms k ms.length).size ≤ 13 from by
    have r1 := lnTx_size ms k ms.length
    rw [sumS_ones hon _ (Nat.le_refl _)] at r1
    omega))
  obtain ⟨o, ho⟩ : ∃ o, o = lnRun l ms := ⟨_, rfl⟩
  have IR := IR.out
  have SR := SR.out
  simp only [← ho] at IR SR
  rw [← ho] at HLN SF
  have IR := Lib.hid IR
  have SR := Lib.hid SR
  have x0 := pl.cell0
  have x1 := pl.cell1
  have L1 := Lib.hid (show (o.getD noLn).1.length ≤ 1048576 by have := HLN.out.1; omega)
  have L2 := Lib.hid (show (o.getD noLn).2.length ≤ 1048576 by have := HLN.out.2; omega)
  clear hV q2 o1 b1 LV pl ho DN om MV hon hon2
  go_upto_region 4 with fail
  rw [HV.out, ← hB]
  clear hB HV
  go_upto_region 5 with (go_at_call 23; refine (IR.out _ V0.out).mono ?_; rintro e w4 ⟨vo, rfl, oo, b4⟩; obtain ⟨a3, n3, c3, a4, n4, c4, rfl⟩ := own_form oo)
  have q5 := below_alloc w4 (.cells #[.slice a3 n3 c3, .slice a4 n4 c4] 26)
  have po := Pair.new w4 (.slice a3 n3 c3) (.slice a4 n4 c4) 26
  have LO := (oo.below q5).lineV L1.out L2.out
  obtain ⟨Y, hY⟩ : ∃ X, X = w4.alloc (.cells #[.slice a3 n3 c3, .slice a4 n4 c4] 26) := ⟨_, rfl⟩
  rw [← hY] at q5 po LO
  have HY := Lib.hid hY.symm
  have B5 := Lib.hid (b4.trans (q5.mono b4.size))
  obtain ⟨C, hC⟩ : ∃ C, C = w4.heap.size := ⟨_, rfl⟩
  rw [← hC] at po
  have PO := Lib.hid (fun (X : World) (q : Below Y.heap.size Y X) => po.below q)
  have LO := Lib.hid (fun (X : World) (q : Below Y.heap.size Y X) => LO.below q)
  have Y0 := Lib.hid (below_self Y)
  clear x0 x1 hY q5 po oo b4
  have pl := PL.out _ B5.out
  have x0 := pl.cell0
  have x1 := pl.cell1
  rw [HY.out, ← hC]
  clear pl hC HY
  go_upto_region 6 with (go_at_call 24; refine (SR.out _ B5.out).mono ?_; rintro e w6 ⟨vw, rfl, ow, b6⟩; obtain ⟨a5, n5, c5, a6, n6, c6, rfl⟩ := own_form ow)
  have q7 := below_alloc w6 (.cells #[.slice a5 n5 c5, .slice a6 n6 c6] 26)
  have pw := Pair.new w6 (.slice a5 n5 c5) (.slice a6 n6 c6) 26
  have LW := (ow.below q7).lineV L1.out L2.out
  obtain ⟨Z, hZ⟩ : ∃ X, X = w6.alloc (.cells #[.slice a5 n5 c5, .slice a6 n6 c6] 26) := ⟨_, rfl⟩
  rw [← hZ] at q7 pw LW
  have HZ := Lib.hid hZ.symm
  have YZ := Lib.hid (b6.trans (q7.mono b6.size))
  have BZ := Lib.hid (B5.out.trans ((b6.trans (q7.mono b6.size)).mono B5.out.size))
  obtain ⟨E, hE⟩ : ∃ C, C = w6.heap.size := ⟨_, rfl⟩
  rw [← hE] at pw
  have PW := Lib.hid (fun (X : World) (q : Below Z.heap.size Z X) => pw.below q)
  have SM := Lib.hid (fun (X : World) (q : Below Z.heap.size Z X) => sameLine (LO.out X (YZ.out.trans (q.mono YZ.out.size))) (LW.below q))
  have Z0 := Lib.hid (below_self Z)
  clear x0 x1 hZ q7 ow b6 LW
  have po := PO.out _ YZ.out
  have y0 := po.cell0
  have y1 := po.cell1
  have z0 := pw.cell0
  have z1 := pw.cell1
  rw [HZ.out, ← hE]
  clear po pw hE HZ
  cases o with
  | none =>
    go_wp2_with (go_at_call 19; refine (SM.out _ Z0.out).mono ?_)
    rintro e w8 ⟨rfl, b8⟩
    have B8 := Lib.hid b8
    clear y0 y1 z0 z1 b8
    have po := PO.out _ (YZ.out.trans (B8.out.mono YZ.out.size))
    have pw := PW.out _ B8.out
    have y0 := po.cell0
    have y1 := po.cell1
    have z0 := pw.cell0
    have z1 := pw.cell1
    clear po pw
    go_wp2_with (go_at_call 19; refine (SM.out _ B8.out).mono ?_)
    rintro e w9 ⟨rfl, b9⟩
    go_wp2_with fail
    go_ret
    exact ⟨rfl, chain B1.out (chain BZ.out (chain B8.out b9))⟩
  | some x =>
    go_upto_region 8 with (go_at_call 19; refine (SM.out _ Z0.out).mono ?_; rintro e w8 ⟨rfl, b8⟩)
    have B8 := Lib.hid b8
    have V8 := Lib.hid (BZ.out.trans (b8.mono BZ.out.size))
    have Y8 := Lib.hid (YZ.out.trans (b8.mono YZ.out.size))
    obtain ⟨⟨y, hy1, hy2, hy3, hy4⟩, hxl, hl, hx, hsec⟩ := SF.out x rfl
    have HY := Lib.hid (And.intro hy1 (And.intro hy2 (And.intro hy3 hy4)))
    have HXL := Lib.hid hxl
    have HSEC := Lib.hid hsec
    have HLL := Lib.hid hl
    have LOx := Lib.hid (fun (X : World) (q : Below w8.heap.size w8 X) => (show LineV X (.agg #[.slice a3 n3 c3, .slice a4 n4 c4]) x from LO.out X (Y8.out.trans (q.mono Y8.out.size))))
    have W0 := Lib.hid (below_self w8)
    obtain ⟨_, _, e, ⟨_, _, e1, -, hcB2⟩, ⟨_, _, e2, -, -⟩⟩ := LOx.out w8 W0.out
    simp only [Value.agg.injEq, Array.mk.injEq, List.cons.injEq, and_true] at e
    obtain ⟨rfl, rfl⟩ := e
    simp only [Value.slice.injEq] at e1 e2
    obtain ⟨rfl, rfl, rfl⟩ := e1
    obtain ⟨rfl, rfl, rfl⟩ := e2
    have HCB2 := Lib.hid hcB2
    have hl5 : (l.1.length : Int) ≤ 5 := by omega
    clear b8 hy1 hy2 hy3 hy4 hxl hl hx hsec hcB2 y0 y1 z0 z1 SF
    go_wp2_with fail
    go_loopw [9, 10, 11, 12] (fun i _ _ _ wr => ∃ k : Nat, k ≤ l.1.length ∧ i = .int .i64 k ∧ Hid (Below w8.heap.size w8 wr)) (fun i _ _ _ _ => l.1.length - (intOf i).toNat)
    case atStart => exact ⟨0, Nat.zero_le _, rfl, W0⟩
    case round =>
      obtain ⟨k, hk, rfl, BR⟩ := hrel
      have VR := Lib.hid (V8.out.trans (BR.out.mono V8.out.size))
      have pl := PL.out _ VR.out
      have x0 := pl.cell0
      clear pl
      by_cases hlt : k < l.1.length
      · have hki : (k : Int) < (l.1.length : Int) := by omega
        have hkx : (k : Int) < (x.1.length : Int) := by have := HXL.out; omega
        have hkx2 : k < x.1.length := by have := HXL.out; omega
        have TK := TX.out (k : Int) _ VR.out
        have sz := TSZ.out (k : Int)
        have sec := HSEC.out k hlt
        rcases HCB.out with h0 | ⟨gb, ob, rfl, hgb, hcb⟩
        · omega
        rcases HCB2.out with h0 | ⟨gu, ou, rfl, hgu, hcu⟩
        · omega
        have k0 := hcb (k * 3) (by omega)
        have k1 := hcb (k * 3 + 1) (by omega)
        have k2 := hcb (k * 3 + 2) (by omega)
        rw [bkF0] at k0
        rw [bkF1, ← Nat.add_assoc] at k1
        rw [bkF2, ← Nat.add_assoc] at k2
        have r0 := hcu (k * 3) (by omega)
        have r1 := hcu (k * 3 + 1) (by omega)
        have r2 := hcu (k * 3 + 2) (by omega)
        rw [bkF0] at r0
        rw [bkF1, ← Nat.add_assoc] at r1
        rw [bkF2, ← Nat.add_assoc] at r2
        obtain ⟨T, hT⟩ : ∃ T, T = lnTx ms k ms.length := ⟨_, rfl⟩
        rw [← hT] at TK sz sec
        have BSC := implRunE (l.1.getD k nb) T (by omega)
        rw [sec (by omega)] at BSC
        obtain ⟨bk, hbk⟩ : ∃ bk, bk = l.1.getD k nb := ⟨_, rfl⟩
        obtain ⟨ck, hck⟩ : ∃ bk, bk = x.1.getD k nb := ⟨_, rfl⟩
        rw [← hbk] at k0 k1 k2 BSC
        rw [← hck] at r0 r1 r2 BSC
        obtain ⟨bn, bi, bo⟩ := bk
        obtain ⟨cn, ci, co⟩ := ck
        have BSC : ∀ X : World, Calls Try.prog 26 #[.agg #[.int .i64 bn, .bool bi, .bool bo], .string T] X fun e w' => e = .returned (.tuple #[.agg #[.int .i64 cn, .bool ci, .bool co], .bool true]) ∧ Below X.heap.size X w' := BSC
        have BSC := Lib.hid BSC
        have TK := Lib.hid TK
        have KB := Lib.hid (fun (X : World) (q : Below V.heap.size V X) => And.intro ((q.cell (p := ⟨gb, ob + k * 3, none⟩) hgb).trans k0) (And.intro ((q.cell (p := ⟨gb, ob + k * 3 + 1, none⟩) hgb).trans k1) ((q.cell (p := ⟨gb, ob + k * 3 + 2, none⟩) hgb).trans k2)))
        have KU := Lib.hid (fun (X : World) (q : Below w8.heap.size w8 X) => And.intro ((q.cell (p := ⟨gu, ou + k * 3, none⟩) hgu).trans r0) (And.intro ((q.cell (p := ⟨gu, ou + k * 3 + 1, none⟩) hgu).trans r1) ((q.cell (p := ⟨gu, ou + k * 3 + 2, none⟩) hgu).trans r2)))
        have hT13 : (T.size : Int) ≤ 13 := by omega
        clear hT sz sec hbk hck k0 k1 k2 r0 r1 r2 hcb hcu hlt hkx2
        go_upto_region 12 with (go_at_call 25; refine TK.out.mono ?_; rintro e w10 ⟨rfl, b10⟩)
        have B10 := Lib.hid (BR.out.trans (b10.mono BR.out.size))
        have V10 := Lib.hid (V8.out.trans (B10.out.mono V8.out.size))
        clear x0 b10
        have x0 := (PL.out _ V10.out).cell0
        obtain ⟨k0, k1, k2⟩ := KB.out _ V10.out
        go_upto_region 13 with (go_at_call 26; refine (BSC.out _).mono ?_; rintro e w11 ⟨rfl, b11⟩)
        have B11 := Lib.hid (B10.out.trans (b11.mono B10.out.size))
        have t12 := Tri3.new w11 (.int .i64 cn) (.bool ci) (.bool co) 33
        have q12 := below_alloc w11 (.cells #[.int .i64 cn, .bool ci, .bool co] 33)
        obtain ⟨Q, hQ⟩ : ∃ X, X = w11.alloc (.cells #[.int .i64 cn, .bool ci, .bool co] 33) := ⟨_, rfl⟩
        rw [← hQ] at t12 q12
        have HQ := Lib.hid hQ.symm
        have B12 := Lib.hid (B11.out.trans (q12.mono B11.out.size))
        obtain ⟨G, hG⟩ : ∃ G, G = w11.heap.size := ⟨_, rfl⟩
        rw [← hG] at t12
        rw [HQ.out, ← hG]
        clear hQ q12 hG HQ b11 x0 k0 k1 k2
        have po := PO.out _ (Y8.out.trans (B12.out.mono Y8.out.size))
        obtain ⟨r0, r1, r2⟩ := KU.out _ B12.out
        have E0 := fun d os => cell_regrown po.cell0 d os
        have E1 := fun d os => cell_regrown r0 d os
        have E2 := fun d os => cell_regrown r1 d os
        have E3 := fun d os => cell_regrown r2 d os
        have E4 := fun d os => cell_regrown t12.cell0 d os
        have E5 := fun d os => cell_regrown t12.cell1 d os
        have E6 := fun d os => cell_regrown t12.cell2 d os
        have NE := neSame (cn, ci, co)
        have NE : ∀ X : World, (binOp .neq 33 (.agg #[.int .i64 cn, .bool ci, .bool co]) (.agg #[.int .i64 cn, .bool ci, .bool co])).run Try.prog X = .ok (.bool false) X := NE
        have hT30 : decide ((T.size : Int) ≤ 30) = true := decide_eq_true (by omega)
        clear po r0 r1 r2 t12
        refine wp_region_quiet_below (by kernel_rfl) (by kernel_rfl) ?_
        repeat (go_big_quiet_step (skip))
        refine wpQuiet_nil ?_
        intro _ hw'
        obtain ⟨⟨dq, osq⟩, hw''⟩ := hw'
        subst hw''
        have B13 := Lib.hid (B12.out.trans ((below_regrown Q dq osq).mono B12.out.size))
        clear E0 E1 E2 E3 E4 E5 E6 NE hT30
        go_wp2_with fail
        go_roundw
        case rel => exact ⟨k + 1, by omega, by go_num, B13⟩
        case measure => simp [intOf]; omega
      · obtain rfl : k = l.1.length := by omega
        obtain ⟨hy1, hy2, hy3, hy4⟩ := HY.out
        obtain ⟨hf, hhf⟩ : ∃ h, h = ms.length / 2 := ⟨_, rfl⟩
        rw [← hhf] at hy1 hy2
        have hfl : hf ≤ ms.length := by omega
        obtain ⟨uh, slh, mh⟩ := mvs_head (a := am) (c := cm) (ms := ms) (m := hf) hfl hcm
        obtain ⟨ut, slt, mt⟩ := mvs_tail (a := am) (c := cm) (ms := ms) (m := hf) hfl hcm
        have hq1 : (ms.length : Int).tdiv 2 = (hf : Int) := by rw [Int.tdiv_eq_ediv_of_nonneg (by omega), hhf]; omega
        have hq2 : (ms.length : Int) / 2 = (hf : Int) := by rw [hhf]; omega
        have hq3 : IntKind.i64.wrap (hf : Int) = (hf : Int) := IntWalk.i64_in _ (by omega)
        have hon := HON.out
        have hxl := HXL.out
        have R15 := Lib.hid (fun (X : World) (q : Below wr.heap.size wr X) => (show Calls Try.prog 23 #[.agg #[.slice a1 l.1.length c1, .slice a2 l.2.length c2], uh] X (MadeLineB X y true) from by
          have qv := VR.out.trans (q.mono VR.out.size)
          have r := implLineRun (LVX.out X qv) (mh X (MVX.out X qv)) (fun i hi => by
            rw [List.length_take] at hi
            have e : (ms.take hf).getD i noMv = ms.getD i noMv := by simp [List.getD_eq_getElem?_getD, show i < hf by omega]
            rw [e]
            exact hon i (by omega))
          rw [hy1] at r
          exact r))
        have R16 := Lib.hid (fun (X : World) (q : Below wr.heap.size wr X) (v : Value) (c : LineV X v y) => (show Calls Try.prog 23 #[v, ut] X (MadeLineB X x true) from by
          have qv := VR.out.trans (q.mono VR.out.size)
          have r := implLineRun c (mt X (MVX.out X qv)) (fun i hi => by
            rw [List.length_drop] at hi
            have e : (ms.drop hf).getD i noMv = ms.getD (hf + i) noMv := by simp [List.getD_eq_getElem?_getD, List.getElem?_drop]
            rw [e]
            exact hon (hf + i) (by omega))
          rw [hy2] at r
          exact r))
        have KS := Lib.hid (fun (X : World) (q : Below wr.heap.size wr X) => (show X.cell? ⟨B, 0, none⟩ = some (.slice a1 l.1.length c1) ∧ X.cell? ⟨B, 1, none⟩ = some (.slice a2 l.2.length c2) from by
          have pl := PL.out _ (VR.out.trans (q.mono VR.out.size))
          exact ⟨pl.cell0, pl.cell1⟩))
        have hx5 : x.1.length ≤ 1048576 := L1.out
        have hx6 : x.2.length ≤ 1048576 := L2.out
        clear hy1 hy2 mh mt hhf hon hlt hxl
        go_upto_region 15 with fail
        clear x0
        have D0 := Lib.hid (show Below wr.heap.size wr wr.drew from (Below.refl _ _).drew)
        have DA := Lib.hid (show Below wr.heap.size wr (wr.alloc (.cells #[.slice none 0 0, .slice none 0 0] 26)).drew from (below_alloc _ _).drew)
        have TZ := Lib.hid (show Pair (wr.alloc (.cells #[.slice none 0 0, .slice none 0 0] 26)).drew wr.heap.size (.slice none 0 0) (.slice none 0 0) 26 from Pair.new _ _ _ _)
        have hbs : wr.heap.size < (wr.alloc (.cells #[.slice none 0 0, .slice none 0 0] 26)).drew.heap.size := by simp
        have HBS := Lib.hid hbs
        clear hbs
        go_cut [13, 14] (fun p u wx => ∃ (gx : Nat) (u1 u2 : Value), p = .pointer (some ⟨gx, 0, none⟩) ∧ u = .bool true ∧ Pair wx gx u1 u2 26 ∧ LineV wx (.agg #[u1, u2]) y ∧ Below wr.heap.size wr wx)
        case first =>
          go_region_held3 (fun X => X.cell? ⟨B, 0, none⟩ = some (.slice a1 l.1.length c1) ∧ X.cell? ⟨B, 1, none⟩ = some (.slice a2 l.2.length c2))
            ((refine KS.out _ ?_; first | with_reducible exact D0.out | with_reducible exact DA.out | with_reducible exact BA2.out | with_reducible exact bel_alloc BA2.out _ | with_reducible exact (BA2.out.setCell (Nat.le_refl _) _).setCell (Nat.le_refl _) _))
            (first
              | (go_at_call 23; refine (R15.out _ (by first | with_reducible exact D0.out | with_reducible exact DA.out)).mono ?_; rintro e wA ⟨va, rfl, oa, bA⟩; obtain ⟨e1, e2, e3, e4, e5, e6, rfl⟩ := own_form oa; first | (have z' := TZ.out.below bA; have z0 := z'.cell0; have z1 := z'.cell1; have g0 := z'.frozen 0; have g1 := z'.frozen 1; have BA2 := Lib.hid (DA.out.trans (bA.mono DA.out.size))) | (have z' := D0.out.trans (bA.mono D0.out.size); have BA2 := Lib.hid z'))
              | fail)
          all_goals (go_wp2_with fail; go_meet; first | with_reducible exact lineB BA2.out oa z' HBS.out (by omega) (by omega) | with_reducible exact lineA BA2.out oa (by omega) (by omega))
        case rest =>
        obtain ⟨gx, u1, u2, rfl, rfl, px, lx, bx⟩ := hcut
        have p0 := px.cell0
        have p1 := px.cell1
        have KP := Lib.hid (fun (X : World) (q : Below wc.heap.size wc X) => (show X.cell? ⟨gx, 0, none⟩ = some u1 ∧ X.cell? ⟨gx, 1, none⟩ = some u2 from ⟨(px.below q).cell0, (px.below q).cell1⟩))
        have R17 := Lib.hid (fun (X : World) (q : Below wc.heap.size wc X) => R16.out X (bx.trans (q.mono bx.size)) (.agg #[u1, u2]) (lx.below q))
        have WC := Lib.hid (show Below w8.heap.size w8 wc from BR.out.trans (bx.mono BR.out.size))
        clear R15 R16 KS D0 DA TZ HBS px lx
        have D0 := Lib.hid (show Below wc.heap.size wc wc.drew from (Below.refl _ _).drew)
        have DA := Lib.hid (show Below wc.heap.size wc (wc.alloc (.cells #[.slice none 0 0, .slice none 0 0] 26)).drew from (below_alloc _ _).drew)
        have TZ := Lib.hid (show Pair (wc.alloc (.cells #[.slice none 0 0, .slice none 0 0] 26)).drew wc.heap.size (.slice none 0 0) (.slice none 0 0) 26 from Pair.new _ _ _ _)
        have HBS := Lib.hid (show wc.heap.size < (wc.alloc (.cells #[.slice none 0 0, .slice none 0 0] 26)).drew.heap.size by simp)
        go_upto_region 16 with fail
        go_cut [15, 16] (fun p u wx => ∃ (gz : Nat) (u3 u4 : Value), p = .pointer (some ⟨gz, 0, none⟩) ∧ u = .bool true ∧ Pair wx gz u3 u4 26 ∧ LineV wx (.agg #[u3, u4]) x ∧ Below wc.heap.size wc wx)
        case first =>
          go_region_held3 (fun X => X.cell? ⟨gx, 0, none⟩ = some u1 ∧ X.cell? ⟨gx, 1, none⟩ = some u2)
            ((refine KP.out _ ?_; first | with_reducible exact D0.out | with_reducible exact DA.out | with_reducible exact BA2.out | with_reducible exact bel_alloc BA2.out _ | with_reducible exact (BA2.out.setCell (Nat.le_refl _) _).setCell (Nat.le_refl _) _))
            (first
              | (go_at_call 23; refine (R17.out _ (by first | with_reducible exact D0.out | with_reducible exact DA.out)).mono ?_; rintro e wA ⟨va, rfl, oa, bA⟩; obtain ⟨e1, e2, e3, e4, e5, e6, rfl⟩ := own_form oa; first | (have z' := TZ.out.below bA; have z0 := z'.cell0; have z1 := z'.cell1; have g0 := z'.frozen 0; have g1 := z'.frozen 1; have BA2 := Lib.hid (DA.out.trans (bA.mono DA.out.size))) | (have z' := D0.out.trans (bA.mono D0.out.size); have BA2 := Lib.hid z'))
              | fail)
          all_goals (go_wp2_with fail; go_meet; first | with_reducible exact lineB BA2.out oa z' HBS.out hx5 hx6 | with_reducible exact lineA BA2.out oa hx5 hx6)
        case rest =>
        obtain ⟨gz, u3, u4, rfl, rfl, pz, lz, bz⟩ := hcut
        have WZ := WC.out.trans (bz.mono WC.out.size)
        have po := PO.out _ (Y8.out.trans (WZ.mono Y8.out.size))
        have y0 := po.cell0
        have y1 := po.cell1
        have z0 := pz.cell0
        have z1 := pz.cell1
        have SL := Lib.hid (sameLine lz (LOx.out _ WZ))
        have WZ := Lib.hid WZ
        clear po pz lz R17 KP p0 p1 D0 DA TZ HBS
        go_wp2_with (go_at_call 19; refine SL.out.mono ?_)
        rintro e w20 ⟨rfl, b20⟩
        go_wp2_with fail
        go_ret
        exact ⟨rfl, chain B1.out (chain V8.out (chain WZ.out b20))⟩

end Go.Proofs.Ytpofkfcjnhoamaa

namespace Go.Proofs.Ytpofkfcjnhoamaa.fnLineRun
open Go.ChangeShapes Go.WideShapes Go.ChangeAt Go.RowKit
open Go.ChangeMaps (open_string shut_string)
set_option linter.unusedVariables false

theorem own : ownKnob Try.prog.godebug = none := by kernel_rfl
theorem laidOut : laidOutB Try.prog = true := by kernel_rfl

set_option maxRecDepth 100000 in
theorem lifted (os : Os) (started : os.Started) (H : Type) (enc : TypeId × Value → H) :
    ReturnsInHanded {} Try.checked os 6 .any (Rows.fnLineRunSpec.pre6 enc Try.prog Try.f6 Rows.fnLineRunRow.domain false) (Rows.fnLineRunSpec.post enc Try.prog Try.f6 false true false false) := by
  refine returnsInHanded_of_change (C := Try.checked) own started (by kernel_rfl) Try.func6
    (ChangeSpec.witness6 (enc := enc) (C := Try.checked) false ⟨#[], #[.slice none 0 0], []⟩ 8 (by kernel_rfl) (by kernel_rfl) (by kernel_rfl) (by kernel_rfl)) ?_
  intro W base args ds gs before hval0 hW hcnd _
  have hval : ∀ (j : Nat) t v, Try.f6.params[j]? = some t → args[j]? = some v → Value.okWide Try.prog W .any base t v := hval0
  have hW' := hW
  obtain ⟨p, q, hA0, hV, rfl, hfz, hnd⟩ := hW
  have hA : DataW.TrodAll enc Try.prog W 0 (fun _ => true) true Try.f6.params.toList args.toList ds p := hA0
  rw [Try.params6] at hA hval
  obtain ⟨v0, vs0, d0, ds0, p0, q0, hargs, rfl, rfl, h0, r0⟩ := trodAll_cons hA
  obtain ⟨rfl, rfl, rfl⟩ := trodAll_nil r0
  obtain rfl : args = #[v0] := by cases args; simp_all
  obtain ⟨rfl, rfl⟩ := trodVars_none hV
  obtain ⟨a0, len0, cap0, rfl⟩ := okWide_slice Try.underlying22 (hval 0 22 v0 rfl rfl)
  have k0 := h0
  have lt0 : ∀ x ∈ p0, x.block < W.heap.size := by obtain ⟨m, hm⟩ := k0; exact DataW.trod_lt m _ _ _ hm
  obtain ⟨z0, w0⟩ : ∃ zs, IsRowK .u8 W a0 len0 cap0 zs := by
    obtain ⟨fuel, hf⟩ := h0
    rcases open_ints Try.underlying22 Try.underlying5 (by kernel_rfl) hf with ⟨hcs, _⟩ | ⟨x, l, c, zs, hcs, _, hl, hm, hz, _, hcell, hwz⟩
    · simp [Value.cells] at hcs
      obtain ⟨rfl, rfl, rfl⟩ := hcs
      exact ⟨[], .inl ⟨rfl, rfl, rfl, rfl⟩⟩
    · simp [Value.cells] at hcs
      obtain ⟨rfl, rfl, rfl⟩ := hcs
      exact ⟨zs, .inr ⟨_, rfl, hl, hm, by simpa using hz, hcell, hwz⟩⟩
  clear hA0 hval0
  refine (walk_FnLineRun a0 len0 cap0 z0 W w0).mono fun e W' ⟨he, bel⟩ => ?_
  subst he
  exact ⟨_, rfl, _, _, _, [], _, [], hW', trodAll_mk1 (shut_bool Try.underlying4 _), (trodAll_cons_mk (Below.trod laidOut (by kernel_rfl) (of_decide_eq_true (by kernel_rfl)) k0 bel lt0) trodAll_mk0), rfl, bel.frame _, fun h => by cases h⟩

theorem closed : joinedFacts Try.checked.prog 6 Try.f6 Rows.fnLineRunSpec Rows.fnLineRunRow = true := by
  unfold joinedFacts
  simp only [Bool.and_eq_true]
  repeat' (refine And.intro ?_ ?_)
  all_goals first
    | with_reducible exact may_enter
    | (rw [lifts_final]; kernel_rfl)
    | (rw [make_is]; kernel_rfl)
    | kernel_rfl

theorem over : Rows.fnLineRunRow.holds Try.pinned (OpenSpec.ofChange Rows.fnLineRunSpec) :=
  OpenClaim.holds_of_wide 6 Try.f6 rfl rfl rfl rfl rfl rfl rfl ⟨rfl, rfl, rfl, rfl, rfl⟩ rfl rfl rfl rfl rfl (by kernel_rfl) Try.func6 closed
    (of_decide_eq_true (by kernel_rfl)) (by unfold Func.isWrapper; first | (rw [if_pos (by decide +kernel)]; kernel_rfl) | (rw [if_neg (by decide +kernel)]; exact ⟨rfl, rfl⟩))
    (fun os started H enc _ => lifted os started H enc)

theorem proved : Rows.FnLineRunSaid := over
#print axioms proved
end Go.Proofs.Ytpofkfcjnhoamaa.fnLineRun
