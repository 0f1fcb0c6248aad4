/-
  For every input the law 'FnWait' returns true, and each of its arguments reads behind the call as it read before. Conditions: none beyond those of the row.
-/
import Derived.Test.YtchnaceihmepkaaRows
import Derived.WalkKit
import Derived.ProofKit
import Derived.OpenShut
import Derived.ShutString
import Derived.ChangeOld
import Derived.Below
import Derived.Deep.Matrix
import Derived.Test.YtchnaceihmepkaaIo
import Derived.Test.YtchnaceihmepkaaDrOs
import Derived.Test.YtchnaceihmepkaaSgO
import Derived.Test.YtchnaceihmepkaaSgQ
import Derived.Deep.RegionHeld3
namespace Go.Proofs.Ytchnaceihmepkaa
open Go.RowKit

/-- The first least one stands at a place, and those ahead of it are greater. -/
theorem ls_first {f : ByteArray → Int} {L : List ByteArray} (hn : ∀ o ∈ L, 0 ≤ f o) : ∀ k, k ≤ L.length → (0 < k → 0 ≤ (lsOf f (L.take k)).2 ∧ ∃ j, j < k ∧ lsOf f (L.take k) = (L.getD j ⟨#[]⟩, f (L.getD j ⟨#[]⟩)) ∧ ∀ i, i < j → f (L.getD j ⟨#[]⟩) < f (L.getD i ⟨#[]⟩)) ∧ ∀ j, j < k → (lsOf f (L.take k)).2 ≤ f (L.getD j ⟨#[]⟩) := by
  intro k
  induction k with
  | zero => intro _; exact ⟨fun h => absurd h (Nat.lt_irrefl 0), fun j h => absurd h (Nat.not_lt_zero j)⟩
  | succ k ih =>
    intro hk
    obtain ⟨h1, h2⟩ := ih (by omega)
    have h0 := hn _ (getD_in (k := k) (l := L) (by omega))
    rw [take_next' L (by omega), lsOf_add]
    unfold lsStep
    by_cases q : (lsOf f (L.take k)).2 < 0 ∨ f (L.getD k ⟨#[]⟩) < (lsOf f (L.take k)).2
    · rw [if_pos q]
      have hall : ∀ i, i < k → f (L.getD k ⟨#[]⟩) < f (L.getD i ⟨#[]⟩) := by
        intro i hi
        have a := h2 i hi
        have b := (h1 (by omega)).1
        omega
      refine ⟨fun _ => ⟨h0, k, by omega, rfl, hall⟩, fun j hj => ?_⟩
      show f (L.getD k ⟨#[]⟩) ≤ f (L.getD j ⟨#[]⟩)
      rcases Nat.lt_or_ge j k with hjk | hjk
      · exact Int.le_of_lt (hall j hjk)
      · obtain rfl : j = k := by omega
        exact Int.le_refl _
    · rw [if_neg q]
      have hk0 : 0 < k := by
        rcases Nat.eq_zero_or_pos k with e | e
        · subst e; exact absurd (Or.inl (by rw [List.take_zero]; exact (by decide : (-1 : Int) < 0))) q
        · exact e
      obtain ⟨b, j, hj, e, g⟩ := h1 hk0
      refine ⟨fun _ => ⟨b, j, by omega, e, g⟩, fun i hi => ?_⟩
      rcases Nat.lt_or_ge i k with hik | hik
      · exact h2 i hik
      · obtain rfl : i = k := by omega
        omega
theorem mem_allF (n : Nat) : ∀ u d o, u + d = n → OrdOk u d o → o ∈ allF n u d := by
  induction n with
  | zero =>
    intro u d o h ok
    have e : o = ⟨#[]⟩ := by
      apply ByteArray.ext
      exact Array.eq_empty_of_size_eq_zero (by have := ok.size; show o.size = 0; omega)
    rw [e]; exact List.mem_singleton.2 rfl
  | succ n ih =>
    intro u d o h ok
    obtain ⟨x, hx, e⟩ := tl_step (S := o) (i := 0) (by have := ok.size; omega)
    rw [tl_zero] at e
    obtain ⟨T, hT⟩ : ∃ T, T = tl o (0 + 1) := ⟨_, rfl⟩
    rw [← hT] at e
    have h0 := ok.only 0 (by have := ok.size; omega)
    rw [hx] at h0
    rw [e] at ok ⊢
    rw [allF, List.mem_append]
    rcases h0 with h85 | h68
    · obtain rfl : x = 85 := u8_is (k := 85) (by omega) h85
      obtain ⟨v, rfl, ok2⟩ := ok.tailU
      refine .inr ?_
      rw [if_pos (Nat.zero_lt_succ v), Nat.add_sub_cancel]
      exact List.mem_map.2 ⟨T, ih v d T (by omega) ok2, rfl⟩
    · obtain rfl : x = 68 := u8_is (k := 68) (by omega) h68
      obtain ⟨b, rfl, ok2⟩ := ok.tailD
      refine .inl ?_
      rw [if_pos (Nat.zero_lt_succ b), Nat.add_sub_cancel]
      exact List.mem_map.2 ⟨T, ih u b T (by omega) ok2, rfl⟩
theorem wait_facts {s : Sg} {S : ByteArray} (h : sgO s S = true) : (bestV s).size ≤ 12 ∧ waitV s (bestV s) ≤ waitV s S ∧ soonV s ≤ endV s S := by
  have hs : sgB s = true := by
    cases q : sgB s
    · rw [sgO_bad q] at h; exact absurd h (by decide)
    · rfl
  have hm : S ∈ ords s := mem_allF _ _ _ S rfl (sgO_of h).2
  obtain ⟨k, hk, e⟩ := List.mem_iff_getElem.1 hm
  have eg : (ords s).getD k ⟨#[]⟩ = S := by rw [List.getD_eq_getElem?_getD, List.getElem?_eq_getElem hk]; exact e
  have q1 := ls_first (f := waitV s) (L := ords s) (fun o ho => waitV_nonneg (ords_ok hs ho)) (ords s).length (Nat.le_refl _)
  have q2 := ls_first (f := endV s) (L := ords s) (fun o ho => endV_nonneg (ords_ok hs ho)) (ords s).length (Nat.le_refl _)
  rw [List.take_length] at q1 q2
  have e1 : bestV s = (lsOf (waitV s) (ords s)).1 := by simp [bestV, hs]
  have e2 : soonV s = (lsOf (endV s) (ords s)).2 := by simp [soonV, hs]
  obtain ⟨-, j, hj, b, -⟩ := q1.1 (ords_pos s)
  have c1 := q1.2 k hk
  have c2 := q2.2 k hk
  rw [eg] at c1 c2
  rw [b] at c1 e1
  refine ⟨?_, ?_, ?_⟩
  · rw [e1]; exact ords_size hs (getD_in hj)
  · rw [e1]; exact c1
  · rw [e2]; exact c2

set_option maxHeartbeats 1000000 in
theorem lawSum {w : World} {v : Value} {xs : List Int} (h : Ints w v xs) (hl : xs.length ≤ 12) (hr : ∀ i, i < xs.length → 0 ≤ xs.getD i 0 ∧ xs.getD i 0 ≤ 3200) :
    Calls Try.prog 21 #[v] w fun e w' => e = .returned (.int .i64 (sumI xs xs.length)) ∧ w = w' := by
  obtain ⟨a, cap, rfl, -, hc⟩ := h
  have hl' : (xs.length : Int) ≤ 12 := by omega
  have RG := Lib.hid (fun (k : Nat) (hk : k ≤ xs.length) => sumI_range (xs := xs) (k := k) (fun i hi => hr i (by omega)))
  rcases hc with rfl | ⟨b, o, rfl, hb, hcell⟩
  · clear hr RG
    go_enter Try.func21, Try.ntmps21
    go_wp2_with fail
    refine wp_loop_rounds 1 ?_
    rw [rounds_succ]
    go_wp2_with fail
    go_ret
    exact ⟨rfl, rfl⟩
  have HC := Lib.hid hcell
  have HR := Lib.hid hr
  clear hcell hr
  go_enter Try.func21, Try.ntmps21
  go_wp2_with fail
  go_loop [3, 4] (fun n i => ∃ k : Nat, k ≤ xs.length ∧ i = .int .i64 (k : Int) ∧ n = .int .i64 (sumI xs k)) (fun _ i => xs.length - (intOf i).toNat)
  case atStart => exact ⟨0, by omega, rfl, rfl⟩
  case round =>
    obtain ⟨k, hk, rfl, rfl⟩ := hrel
    by_cases hlt : k < xs.length
    · have e1 := HC.out k hlt
      have r1 := RG.out k hk
      have r2 := HR.out k hlt
      have E : sumI xs (k + 1) = sumI xs k + xs.getD k 0 := rfl
      obtain ⟨x, hx⟩ : ∃ x, x = xs.getD k 0 := ⟨_, rfl⟩
      obtain ⟨y, hy⟩ : ∃ y, y = sumI xs k := ⟨_, rfl⟩
      rw [← hx] at e1 r2 E
      rw [← hy] at r1 E ⊢
      have E := Lib.hid E
      obtain ⟨r1, r1'⟩ := r1
      obtain ⟨r2, r2'⟩ := r2
      have hkx : (k : Int) < (xs.length : Int) := by omega
      have hy2 : y ≤ 38400 := by omega
      clear hx hy r1'
      go_wp2_with fail
      go_round
      case rel => exact ⟨k + 1, by omega, by go_num, by rw [E.out]⟩
      case measure => simp [intOf]; omega
    · obtain rfl : k = xs.length := by omega
      go_wp2_with fail
      go_ret
      exact ⟨rfl, rfl⟩


set_option maxRecDepth 100000 in
set_option maxHeartbeats 8000000 in
theorem walk_FnWait (a0 : Option Addr) (len0 cap0 : Nat) (z0 : List Int) (w : World) (w0 : IsRowK .u8 w a0 len0 cap0 z0) :
    Calls Try.prog 4 #[.slice a0 len0 cap0] w fun e w' => e = .returned (.bool true) ∧ Below w.heap.size w w' := by
  rcases Nat.lt_or_ge 1048576 len0 with hbig | hsm
  · have hb : (1048576 : Int) < (len0 : Int) := by omega
    go_enter Try.func4, Try.ntmps4
    go_wp2_with fail
    go_ret
    exact ⟨rfl, Below.refl _ _⟩
  have hb : (len0 : Int) ≤ 1048576 := by omega
  have DN := Lib.hid (drawOWait w0 hsm)
  clear w0
  go_enter Try.func4, Try.ntmps4
  go_upto_region 4 with (go_at_call 17; refine DN.out.mono ?_; rintro e wA ⟨v, s, S, rfl, os, ss, hS, bA⟩; obtain ⟨a1, n1, c1, a2, n2, c2, rfl⟩ := os.form)
  have qB0 := Quad.new wA (.slice a1 n1 c1) (.slice a2 n2 c2) (.int .i64 s.run) (.int .i64 s.head) 25
  have bB := below_alloc wA (.cells #[.slice a1 n1 c1, .slice a2 n2 c2, .int .i64 s.run, .int .i64 s.head] 25)
  have sv := (os.sgV (by have := ss.la; omega) (by have := ss.lb; omega)).below bB
  obtain ⟨wB, hwB⟩ : ∃ X, X = wA.alloc (.cells #[.slice a1 n1 c1, .slice a2 n2 c2, .int .i64 s.run, .int .i64 s.head] 25) := ⟨_, rfl⟩
  rw [← hwB] at qB0 bB sv ⊢
  have BB := Lib.hid (bA.trans (bB.mono bA.size))
  have QB := Lib.hid qB0
  have IW := Lib.hid (fun (X : World) (b : Below wB.heap.size wB X) (o : ByteArray) (ho : o.size ≤ 1048576) => implWait (S := o) (sv.below b) ho)
  have SW := Lib.hid (fun (X : World) (b : Below wB.heap.size wB X) => specWait (S := S) (sv.below b) (by omega))
  have IS := Lib.hid (fun (X : World) (b : Below wB.heap.size wB X) => implStarts (S := S) (sv.below b) (by omega))
  have IB := Lib.hid (fun (X : World) (b : Below wB.heap.size wB X) => implBest (sv.below b))
  have IO := Lib.hid (fun (X : World) (b : Below wB.heap.size wB X) => implSoon (sv.below b))
  have IE := Lib.hid (fun (X : World) (b : Below wB.heap.size wB X) => implEnd (S := S) (sv.below b) (by omega))
  obtain ⟨i1, i2⟩ : Ints wB (.slice a1 n1 c1) s.A ∧ Ints wB (.slice a2 n2 c2) s.B := by
    obtain ⟨x, y, e, i1, i2⟩ := sv
    simp only [Value.agg.injEq, Array.mk.injEq, List.cons.injEq, and_true] at e
    obtain ⟨rfl, rfl, -⟩ := e
    exact ⟨i1, i2⟩
  have I1 := Lib.hid i1
  have I2 := Lib.hid i2
  obtain ⟨m, hm⟩ : ∃ m, m = waitV s S := ⟨_, rfl⟩
  have HM := Lib.hid hm
  rw [← hm] at SW
  have IWS := Lib.hid (fun (X : World) (b : Below wB.heap.size wB X) => hm ▸ IW.out X b S (by omega))
  have k0 := QB.out.cell0
  have k1 := QB.out.cell1
  have k2 := QB.out.cell2
  have k3 := QB.out.cell3
  clear hm hwB qB0 bB sv os ss bA i1 i2
  go_upto_region 5 with (go_at_call 18; refine (IWS.out _ (below_self _)).mono ?_; rintro e wC ⟨rfl, bC⟩)
  have l0 := (QB.out.below bC).cell0
  have l1 := (QB.out.below bC).cell1
  have l2 := (QB.out.below bC).cell2
  have l3 := (QB.out.below bC).cell3
  have BC := Lib.hid bC
  clear k0 k1 k2 k3 bC
  go_upto_region 6 with (go_at_call 19; refine (SW.out _ BC.out).mono ?_; rintro e wD ⟨rfl, bD⟩)
  have BD := Lib.hid (BC.out.trans (bD.mono BC.out.size))
  clear l0 l1 l2 l3 bD
  rcases Int.lt_or_le m 0 with hneg | hpos
  · have t0 : decide (m < 0) = true := decide_eq_true hneg
    have t1 : (m != m) = false := by simp
    have t2 : (m == m) = true := by simp
    clear hneg
    go_wp2_with fail
    go_ret
    exact ⟨rfl, BB.out.trans (BD.out.mono BB.out.size)⟩
  have t0 : decide (m < 0) = false := by simpa using hpos
  have t1 : (m != m) = false := by simp
  have OK := Lib.hid (show sgO s S = true by
    cases hs : sgO s S
    · rw [HM.out, waitV_no hs] at hpos; omega
    · rfl)
  have OG := Lib.hid (show sgB s = true by
    cases q : sgB s
    · have := OK.out; rw [sgO_bad q] at this; exact absurd this (by decide)
    · rfl)
  obtain ⟨W1, W2, W3⟩ := wait_facts OK.out
  rw [← HM.out] at W2
  have IS2 := IS.out _ BD.out
  rw [OK.out] at IS2
  have IS2 := Lib.hid IS2
  have IB2 := fun (X : World) (b : Below wB.heap.size wB X) => IB.out X b
  rw [OG.out] at IB2
  obtain ⟨O, hO⟩ : ∃ O, O = bestV s := ⟨_, rfl⟩
  rw [← hO] at IB2 W1 W2
  have IWO := fun (X : World) (b : Below wB.heap.size wB X) => IW.out X b O (by omega)
  obtain ⟨wb, hwb⟩ : ∃ x, x = waitV s O := ⟨_, rfl⟩
  rw [← hwb] at IWO W2
  obtain ⟨en, hen⟩ : ∃ x, x = endV s S := ⟨_, rfl⟩
  obtain ⟨so, hso⟩ : ∃ x, x = soonV s := ⟨_, rfl⟩
  have IE2 := fun (X : World) (b : Below wB.heap.size wB X) => IE.out X b
  have IO2 := fun (X : World) (b : Below wB.heap.size wB X) => IO.out X b
  rw [← hen] at IE2 W3
  rw [← hso] at IO2 W3
  have IB2 := Lib.hid IB2
  have IWO := Lib.hid IWO
  have IE2 := Lib.hid IE2
  have IO2 := Lib.hid IO2
  have l0 := (QB.out.below BD.out).cell0
  have l1 := (QB.out.below BD.out).cell1
  have l2 := (QB.out.below BD.out).cell2
  have l3 := (QB.out.below BD.out).cell3
  have GE := Lib.hid (And.intro W2 W3)
  clear hO hwb hen hso W1 W2 W3 hpos IS IB IE IO IW
  go_upto_region 10 with (first
    | (go_at_call 14; refine IS2.out.mono ?_; rintro e wE ⟨vs, rfl, os, bE⟩; obtain ⟨sx, sn, sc, rfl⟩ := own_is_slice os; have OS := Lib.hid os; have BE := Lib.hid (BD.out.trans (bE.mono BD.out.size)); have m0 := (QB.out.below BE.out).cell0; have m1 := (QB.out.below BE.out).cell1; have m2 := (QB.out.below BE.out).cell2; have m3 := (QB.out.below BE.out).cell3; clear l0 l1 l2 l3 bE os)
    | (go_at_call 20; refine (IB2.out _ BE.out).mono ?_; rintro e wF ⟨rfl, bF⟩; have BF := Lib.hid (BE.out.trans (bF.mono BE.out.size)); have OS2 := Lib.hid (OS.out.below bF); clear m0 m1 m2 m3 bF))
  have oks := (sgO_of OK.out).1
  have z12 := sgO_size OK.out
  have hl : stV s S = stL s S S.size := stV_yes OK.out
  have hln : (stL s S S.size).length = S.size := stL_len _ _ _
  have WS := wait_sums OK.out
  have MW : m = wtTo s S S.size := HM.out.trans (waitV_yes OK.out)
  have o2 := OS2.out
  rw [hl] at o2
  have r1 := fun i (hi : i < (stL s S S.size).length) => show 0 ≤ (stL s S S.size).getD i 0 ∧ (stL s S S.size).getD i 0 ≤ 3200 by rw [stL_at (by omega)]; exact stA_nonneg OK.out (by omega)
  have r2 : ∀ i, i < s.A.length → 0 ≤ s.A.getD i 0 ∧ s.A.getD i 0 ≤ 3200 := fun i hi => by have := qB_val oks.a hi; omega
  have r3 : ∀ i, i < s.B.length → 0 ≤ s.B.getD i 0 ∧ s.B.getD i 0 ≤ 3200 := fun i hi => by have := qB_val oks.b hi; omega
  have la := oks.lenA
  have lb := oks.lenB
  have g1 := sumI_range (k := (stL s S S.size).length) r1
  have g2 := sumI_range (k := s.A.length) r2
  have g3 := sumI_range (k := s.B.length) r3
  have SL := fun (X : World) (b : Below wF.heap.size wF X) => (lawSum (w := X) (xs := stL s S S.size) ((o2.ints (by omega)).below b) (by omega) r1).mono (fun e w' (h : e = .returned (.int .i64 (sumI (stL s S S.size) (stL s S S.size).length)) ∧ X = w') => show e = .returned (.int .i64 (sumI (stL s S S.size) (stL s S S.size).length)) ∧ Below X.heap.size X w' from ⟨h.1, h.2 ▸ Below.refl _ _⟩)
  have SA := fun (X : World) (b : Below wF.heap.size wF X) => (lawSum (w := X) (xs := s.A) (I1.out.below (BF.out.trans (b.mono BF.out.size))) (by omega) r2).mono (fun e w' (h : e = .returned (.int .i64 (sumI s.A s.A.length)) ∧ X = w') => show e = .returned (.int .i64 (sumI s.A s.A.length)) ∧ Below X.heap.size X w' from ⟨h.1, h.2 ▸ Below.refl _ _⟩)
  have SBB := fun (X : World) (b : Below wF.heap.size wF X) => (lawSum (w := X) (xs := s.B) (I2.out.below (BF.out.trans (b.mono BF.out.size))) (by omega) r3).mono (fun e w' (h : e = .returned (.int .i64 (sumI s.B s.B.length)) ∧ X = w') => show e = .returned (.int .i64 (sumI s.B s.B.length)) ∧ Below X.heap.size X w' from ⟨h.1, h.2 ▸ Below.refl _ _⟩)
  rw [← MW] at WS
  rw [hln] at SL g1
  obtain ⟨x, hx⟩ : ∃ x, x = sumI (stL s S S.size) S.size := ⟨_, rfl⟩
  obtain ⟨y, hy⟩ : ∃ x, x = sumI s.A s.A.length := ⟨_, rfl⟩
  obtain ⟨z, hz⟩ : ∃ x, x = sumI s.B s.B.length := ⟨_, rfl⟩
  rw [← hx] at SL g1 WS
  rw [← hy] at SA g2 WS
  rw [← hz] at SBB g3 WS
  have P6 := QB.out.below BF.out
  have c0 := P6.cell0
  have c1' := P6.cell1
  have c2' := P6.cell2
  have c3 := P6.cell3
  have F0 := fun d os => cell_regrown c0 d os
  have F1 := fun d os => cell_regrown c1' d os
  have F2 := fun d os => cell_regrown c2' d os
  have F3 := fun d os => cell_regrown c3 d os
  have BG := fun d os => (BF.out.trans ((below_regrown wF d os).mono BF.out.size))
  have R1 := Lib.hid (fun (d : Nat) (os : Array Obj) => Calls.regrown_of (SL _ (below_regrown wF d os)))
  have R2 := Lib.hid (fun (d : Nat) (os : Array Obj) => Calls.regrown_of (SA _ (below_regrown wF d os)))
  have R3 := Lib.hid (fun (d : Nat) (os : Array Obj) => Calls.regrown_of (SBB _ (below_regrown wF d os)))
  have R4 := Lib.hid (fun (d : Nat) (os : Array Obj) => Calls.regrown_of (IWO.out _ (BG d os)))
  have R5 := Lib.hid (fun (d : Nat) (os : Array Obj) => Calls.regrown_of (IE2.out _ (BG d os)))
  have R6 := Lib.hid (fun (d : Nat) (os : Array Obj) => Calls.regrown_of (IO2.out _ (BG d os)))
  have hw1 : IntKind.i64.wrap (x - y) = x - y := IntWalk.i64_in _ (by omega)
  have hw2 : IntKind.i64.wrap (x - y - z) = x - y - z := IntWalk.i64_in _ (by omega)
  have EQ : (m == x - y - z) = true := by simp [WS]
  have e1 : decide (wb ≤ m) = true := decide_eq_true GE.out.1
  have e2 : decide (so ≤ en) = true := decide_eq_true GE.out.2
  have hg1 : wb ≤ m := GE.out.1
  have hg2 : so ≤ en := GE.out.2
  clear oks z12 hl hln WS MW o2 r1 r2 r3 la lb g1 g2 g3 SL SA SBB hx hy hz P6 c0 c1' c2' c3 BG
  refine wp_region_quiet_below (by kernel_rfl) (by kernel_rfl) ?_
  repeat (go_big_quiet_step (first | (with_reducible exact R1.out _ _) | (with_reducible exact R2.out _ _) | (with_reducible exact R3.out _ _) | (with_reducible exact R4.out _ _) | (with_reducible exact R5.out _ _) | (with_reducible exact R6.out _ _)))
  refine wpQuiet_nil ?_
  intro _ hw'
  obtain ⟨⟨dq, osq⟩, hw''⟩ := hw'
  subst hw''
  have BR := below_regrown wF dq osq
  clear hw1 hw2 F0 F1 F2 F3
  go_wp2_with fail
  go_ret
  exact ⟨rfl, BB.out.trans ((BF.out.trans (BR.mono BF.out.size)).mono BB.out.size)⟩

end Go.Proofs.Ytchnaceihmepkaa

namespace Go.Proofs.Ytchnaceihmepkaa.fnWait
open Go.ChangeShapes Go.WideShapes Go.ChangeAt Go.RowKit
open Go.ChangeMaps (open_string shut_string)
set_option linter.unusedVariables false

theorem own : ownKnob Try.prog.godebug = none := by kernel_rfl
theorem laidOut : laidOutB Try.prog = true := by kernel_rfl

set_option maxRecDepth 100000 in
theorem lifted (os : Os) (started : os.Started) (H : Type) (enc : TypeId × Value → H) :
    ReturnsInHanded {} Try.checked os 4 .any (Rows.fnWaitSpec.pre6 enc Try.prog Try.f4 Rows.fnWaitRow.domain false) (Rows.fnWaitSpec.post enc Try.prog Try.f4 false true false false) := by
  refine returnsInHanded_of_change (C := Try.checked) own started (by kernel_rfl) Try.func4
    (ChangeSpec.witness6 (enc := enc) (C := Try.checked) false ⟨#[], #[.slice none 0 0], []⟩ 8 (by kernel_rfl) (by kernel_rfl) (by kernel_rfl) (by kernel_rfl)) ?_
  intro W base args ds gs before hval0 hW hcnd _
  have hval : ∀ (j : Nat) t v, Try.f4.params[j]? = some t → args[j]? = some v → Value.okWide Try.prog W .any base t v := hval0
  have hW' := hW
  obtain ⟨p, q, hA0, hV, rfl, hfz, hnd⟩ := hW
  have hA : DataW.TrodAll enc Try.prog W 0 (fun _ => true) true Try.f4.params.toList args.toList ds p := hA0
  rw [Try.params4] at hA hval
  obtain ⟨v0, vs0, d0, ds0, p0, q0, hargs, rfl, rfl, h0, r0⟩ := trodAll_cons hA
  obtain ⟨rfl, rfl, rfl⟩ := trodAll_nil r0
  obtain rfl : args = #[v0] := by cases args; simp_all
  obtain ⟨rfl, rfl⟩ := trodVars_none hV
  obtain ⟨a0, len0, cap0, rfl⟩ := okWide_slice Try.underlying22 (hval 0 22 v0 rfl rfl)
  have k0 := h0
  have lt0 : ∀ x ∈ p0, x.block < W.heap.size := by obtain ⟨m, hm⟩ := k0; exact DataW.trod_lt m _ _ _ hm
  obtain ⟨z0, w0⟩ : ∃ zs, IsRowK .u8 W a0 len0 cap0 zs := by
    obtain ⟨fuel, hf⟩ := h0
    rcases open_ints Try.underlying22 Try.underlying5 (by kernel_rfl) hf with ⟨hcs, _⟩ | ⟨x, l, c, zs, hcs, _, hl, hm, hz, _, hcell, hwz⟩
    · simp [Value.cells] at hcs
      obtain ⟨rfl, rfl, rfl⟩ := hcs
      exact ⟨[], .inl ⟨rfl, rfl, rfl, rfl⟩⟩
    · simp [Value.cells] at hcs
      obtain ⟨rfl, rfl, rfl⟩ := hcs
      exact ⟨zs, .inr ⟨_, rfl, hl, hm, by simpa using hz, hcell, hwz⟩⟩
  clear hA0 hval0
  refine (walk_FnWait a0 len0 cap0 z0 W w0).mono fun e W' ⟨he, bel⟩ => ?_
  subst he
  exact ⟨_, rfl, _, _, _, [], _, [], hW', trodAll_mk1 (shut_bool Try.underlying4 _), (trodAll_cons_mk (Below.trod laidOut (by kernel_rfl) (of_decide_eq_true (by kernel_rfl)) k0 bel lt0) trodAll_mk0), rfl, bel.frame _, fun h => by cases h⟩

theorem closed : joinedFacts Try.checked.prog 4 Try.f4 Rows.fnWaitSpec Rows.fnWaitRow = true := by
  unfold joinedFacts
  simp only [Bool.and_eq_true]
  repeat' (refine And.intro ?_ ?_)
  all_goals first
    | with_reducible exact may_enter
    | (rw [lifts_final]; kernel_rfl)
    | (rw [make_is]; kernel_rfl)
    | kernel_rfl

theorem over : Rows.fnWaitRow.holds Try.pinned (OpenSpec.ofChange Rows.fnWaitSpec) :=
  OpenClaim.holds_of_wide 4 Try.f4 rfl rfl rfl rfl rfl rfl rfl ⟨rfl, rfl, rfl, rfl, rfl⟩ rfl rfl rfl rfl rfl (by kernel_rfl) Try.func4 closed
    (of_decide_eq_true (by kernel_rfl)) (by unfold Func.isWrapper; first | (rw [if_pos (by decide +kernel)]; kernel_rfl) | (rw [if_neg (by decide +kernel)]; exact ⟨rfl, rfl⟩))
    (fun os started H enc _ => lifted os started H enc)

theorem proved : Rows.FnWaitSaid := over
#print axioms proved
end Go.Proofs.Ytchnaceihmepkaa.fnWait
