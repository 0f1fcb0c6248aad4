/-
  A drawn number of sections and a drawn path; sums, and whether two paths are the same, by the laws. For codes of at most 1048576 bytes.
-/
import Derived.Test.YtoebgdcgcdigaaaDrawP
import Derived.Test.YtoebgdcgcdigaaaSameL
import Derived.Test.YtoebgdcgcdigaaaStands
import Derived.Test.YtoebgdcgcdigaaaPathP
namespace Go.Proofs.Ytoebgdcgcdigaaa
open Go.RowKit

theorem Far.mono {b b' : Nat} {v : Value} (h : Far b v) (hb : b' ≤ b) : Far b' v := by
  obtain ⟨u1, u2, rfl, h1, h2⟩ := h
  exact ⟨u1, u2, rfl, fun c e => Nat.le_trans hb (h1 c e), fun c e => Nat.le_trans hb (h2 c e)⟩
theorem IsRowK.under {k : IntKind} {w w' : World} {a : Option Addr} {n c : Nat} {z : List Int} (h : IsRowK k w a n c z) (hb : Below w.heap.size w w') : IsRowK k w' a n c z := by
  rcases h with h | ⟨x, rfl, h1, h2, h3, h4, h5⟩
  · exact .inl h
  · refine .inr ⟨x, rfl, h1, h2, h3, fun i hi => ?_, h5⟩
    have hx := World.block_lt_of_cell? w _ (h4 i hi)
    exact (hb.cell (p := x.add i) hx).trans (h4 i hi)

/-- What the drawing of a number and a path hands back. -/
def DrawnOne (w : World) (e : Ending) (w' : World) : Prop :=
  ∃ (n : Nat) (v : Value) (p : List Int × List Int), e = .returned (.tuple #[.int .i64 n, v]) ∧ 1 ≤ n ∧ n ≤ 4 ∧ PathV w' v p ∧ Below w.heap.size w w'

/-- Two values boxed, one behind the other. -/
theorem two_boxes2 (w : World) (x y x' y' : Value) (t : TypeId) : ∃ W, (w.alloc (.cells #[x, y] t)).alloc (.cells #[x', y'] t) = W ∧ Pair W w.heap.size x y t ∧ Pair W (w.heap.size + 1) x' y' t ∧ Below w.heap.size w W := by
  have ea := below_alloc w (.cells #[x, y] t)
  have pa := Pair.new w x y t
  have sa : (w.alloc (.cells #[x, y] t)).heap.size = w.heap.size + 1 := Go.Deep.nblk_alloc _ _
  have eb := below_alloc (w.alloc (.cells #[x, y] t)) (.cells #[x', y'] t)
  have pb := Pair.new (w.alloc (.cells #[x, y] t)) x' y' t
  rw [sa] at pb
  exact ⟨_, rfl, pa.below eb, pb, ea.trans (eb.mono ea.size)⟩

theorem below_of_grown {w0 w w' : World} {g : Nat} (c : Below w0.heap.size w0 w) (h : w.grownBy w' (some g)) (hg : w0.heap.size ≤ g) : Below w0.heap.size w0 w' :=
  c.grown h c.size (fun b hb => by simp only [Option.some.injEq] at hb; omega)

set_option maxRecDepth 100000 in
set_option maxHeartbeats 1000000 in
theorem drawOne {w w0 : World} {g : Nat} (h : Rd w g 0) (hg : w0.heap.size ≤ g) (c : Below w0.heap.size w0 w) :
    Calls Try.prog 84 #[.pointer (some ⟨g, 0, none⟩)] w (fun e w' => ∃ (n : Nat) (v : Value) (p : List Int × List Int), e = .returned (.tuple #[.int .i64 n, v]) ∧ 1 ≤ n ∧ n ≤ 4 ∧ PathV w' v p ∧ Below w0.heap.size w0 w' ∧ Far w.heap.size v) := by
  have hlt := h.lt
  have e0 := below_alloc w (.cells #[.slice none 0 0, .slice none 0 0] 44)
  have pr := Pair.new w (.slice none 0 0) (.slice none 0 0) 44
  obtain ⟨W, hW⟩ : ∃ X, X = w.alloc (.cells #[.slice none 0 0, .slice none 0 0] 44) := ⟨_, rfl⟩
  rw [← hW] at e0 pr
  have HW := Lib.hid hW.symm
  have hrd := h.below e0 hlt
  have PR := Lib.hid pr
  have C0 := Lib.hid (c.trans (e0.mono c.size))
  have S0 := Lib.hid c.size
  clear hW pr h e0 c
  go_enter Try.func84, Try.ntmps84
  go_upto_region 1 with fail
  rw [HW.out]
  go_wp2_with (go_at_call 55; refine (pick hrd (by omega) (by omega) (by omega)).mono ?_)
  rintro e w1 ⟨r, rfl, hr0, hr1, hrd1, hg1⟩
  have hr1' := hr1 (by omega)
  have PR := Lib.hid (PR.out.of (hg1.block _ PR.out.lt (by simp; omega)))
  have C1 := Lib.hid (below_of_grown C0.out hg1 hg)
  obtain ⟨m, hm⟩ : ∃ m : Nat, (m : Int) = 1 + r := ⟨(1 + r).toNat, by omega⟩
  have hw : IntKind.i64.wrap (1 + r) = (m : Int) := by rw [IntWalk.i64_in _ (by omega)]; omega
  have hw' : wrap64 (1 + r) = (m : Int) := (IntWalk.i64_left _).symm.trans hw
  have hm1 : 1 ≤ m := by omega
  have hm4 : m ≤ 4 := by omega
  have PR1 := Lib.hid PR.out.lt
  have DP := Lib.hid (drawPath (n := m) hrd1 (by omega) hm1 hm4)
  clear hg1 hrd hr1 hm
  go_wp2_with (go_at_call 86; refine DP.out.mono ?_)
  rintro e w2 ⟨v, p, q', rfl, pv, hrd2, hq2, hg2, hfar⟩
  have PR := Lib.hid (PR.out.of (hg2.block _ PR.out.lt (by simp; omega)))
  have C2 := Lib.hid (below_of_grown C1.out hg2 hg)
  obtain ⟨a1, n1, c1, a2, n2, c2, rfl⟩ := pv.form
  have l0 := PR.out.cell0
  have l1 := PR.out.cell1
  have l2 := PR.out.frozen 0
  have l3 := PR.out.frozen 1
  have pr2 := stored_pair (x' := .slice a1 n1 c1) (y' := .slice a2 n2 c2) PR.out
  have l4 := pr2.cell0
  have l5 := pr2.cell1
  have hsz1 : w.heap.size < w1.heap.size := PR1.out
  have PV := Lib.hid (hfar.setCell (i := 1) (hfar.setCell (c := w.heap.size) (i := 0) pv hsz1 (.slice a1 n1 c1)) hsz1 (.slice a2 n2 c2))
  have C3 := Lib.hid ((C2.out.setCell (p := ⟨w.heap.size, 0, none⟩) S0.out (.slice a1 n1 c1)).setCell (p := ⟨w.heap.size, 1, none⟩) S0.out (.slice a2 n2 c2))
  have FA := Lib.hid (hfar.mono (b' := w.heap.size) (by omega))
  clear pr2 pv hg2 hfar
  go_wp2_with fail
  exact bodyPost_ret (v := .tuple #[.int .i64 m, .agg #[.slice a1 n1 c1, .slice a2 n2 c2]]) (by simp [results, Try.results84, go_sem, l4, l5]) rfl ⟨m, _, p, rfl, hm1, hm4, PV.out, C3.out, FA.out⟩

set_option maxHeartbeats 1000000 in
theorem samePath {w : World} {u v : Value} {p q : List Int × List Int} (h : PathV w u p) (h' : PathV w v q) :
    Calls Try.prog 39 #[u, v] w fun e w' => e = .returned (.bool (decide (p = q))) ∧ Below w.heap.size w w' := by
  obtain ⟨u1, u2, rfl, i1, i2⟩ := h
  obtain ⟨v1, v2, rfl, j1, j2⟩ := h'
  obtain ⟨W, hW, pa, pb, hE⟩ := two_boxes2 w u1 u2 v1 v2 44
  have HW := Lib.hid hW
  have PA := Lib.hid pa
  have PB := Lib.hid pb
  have S1 := Lib.hid (sameInts (i1.below hE) (j1.below hE))
  have S2 := Lib.hid (fun (X : World) (c : Below W.heap.size W X) => sameInts ((i2.below hE).below c) ((j2.below hE).below c))
  have k0 := pa.cell0
  have k1 := pb.cell0
  clear hW pa pb i1 i2 j1 j2
  by_cases h1 : p.1 = q.1
  · rw [decide_eq_true h1] at S1
    have hd : decide (p = q) = decide (p.2 = q.2) := decide_eq_decide.2 ⟨fun e => by rw [e], fun e => Prod.ext h1 e⟩
    rw [hd]
    clear h1 hd
    go_enter Try.func39, Try.ntmps39
    go_upto_region 1 with fail
    rw [HW.out]
    go_wp2_with fail
    refine S1.out.mono ?_
    rintro e w1 ⟨rfl, b1⟩
    have k2 := (PA.out.below b1).cell1
    have k3 := (PB.out.below b1).cell1
    go_wp2_with fail
    refine (S2.out w1 b1).mono ?_
    rintro e w2 ⟨rfl, b2⟩
    go_wp2_with fail
    go_ret
    exact ⟨rfl, hE.trans ((b1.trans (b2.mono b1.size)).mono hE.size)⟩
  · rw [decide_eq_false h1] at S1
    have hd : decide (p = q) = false := decide_eq_false (fun e => h1 (by rw [e]))
    rw [hd]
    clear h1 hd
    go_enter Try.func39, Try.ntmps39
    go_upto_region 1 with fail
    rw [HW.out]
    go_wp2_with fail
    refine S1.out.mono ?_
    rintro e w1 ⟨rfl, b1⟩
    go_wp2_with fail
    go_ret
    exact ⟨rfl, hE.trans (b1.mono hE.size)⟩

/-- The sum of the first k numbers. -/
def sumTo (xs : List Int) : Nat → Int
  | 0 => 0
  | k + 1 => sumTo xs k + xs.getD k 0

set_option maxHeartbeats 1000000 in
theorem sumOf {w : World} {v : Value} {xs : List Int} (h : Ints w v xs) (hx : ∀ k, k ≤ xs.length → -1000000 ≤ sumTo xs k ∧ sumTo xs k ≤ 1000000) :
    Calls Try.prog 42 #[v] w fun e w' => e = .returned (.int .i64 (sumTo xs xs.length)) ∧ w = w' := by
  obtain ⟨a, cap, rfl, hl, hc⟩ := h
  rcases hc with rfl | ⟨b, o, rfl, hb, hcell⟩
  · go_enter Try.func42, Try.ntmps42
    go_wp2_with fail
    refine wp_loop_rounds 1 ?_
    rw [rounds_succ]
    go_wp2_with fail
    go_ret
    exact ⟨rfl, rfl⟩
  · have HC := Lib.hid hcell
    have HX := Lib.hid hx
    clear hcell hx
    go_enter Try.func42, Try.ntmps42
    go_wp2_with fail
    go_loop [3, 4] (fun s i => ∃ k : Nat, k ≤ xs.length ∧ i = .int .i64 k ∧ s = .int .i64 (sumTo xs k)) (fun _ i => xs.length - (intOf i).toNat)
    case atStart => exact ⟨0, by omega, rfl, rfl⟩
    case round =>
      obtain ⟨k, hk, rfl, rfl⟩ := hrel
      obtain ⟨s, hs⟩ : ∃ s, s = sumTo xs k := ⟨_, rfl⟩
      have hb1 := HX.out k hk
      rw [← hs] at hb1 ⊢
      have S := Lib.hid hs
      clear hs
      by_cases hlt : k < xs.length
      · have ec := HC.out k hlt
        have hb2 := HX.out (k + 1) (by omega)
        obtain ⟨x, hx⟩ : ∃ x, x = xs.getD k 0 := ⟨_, rfl⟩
        rw [← hx] at ec
        have HS := Lib.hid (show sumTo xs (k + 1) = s + x by rw [S.out, hx]; rfl)
        rw [HS.out] at hb2
        clear hx
        go_wp2_with fail
        go_round
        case rel => exact ⟨k + 1, by omega, by go_num, ret_val HS.out.symm⟩
        case measure => simp [intOf]; omega
      · obtain rfl : k = xs.length := by omega
        go_wp2_with fail
        go_ret
        exact ⟨ret_int S.out, rfl⟩

/-! The law's sum, plainly. -/

/-- The runs of a path. -/
def runsTo (p : List Int × List Int) (k : Nat) : List Int := (List.range k).map fun i => p.2.getD i 0 - p.1.getD i 0
theorem runsTo_len (p : List Int × List Int) (k : Nat) : (runsTo p k).length = k := by simp [runsTo]
theorem runsTo_succ (p : List Int × List Int) (k : Nat) : runsTo p (k + 1) = runsTo p k ++ [p.2.getD k 0 - p.1.getD k 0] := by simp [runsTo, List.range_succ]
theorem runsTo_get (p : List Int × List Int) {k i : Nat} (h : i < k) : (runsTo p k).getD i 0 = p.2.getD i 0 - p.1.getD i 0 := by simp [runsTo, h]
theorem sumTo_runs (p : List Int × List Int) (n : Nat) : ∀ k, k < n → standsTo p.1 p.2 k + sumTo (runsTo p n) (k + 1) = p.2.getD k 0 - p.1.getD 0 0 := by
  intro k hk
  induction k with
  | zero =>
    have q : sumTo (runsTo p n) (0 + 1) = 0 + (runsTo p n).getD 0 0 := rfl
    have q2 : standsTo p.1 p.2 0 = 0 := rfl
    rw [q, q2, runsTo_get p hk]
    omega
  | succ k ih =>
    have h1 := ih (by omega)
    have q : sumTo (runsTo p n) (k + 1 + 1) = sumTo (runsTo p n) (k + 1) + (runsTo p n).getD (k + 1) 0 := rfl
    have q2 : standsTo p.1 p.2 (k + 1) = standsTo p.1 p.2 k + (p.1.getD (k + 1) 0 - p.2.getD k 0) := rfl
    rw [q, q2, runsTo_get p hk]
    omega
theorem sumTo_bounds {n : Int} {p : List Int × List Int} (h : pathB n p = true) : ∀ k, k ≤ p.1.length → 0 ≤ sumTo (runsTo p p.1.length) k ∧ sumTo (runsTo p p.1.length) k ≤ 2000 * k := by
  have hs := (pathB_is h).2.2.2
  intro k hk
  induction k with
  | zero => simp [sumTo]
  | succ k ih =>
    have h1 := ih (by omega)
    have h2 := hs.bounds (j := k) (by omega)
    have q : sumTo (runsTo p p.1.length) (k + 1) = sumTo (runsTo p p.1.length) k + (runsTo p p.1.length).getD k 0 := rfl
    rw [runsTo_get p (by omega)] at q
    omega
theorem get_getD (l : List Int) (i : Nat) (h : i < l.length) : l[i] = l.getD i 0 := by simp [List.getD_eq_getElem?_getD, h]
/-- Without stops the path is the one that its runs give, and the other way round. -/
theorem stands_zero {n : Int} {p : List Int × List Int} (h : pathB n p = true) (hshort : ∀ k, k < p.1.length → p.2.getD k 0 - p.1.getD k 0 ≤ 100) :
    (stands n p = 0) ↔ runB (p.1.getD 0 0) (runsTo p p.1.length) = true ∧ runOf (p.1.getD 0 0) (runsTo p p.1.length) = p := by
  obtain ⟨⟨hn1, hn5⟩, hx, hy, hs⟩ := pathB_is h
  have hst : stands n p = standsTo p.1 p.2 (p.1.length - 1) := by unfold stands; rw [h]; rfl
  have hlen := runsTo_len p p.1.length
  constructor
  · intro h0
    rw [hst] at h0
    have mono : ∀ j k, j ≤ k → k < p.1.length → standsTo p.1 p.2 j ≤ standsTo p.1 p.2 k := by
      intro j k hjk hk
      induction k with
      | zero => obtain rfl : j = 0 := by omega
                exact Int.le_refl _
      | succ k ih =>
        by_cases e : j = k + 1
        · subst e; exact Int.le_refl _
        · have h1 := ih (by omega) (by omega)
          have h3 := hs (k + 1) hk
          unfold secOk at h3
          rw [readyAt_succ] at h3
          have q2 : standsTo p.1 p.2 (k + 1) = standsTo p.1 p.2 k + (p.1.getD (k + 1) 0 - p.2.getD k 0) := rfl
          omega
    have zero : ∀ k, k < p.1.length → standsTo p.1 p.2 k = 0 := by
      intro k hk
      have h1 := mono k (p.1.length - 1) (by omega) (by omega)
      have h2 := (standsTo_bounds hs k hk).1
      omega
    have next : ∀ k, k + 1 < p.1.length → p.1.getD (k + 1) 0 = p.2.getD k 0 := by
      intro k hk
      have h1 := zero k (by omega)
      have h2 := zero (k + 1) hk
      have q2 : standsTo p.1 p.2 (k + 1) = standsTo p.1 p.2 k + (p.1.getD (k + 1) 0 - p.2.getD k 0) := rfl
      omega
    have run : ∀ k, k < p.1.length → runTo (p.1.getD 0 0) (runsTo p p.1.length) k = p.1.getD k 0 ∧ runTo (p.1.getD 0 0) (runsTo p p.1.length) (k + 1) = p.2.getD k 0 := by
      intro k hk
      induction k with
      | zero =>
        have q : runTo (p.1.getD 0 0) (runsTo p p.1.length) (0 + 1) = p.1.getD 0 0 + (runsTo p p.1.length).getD 0 0 := rfl
        rw [runsTo_get p hk] at q
        exact ⟨rfl, by omega⟩
      | succ k ih =>
        have h1 := (ih (by omega)).2
        have h2 := next k hk
        have q : runTo (p.1.getD 0 0) (runsTo p p.1.length) (k + 1 + 1) = runTo (p.1.getD 0 0) (runsTo p p.1.length) (k + 1) + (runsTo p p.1.length).getD (k + 1) 0 := rfl
        rw [runsTo_get p hk] at q
        exact ⟨by omega, by omega⟩
    have hr : runB (p.1.getD 0 0) (runsTo p p.1.length) = true := by
      refine runB_yes (by rw [hlen]; omega) (by rw [hlen]; omega) fun k hk => ?_
      rw [hlen] at hk
      obtain ⟨e1, e2⟩ := run k hk
      have bd := hs.bounds hk
      have sh := hshort k hk
      unfold runOk
      rw [runsTo_get p hk, e1, e2]
      omega
    refine ⟨hr, ?_⟩
    rw [runOf_yes hr, hlen]
    refine Prod.ext (List.ext_getElem (by rw [(pathTo_len _ _ _).1]) fun i h1 h2 => ?_) (List.ext_getElem (by rw [(pathTo_len _ _ _).2]; omega) fun i h1 h2 => ?_)
    · have hi : i < p.1.length := h2
      have e := (pathTo_get (start := p.1.getD 0 0) (rs := runsTo p p.1.length) hi).1
      rw [(run i hi).1] at e
      exact (get_getD _ i h1).trans (e.trans (get_getD _ i h2).symm)
    · have hi : i < p.1.length := by omega
      have e := (pathTo_get (start := p.1.getD 0 0) (rs := runsTo p p.1.length) hi).2
      rw [(run i hi).2] at e
      exact (get_getD _ i h1).trans (e.trans (get_getD _ i h2).symm)
  · rintro ⟨hr, he⟩
    rw [runOf_yes hr, hlen] at he
    have e1 : ∀ k, k < p.1.length → p.1.getD k 0 = runTo (p.1.getD 0 0) (runsTo p p.1.length) k := fun k hk => by
      have q := (pathTo_get (start := p.1.getD 0 0) (rs := runsTo p p.1.length) hk).1
      rw [he] at q
      exact q
    have e2 : ∀ k, k < p.1.length → p.2.getD k 0 = runTo (p.1.getD 0 0) (runsTo p p.1.length) (k + 1) := fun k hk => by
      have q := (pathTo_get (start := p.1.getD 0 0) (rs := runsTo p p.1.length) hk).2
      rw [he] at q
      exact q
    rw [hst]
    have all : ∀ k, k < p.1.length → standsTo p.1 p.2 k = 0 := by
      intro k hk
      induction k with
      | zero => rfl
      | succ k ih =>
        have h1 := ih (by omega)
        have q2 : standsTo p.1 p.2 (k + 1) = standsTo p.1 p.2 k + (p.1.getD (k + 1) 0 - p.2.getD k 0) := rfl
        rw [e1 (k + 1) hk, e2 k (by omega)] at q2
        omega
    exact all _ (by omega)

end Go.Proofs.Ytoebgdcgcdigaaa
