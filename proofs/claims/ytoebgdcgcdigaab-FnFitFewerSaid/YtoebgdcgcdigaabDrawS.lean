/-
  A drawn number of sections and a drawn path; sums, and whether two paths are the same, by the laws. For codes of at most 1048576 bytes.
-/
import Derived.Test.YtoebgdcgcdigaabDrawP
import Derived.Test.YtoebgdcgcdigaabSameL
import Derived.Test.YtoebgdcgcdigaabStands
import Derived.Test.YtoebgdcgcdigaabPathP
namespace Go.Proofs.Ytoebgdcgcdigaab
open Go.RowKit

theorem Far.mono {b b' : Nat} {v : Value} (h : Far b v) (hb : b' ≤ b) : Far b' v := by
  obtain ⟨u1, u2, rfl, h1, h2⟩ := h
  exact ⟨u1, u2, rfl, fun c e => Nat.le_trans hb (h1 c e), fun c e => Nat.le_trans hb (h2 c e)⟩
theorem IsRowK.under {k : IntKind} {w w' : World} {a : Option Addr} {n c : Nat} {z : List Int} (h : IsRowK k w a n c z) (hb : Below w.heap.size w w') : IsRowK k w' a n c z := by
  rcases h with h | ⟨x, rfl, h1, h2, h3, h4, h5⟩
  · exact .inl h
  · refine .inr ⟨x, rfl, h1, h2, h3, fun i hi => ?_, h5⟩
    have hx := World.block_lt_of_cell? w _ (h4 i hi)
    exact (hb.cell (p := x.add i) hx).trans (h4 i hi)

/-- What the drawing of a number and a path hands back. -/
def DrawnOne (w : World) (e : Ending) (w' : World) : Prop :=
  ∃ (n : Nat) (v : Value) (p : List Int × List Int), e = .returned (.tuple #[.int .i64 n, v]) ∧ 1 ≤ n ∧ n ≤ 4 ∧ PathV w' v p ∧ Below w.heap.size w w'

/-- Two values boxed, one behind the other. -/
theorem two_boxes2 (w : World) (x y x' y' : Value) (t : TypeId) : ∃ W, (w.alloc (.cells #[x, y] t)).alloc (.cells #[x', y'] t) = W ∧ Pair W w.heap.size x y t ∧ Pair W (w.heap.size + 1) x' y' t ∧ Below w.heap.size w W := by
  have ea := below_alloc w (.cells #[x, y] t)
  have pa := Pair.new w x y t
  have sa : (w.alloc (.cells #[x, y] t)).heap.size = w.heap.size + 1 := Go.Deep.nblk_alloc _ _
  have eb := below_alloc (w.alloc (.cells #[x, y] t)) (.cells #[x', y'] t)
  have pb := Pair.new (w.alloc (.cells #[x, y] t)) x' y' t
  rw [sa] at pb
  exact ⟨_, rfl, pa.below eb, pb, ea.trans (eb.mono ea.size)⟩

theorem below_of_grown {w0 w w' : World} {g : Nat} (c : Below w0.heap.size w0 w) (h : w.grownBy w' (some g)) (hg : w0.heap.size ≤ g) : Below w0.heap.size w0 w' :=
  c.grown h c.size (fun b hb => by simp only [Option.some.injEq] at hb; omega)

set_option maxHeartbeats 1000000 in
theorem samePath {w : World} {u v : Value} {p q : List Int × List Int} (h : PathV w u p) (h' : PathV w v q) :
    Calls Try.prog 19 #[u, v] w fun e w' => e = .returned (.bool (decide (p = q))) ∧ Below w.heap.size w w' := by
  obtain ⟨u1, u2, rfl, i1, i2⟩ := h
  obtain ⟨v1, v2, rfl, j1, j2⟩ := h'
  obtain ⟨W, hW, pa, pb, hE⟩ := two_boxes2 w u1 u2 v1 v2 32
  have HW := Lib.hid hW
  have PA := Lib.hid pa
  have PB := Lib.hid pb
  have S1 := Lib.hid (sameInts (i1.below hE) (j1.below hE))
  have S2 := Lib.hid (fun (X : World) (c : Below W.heap.size W X) => sameInts ((i2.below hE).below c) ((j2.below hE).below c))
  have k0 := pa.cell0
  have k1 := pb.cell0
  clear hW pa pb i1 i2 j1 j2
  by_cases h1 : p.1 = q.1
  · rw [decide_eq_true h1] at S1
    have hd : decide (p = q) = decide (p.2 = q.2) := decide_eq_decide.2 ⟨fun e => by rw [e], fun e => Prod.ext h1 e⟩
    rw [hd]
    clear h1 hd
    go_enter Try.func19, Try.ntmps19
    go_upto_region 1 with fail
    rw [HW.out]
    go_wp2_with fail
    refine S1.out.mono ?_
    rintro e w1 ⟨rfl, b1⟩
    have k2 := (PA.out.below b1).cell1
    have k3 := (PB.out.below b1).cell1
    go_wp2_with fail
    refine (S2.out w1 b1).mono ?_
    rintro e w2 ⟨rfl, b2⟩
    go_wp2_with fail
    go_ret
    exact ⟨rfl, hE.trans ((b1.trans (b2.mono b1.size)).mono hE.size)⟩
  · rw [decide_eq_false h1] at S1
    have hd : decide (p = q) = false := decide_eq_false (fun e => h1 (by rw [e]))
    rw [hd]
    clear h1 hd
    go_enter Try.func19, Try.ntmps19
    go_upto_region 1 with fail
    rw [HW.out]
    go_wp2_with fail
    refine S1.out.mono ?_
    rintro e w1 ⟨rfl, b1⟩
    go_wp2_with fail
    go_ret
    exact ⟨rfl, hE.trans (b1.mono hE.size)⟩

/-- The sum of the first k numbers. -/
def sumTo (xs : List Int) : Nat → Int
  | 0 => 0
  | k + 1 => sumTo xs k + xs.getD k 0

/-! The law's sum, plainly. -/

/-- The runs of a path. -/
def runsTo (p : List Int × List Int) (k : Nat) : List Int := (List.range k).map fun i => p.2.getD i 0 - p.1.getD i 0
theorem runsTo_len (p : List Int × List Int) (k : Nat) : (runsTo p k).length = k := by simp [runsTo]
theorem runsTo_succ (p : List Int × List Int) (k : Nat) : runsTo p (k + 1) = runsTo p k ++ [p.2.getD k 0 - p.1.getD k 0] := by simp [runsTo, List.range_succ]
theorem runsTo_get (p : List Int × List Int) {k i : Nat} (h : i < k) : (runsTo p k).getD i 0 = p.2.getD i 0 - p.1.getD i 0 := by simp [runsTo, h]
theorem sumTo_runs (p : List Int × List Int) (n : Nat) : ∀ k, k < n → standsTo p.1 p.2 k + sumTo (runsTo p n) (k + 1) = p.2.getD k 0 - p.1.getD 0 0 := by
  intro k hk
  induction k with
  | zero =>
    have q : sumTo (runsTo p n) (0 + 1) = 0 + (runsTo p n).getD 0 0 := rfl
    have q2 : standsTo p.1 p.2 0 = 0 := rfl
    rw [q, q2, runsTo_get p hk]
    omega
  | succ k ih =>
    have h1 := ih (by omega)
    have q : sumTo (runsTo p n) (k + 1 + 1) = sumTo (runsTo p n) (k + 1) + (runsTo p n).getD (k + 1) 0 := rfl
    have q2 : standsTo p.1 p.2 (k + 1) = standsTo p.1 p.2 k + (p.1.getD (k + 1) 0 - p.2.getD k 0) := rfl
    rw [q, q2, runsTo_get p hk]
    omega
theorem sumTo_bounds {n : Int} {p : List Int × List Int} (h : pathB n p = true) : ∀ k, k ≤ p.1.length → 0 ≤ sumTo (runsTo p p.1.length) k ∧ sumTo (runsTo p p.1.length) k ≤ 2000 * k := by
  have hs := (pathB_is h).2.2.2
  intro k hk
  induction k with
  | zero => simp [sumTo]
  | succ k ih =>
    have h1 := ih (by omega)
    have h2 := hs.bounds (j := k) (by omega)
    have q : sumTo (runsTo p p.1.length) (k + 1) = sumTo (runsTo p p.1.length) k + (runsTo p p.1.length).getD k 0 := rfl
    rw [runsTo_get p (by omega)] at q
    omega
theorem get_getD (l : List Int) (i : Nat) (h : i < l.length) : l[i] = l.getD i 0 := by simp [List.getD_eq_getElem?_getD, h]
/-- Without stops the path is the one that its runs give, and the other way round. -/
theorem stands_zero {n : Int} {p : List Int × List Int} (h : pathB n p = true) (hshort : ∀ k, k < p.1.length → p.2.getD k 0 - p.1.getD k 0 ≤ 100) :
    (stands n p = 0) ↔ runB (p.1.getD 0 0) (runsTo p p.1.length) = true ∧ runOf (p.1.getD 0 0) (runsTo p p.1.length) = p := by
  obtain ⟨⟨hn1, hn5⟩, hx, hy, hs⟩ := pathB_is h
  have hst : stands n p = standsTo p.1 p.2 (p.1.length - 1) := by unfold stands; rw [h]; rfl
  have hlen := runsTo_len p p.1.length
  constructor
  · intro h0
    rw [hst] at h0
    have mono : ∀ j k, j ≤ k → k < p.1.length → standsTo p.1 p.2 j ≤ standsTo p.1 p.2 k := by
      intro j k hjk hk
      induction k with
      | zero => obtain rfl : j = 0 := by omega
                exact Int.le_refl _
      | succ k ih =>
        by_cases e : j = k + 1
        · subst e; exact Int.le_refl _
        · have h1 := ih (by omega) (by omega)
          have h3 := hs (k + 1) hk
          unfold secOk at h3
          rw [readyAt_succ] at h3
          have q2 : standsTo p.1 p.2 (k + 1) = standsTo p.1 p.2 k + (p.1.getD (k + 1) 0 - p.2.getD k 0) := rfl
          omega
    have zero : ∀ k, k < p.1.length → standsTo p.1 p.2 k = 0 := by
      intro k hk
      have h1 := mono k (p.1.length - 1) (by omega) (by omega)
      have h2 := (standsTo_bounds hs k hk).1
      omega
    have next : ∀ k, k + 1 < p.1.length → p.1.getD (k + 1) 0 = p.2.getD k 0 := by
      intro k hk
      have h1 := zero k (by omega)
      have h2 := zero (k + 1) hk
      have q2 : standsTo p.1 p.2 (k + 1) = standsTo p.1 p.2 k + (p.1.getD (k + 1) 0 - p.2.getD k 0) := rfl
      omega
    have run : ∀ k, k < p.1.length → runTo (p.1.getD 0 0) (runsTo p p.1.length) k = p.1.getD k 0 ∧ runTo (p.1.getD 0 0) (runsTo p p.1.length) (k + 1) = p.2.getD k 0 := by
      intro k hk
      induction k with
      | zero =>
        have q : runTo (p.1.getD 0 0) (runsTo p p.1.length) (0 + 1) = p.1.getD 0 0 + (runsTo p p.1.length).getD 0 0 := rfl
        rw [runsTo_get p hk] at q
        exact ⟨rfl, by omega⟩
      | succ k ih =>
        have h1 := (ih (by omega)).2
        have h2 := next k hk
        have q : runTo (p.1.getD 0 0) (runsTo p p.1.length) (k + 1 + 1) = runTo (p.1.getD 0 0) (runsTo p p.1.length) (k + 1) + (runsTo p p.1.length).getD (k + 1) 0 := rfl
        rw [runsTo_get p hk] at q
        exact ⟨by omega, by omega⟩
    have hr : runB (p.1.getD 0 0) (runsTo p p.1.length) = true := by
      refine runB_yes (by rw [hlen]; omega) (by rw [hlen]; omega) fun k hk => ?_
      rw [hlen] at hk
      obtain ⟨e1, e2⟩ := run k hk
      have bd := hs.bounds hk
      have sh := hshort k hk
      unfold runOk
      rw [runsTo_get p hk, e1, e2]
      omega
    refine ⟨hr, ?_⟩
    rw [runOf_yes hr, hlen]
    refine Prod.ext (List.ext_getElem (by rw [(pathTo_len _ _ _).1]) fun i h1 h2 => ?_) (List.ext_getElem (by rw [(pathTo_len _ _ _).2]; omega) fun i h1 h2 => ?_)
    · have hi : i < p.1.length := h2
      have e := (pathTo_get (start := p.1.getD 0 0) (rs := runsTo p p.1.length) hi).1
      rw [(run i hi).1] at e
      exact (get_getD _ i h1).trans (e.trans (get_getD _ i h2).symm)
    · have hi : i < p.1.length := by omega
      have e := (pathTo_get (start := p.1.getD 0 0) (rs := runsTo p p.1.length) hi).2
      rw [(run i hi).2] at e
      exact (get_getD _ i h1).trans (e.trans (get_getD _ i h2).symm)
  · rintro ⟨hr, he⟩
    rw [runOf_yes hr, hlen] at he
    have e1 : ∀ k, k < p.1.length → p.1.getD k 0 = runTo (p.1.getD 0 0) (runsTo p p.1.length) k := fun k hk => by
      have q := (pathTo_get (start := p.1.getD 0 0) (rs := runsTo p p.1.length) hk).1
      rw [he] at q
      exact q
    have e2 : ∀ k, k < p.1.length → p.2.getD k 0 = runTo (p.1.getD 0 0) (runsTo p p.1.length) (k + 1) := fun k hk => by
      have q := (pathTo_get (start := p.1.getD 0 0) (rs := runsTo p p.1.length) hk).2
      rw [he] at q
      exact q
    rw [hst]
    have all : ∀ k, k < p.1.length → standsTo p.1 p.2 k = 0 := by
      intro k hk
      induction k with
      | zero => rfl
      | succ k ih =>
        have h1 := ih (by omega)
        have q2 : standsTo p.1 p.2 (k + 1) = standsTo p.1 p.2 k + (p.1.getD (k + 1) 0 - p.2.getD k 0) := rfl
        rw [e1 (k + 1) hk, e2 k (by omega)] at q2
        omega
    exact all _ (by omega)

end Go.Proofs.Ytoebgdcgcdigaab
