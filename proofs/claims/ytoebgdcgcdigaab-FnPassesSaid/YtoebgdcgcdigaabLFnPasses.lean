/-
  For every input the law 'FnPasses' returns true, and each of its arguments reads behind the call as it read before. Conditions: none beyond those of the row.
-/
import Derived.Test.YtoebgdcgcdigaabRows
import Derived.WalkKit
import Derived.ProofKit
import Derived.OpenShut
import Derived.ShutString
import Derived.ChangeOld
import Derived.Below
import Derived.Deep.Matrix
import Derived.Test.YtoebgdcgcdigaabIo
import Derived.Test.YtoebgdcgcdigaabDrawV
import Derived.Test.YtoebgdcgcdigaabPassP
import Derived.Test.YtoebgdcgcdigaabGapP
import Derived.Test.YtoebgdcgcdigaabLateQ
import Derived.Test.YtoebgdcgcdigaabPass
import Derived.Test.YtoebgdcgcdigaabPassI
import Derived.Test.YtoebgdcgcdigaabAddI
import Derived.Test.YtoebgdcgcdigaabAdd
import Derived.Test.YtoebgdcgcdigaabGap
import Derived.Test.YtoebgdcgcdigaabSort
namespace Go.Proofs.Ytoebgdcgcdigaab
open Go.RowKit

open Go.Sort

/-- What paths of a line are, seen from any two. -/
theorem pathsB_two {n : Int} {ps : List (List Int × List Int)} (h : pathsB n ps = true) {i j : Nat} (hi : i < ps.length) (hj : j < ps.length) (hij : i ≠ j) : clashOf n (ps.getD i noPath) (ps.getD j noPath) = [] := by
  rcases Nat.lt_or_gt_of_ne hij with q | q
  · rw [clashOf_sym]
    exact (rowB_is ((pathsB_is h).2.2 j hj)).2 i q
  · exact (rowB_is ((pathsB_is h).2.2 i hi)).2 j q
theorem pathsB_sub {n : Int} {ps qs : List (List Int × List Int)} (h : pathsB n ps = true) (σ : Nat → Nat) (h8 : qs.length ≤ ps.length) (hσ : ∀ i, i < qs.length → σ i < ps.length ∧ qs.getD i noPath = ps.getD (σ i) noPath)
    (hinj : ∀ i j, i < qs.length → j < i → σ i ≠ σ j) : pathsB n qs = true := by
  obtain ⟨h1, h2, h3⟩ := pathsB_is h
  refine pathsB_yes h1.1 h1.2 (by omega) fun i hi => ?_
  obtain ⟨a1, a2⟩ := hσ i hi
  refine rowB_yes (by rw [a2]; exact pathsB_at h a1) fun j hj => ?_
  obtain ⟨b1, b2⟩ := hσ j (by omega)
  rw [a2, b2]
  exact pathsB_two h a1 b1 (hinj i j hi hj)
theorem pathsB_take {n : Int} {ps : List (List Int × List Int)} (h : pathsB n ps = true) (k : Nat) : pathsB n (ps.take k) = true := by
  refine pathsB_sub h id (by simp; omega) (fun i hi => ?_) fun i j _ hj => by simp only [id]; omega
  have hl : i < k ∧ i < ps.length := by rw [List.length_take] at hi; omega
  exact ⟨hl.2, by simp only [List.getD_eq_getElem?_getD, List.getElem?_take, if_pos hl.1, id]⟩
theorem reverse_getD {ps : List (List Int × List Int)} {i : Nat} (hi : i < ps.length) : ps.reverse.getD i noPath = ps.getD (ps.length - 1 - i) noPath := by
  rw [List.getD_eq_getElem?_getD, List.getD_eq_getElem?_getD, List.getElem?_reverse hi]
theorem pathsB_reverse {n : Int} {ps : List (List Int × List Int)} (h : pathsB n ps = true) : pathsB n ps.reverse = true := by
  refine pathsB_sub h (fun i => ps.length - 1 - i) (by simp) (fun i hi => ?_) fun i j hi hj => ?_
  · rw [List.length_reverse] at hi
    exact ⟨by omega, reverse_getD hi⟩
  · rw [List.length_reverse] at hi
    show ps.length - 1 - i ≠ ps.length - 1 - j
    omega
/-- All but one. -/
theorem but_getD {ps : List (List Int × List Int)} {m i : Nat} (hm : m < ps.length) (_hi : i + 1 < ps.length) : (ps.take m ++ ps.drop (m + 1)).getD i noPath = ps.getD (if i < m then i else i + 1) noPath := by
  have hl : (ps.take m).length = m := by rw [List.length_take]; omega
  by_cases q : i < m
  · rw [if_pos q, List.getD_eq_getElem?_getD, List.getElem?_append_left (by omega), List.getD_eq_getElem?_getD, List.getElem?_take, if_pos q]
  · rw [if_neg q, List.getD_eq_getElem?_getD, List.getElem?_append_right (by omega), List.getD_eq_getElem?_getD, List.getElem?_drop, hl, show m + 1 + (i - m) = i + 1 by omega]
theorem but_len {ps : List (List Int × List Int)} {m : Nat} (hm : m < ps.length) : (ps.take m ++ ps.drop (m + 1)).length = ps.length - 1 := by
  rw [List.length_append, List.length_take, List.length_drop]; omega
theorem pathsB_but {n : Int} {ps : List (List Int × List Int)} (h : pathsB n ps = true) {m : Nat} (hm : m < ps.length) : pathsB n (ps.take m ++ ps.drop (m + 1)) = true := by
  have hl := but_len hm
  refine pathsB_sub h (fun i => if i < m then i else i + 1) (by omega) (fun i hi => ?_) fun i j _ hj => ?_
  · rw [hl] at hi
    refine ⟨?_, but_getD hm (by omega)⟩
    split <;> omega
  · show (if i < m then i else i + 1) ≠ (if j < m then j else j + 1)
    split <;> split <;> omega
/-- A path twice: no paths of a line. -/
theorem pathsB_twice {n : Int} {ps : List (List Int × List Int)} {j : Nat} (hj : j < ps.length) : pathsB n (ps ++ [ps.getD j noPath]) = false := by
  cases h : pathsB n (ps ++ [ps.getD j noPath])
  · rfl
  have e := pathsB_two h (i := ps.length) (j := j) (by simp) (by simp; omega) (by omega)
  rw [add_last, add_getD _ _ hj] at e
  have hb := pathsB_at h (i := j) (by simp; omega)
  rw [add_getD _ _ hj] at hb
  have c := clash_self hb
  have hn := (pathB_is hb).1
  rw [e] at c
  simp only [List.length_nil] at c
  omega

theorem addTo_succ' (f : Nat → Int) (n : Nat) : addTo f (n + 1) = f 0 + addTo (fun i => f (i + 1)) n := by
  induction n with
  | zero => simp [addTo]
  | succ n ih =>
    rw [show addTo f (n + 1 + 1) = addTo f (n + 1) + f (n + 1) from rfl, ih]
    simp only [addTo]
    omega
theorem addTo_rev (f : Nat → Int) (n : Nat) : addTo (fun i => f (n - 1 - i)) n = addTo f n := by
  induction n generalizing f with
  | zero => rfl
  | succ n ih =>
    rw [addTo_succ']
    have e : addTo (fun i => f (n + 1 - 1 - (i + 1))) n = addTo f n := by
      rw [← ih f]
      exact addTo_congr fun i hi => by rw [show n + 1 - 1 - (i + 1) = n - 1 - i by omega]
    rw [e]
    simp only [addTo, Nat.add_sub_cancel, Nat.sub_zero]
    omega
/-- All pairs, once. -/
def lowSum (a : Nat → Nat → Int) (n : Nat) : Int := addTo (fun i => addTo (a i) i) n
theorem full_low {a : Nat → Nat → Int} {N : Nat} (hs : ∀ i j, i < N → j < N → a i j = a j i) (h0 : ∀ i, a i i = 0) : ∀ n, n ≤ N → addTo (fun i => addTo (a i) n) n = 2 * lowSum a n := by
  intro n
  induction n with
  | zero => intro _; rfl
  | succ n ih =>
    intro hn
    have e1 : addTo (fun i => addTo (a i) (n + 1)) (n + 1) = addTo (fun i => addTo (a i) n + a i n) n + (addTo (a n) n + a n n) := rfl
    have e2 : lowSum a (n + 1) = lowSum a n + addTo (a n) n := rfl
    have e3 : addTo (fun i => a i n) n = addTo (a n) n := addTo_congr fun i hi => hs i n (by omega) (by omega)
    rw [e1, addTo_add, ih (by omega), e3, h0, e2]
    omega
theorem low_rev {a : Nat → Nat → Int} {n : Nat} (hs : ∀ i j, i < n → j < n → a i j = a j i) (h0 : ∀ i, a i i = 0) : lowSum (fun i j => a (n - 1 - i) (n - 1 - j)) n = lowSum a n := by
  have e1 := full_low hs h0 n (Nat.le_refl _)
  have e2 := full_low (a := fun i j => a (n - 1 - i) (n - 1 - j)) (N := n) (fun i j hi hj => hs _ _ (by omega) (by omega)) (fun i => h0 _) n (Nat.le_refl _)
  have e3 : addTo (fun i => addTo (fun j => a (n - 1 - i) (n - 1 - j)) n) n = addTo (fun i => addTo (a i) n) n := by
    rw [← addTo_rev (fun i => addTo (a i) n) n]
    exact addTo_congr fun i _ => addTo_rev (a (n - 1 - i)) n
  omega
/-- In a section two trains enter at two times. -/
theorem in_apart {n : Int} {ps : List (List Int × List Int)} (h : pathsB n ps = true) {i j k : Nat} (hi : i < ps.length) (hj : j < ps.length) (hij : i ≠ j) (hk : (k : Int) < n) : inAt ps k i ≠ inAt ps k j := by
  have a := apart_at h hi hj hij hk
  have b1 := sec_bounds h hi hk
  have b2 := sec_bounds h hj hk
  unfold inAt outAt at *
  omega
theorem ahead_not {n : Int} {ps : List (List Int × List Int)} (h : pathsB n ps = true) {i j k : Nat} (hi : i < ps.length) (hj : j < ps.length) (hij : i ≠ j) (hk : (k : Int) < n) : aheadB ps j i k = !aheadB ps i j k := by
  have a := in_apart h hi hj hij hk
  unfold inAt at a
  unfold aheadB
  by_cases q : (ps.getD i noPath).1.getD k 0 < (ps.getD j noPath).1.getD k 0
  · rw [decide_eq_true q, decide_eq_false (by omega)]; rfl
  · rw [decide_eq_false q, decide_eq_true (by omega)]; rfl
theorem passAt_sym {n : Int} {ps : List (List Int × List Int)} (h : pathsB n ps = true) {i j k : Nat} (hi : i < ps.length) (hj : j < ps.length) (hij : i ≠ j) (hk : (k : Int) + 1 < n) : passAt ps j i k = passAt ps i j k := by
  unfold passAt
  rw [ahead_not h hi hj hij (k := k) (by omega), ahead_not h hi hj hij (k := k + 1) (by omega)]
  cases aheadB ps i j k <;> cases aheadB ps i j (k + 1) <;> rfl
/-- How often two trains pass one another; a train does not pass itself. -/
def pairS (ps : List (List Int × List Int)) (m i j : Nat) : Int := if i = j then 0 else passS3 ps i j m
theorem pairS_low (ps : List (List Int × List Int)) (m n : Nat) : passS1 ps m n = lowSum (pairS ps m) n := by
  unfold passS1 passS2 lowSum
  refine addTo_congr fun i _ => addTo_congr fun j hj => ?_
  unfold pairS
  rw [if_neg (by omega)]
theorem pairS_sym {n : Int} {ps : List (List Int × List Int)} (h : pathsB n ps = true) {i j : Nat} (hi : i < ps.length) (hj : j < ps.length) : pairS ps (n - 1).toNat i j = pairS ps (n - 1).toNat j i := by
  have hn := (pathsB_is h).1
  unfold pairS
  by_cases e : i = j
  · rw [if_pos e, if_pos e.symm]
  · rw [if_neg e, if_neg fun q => e q.symm]
    exact addTo_congr fun k hk => passAt_sym h hj hi (fun q => e q.symm) (by omega)
theorem passes_back {n : Int} {ps : List (List Int × List Int)} (h : pathsB n ps = true) : passesOf n ps.reverse = passesOf n ps := by
  rw [passesOf_yes (pathsB_reverse h), passesOf_yes h, ← pass_same, ← pass_same, pairS_low, pairS_low, List.length_reverse]
  have key := low_rev (a := pairS ps (n - 1).toNat) (n := ps.length) (fun i j hi hj => pairS_sym h hi hj) (fun i => by unfold pairS; rw [if_pos rfl])
  rw [← key]
  unfold lowSum
  refine addTo_congr fun i hi => addTo_congr fun j hj => ?_
  show pairS ps.reverse (n - 1).toNat i j = pairS ps (n - 1).toNat (ps.length - 1 - i) (ps.length - 1 - j)
  unfold pairS
  rw [if_neg (by omega), if_neg (by omega)]
  refine addTo_congr fun k _ => ?_
  unfold passAt aheadB
  rw [reverse_getD hi, reverse_getD (show j < ps.length by omega)]

theorem addTo_none {f : Nat → Int} {n : Nat} (hf : ∀ i, i < n → 0 ≤ f i) (h : addTo f n = 0) : ∀ i, i < n → f i = 0 := by
  induction n with
  | zero => intro i hi; omega
  | succ n ih =>
    have h0 : 0 ≤ addTo f n := by
      have pos : ∀ m, m ≤ n → 0 ≤ addTo f m := by
        intro m
        induction m with
        | zero => intro _; exact Int.le_refl _
        | succ m im =>
          intro hm
          have := im (by omega)
          have := hf m (by omega)
          simp only [addTo]
          omega
      exact pos n (Nat.le_refl _)
    have h1 := hf n (by omega)
    simp only [addTo] at h
    intro i hi
    by_cases e : i = n
    · subst e; omega
    · exact ih (fun j hj => hf j (by omega)) (by omega) i (by omega)
/-- The order of a section tells who is ahead. -/
theorem order_ahead {n : Int} {ps : List (List Int × List Int)} (h : pathsB n ps = true) {k a b : Nat} (hk : (k : Int) < n) (hab : a < b) (hb : b < ps.length) :
    aheadB ps ((orderOf ps k).getD a 0).toNat ((orderOf ps k).getD b 0).toNat k = true := by
  obtain ⟨x0, xl⟩ := order_get (ps := ps) (k := k) (m := a) (by rw [order_len]; omega)
  obtain ⟨y0, yl⟩ := order_get (ps := ps) (k := k) (m := b) (by rw [order_len]; omega)
  obtain ⟨t1, t2⟩ := order_two (ps := ps) (k := k) hab hb
  have ap := in_apart h xl yl (by omega) hk
  unfold inAt at *
  unfold aheadB
  exact decide_eq_true (by omega)
theorem ordTo_cmp {f g : Int → Int} : ∀ (i : Nat), (∀ a b : Nat, a < i → b < i → a ≠ b → (f a < f b ↔ g a < g b)) → ordTo f i = ordTo g i := by
  intro i
  induction i with
  | zero => intro _; rfl
  | succ i ih =>
    intro h
    show insI f i (ordTo f i) = insI g i (ordTo g i)
    rw [ih fun a b ha hb hab => h a b (by omega) (by omega) hab]
    have hm : ∀ y, y ∈ ordTo g i → ∃ j : Nat, j < i ∧ y = j := fun y hy => ordTo_mem.1 hy
    revert hm
    generalize ordTo g i = L
    intro hm
    induction L with
    | nil => rfl
    | cons y ys ihl =>
      obtain ⟨j, hj, rfl⟩ := hm y (by simp)
      have q := h j i (by omega) (by omega) (by omega)
      unfold insI
      by_cases e : f j < f i
      · rw [if_pos e, if_pos (q.1 e), ihl fun z hz => hm z (by simp [hz])]
      · rw [if_neg e, if_neg fun c => e (q.2 c)]
/-- All sections have the order of the first. -/
def OneOrder (ps : List (List Int × List Int)) (n : Nat) : Prop := ∀ k, k < n → orderOf ps k = orderOf ps 0
theorem pass_none {n : Int} {ps : List (List Int × List Int)} (h : pathsB n ps = true) : passesOf n ps = 0 ↔ OneOrder ps n.toNat := by
  have hn := (pathsB_is h).1
  have same : passesOf n ps = 0 ↔ ∀ i j k, i < ps.length → j < i → k < (n - 1).toNat → aheadB ps i j k = aheadB ps i j (k + 1) := by
    rw [passesOf_yes h, ← pass_same]
    constructor
    · intro e i j k hi hj hk
      have e1 := addTo_none (fun i _ => by
        have := addTo_bounds (c := (n - 1).toNat) (n := i) (f := fun j => passS3 ps i j (n - 1).toNat) (fun j _ => passS3_bounds ps i j _)
        exact this.1) e i hi
      have e2 := addTo_none (fun j _ => (passS3_bounds ps i j _).1) e1 j hj
      have e3 := addTo_none (fun k _ => (passAt_bounds ps i j k).1) e2 k hk
      unfold passAt at e3
      cases a : aheadB ps i j k <;> cases b : aheadB ps i j (k + 1) <;> rw [a, b] at e3 <;> first | rfl | (simp at e3)
    · intro e
      have z : ∀ i, i < ps.length → passS2 ps (n - 1).toNat i i = 0 := fun i hi => by
        unfold passS2
        rw [show addTo (fun j => passS3 ps i j (n - 1).toNat) i = addTo (fun _ => 0) i from addTo_congr fun j hj => by
          unfold passS3
          rw [show addTo (passAt ps i j) (n - 1).toNat = addTo (fun _ => 0) (n - 1).toNat from addTo_congr fun k hk => by
            unfold passAt
            rw [e i j k hi hj hk]
            simp]
          exact addTo_zero _]
        exact addTo_zero _
      unfold passS1
      rw [show addTo (fun i => passS2 ps (n - 1).toNat i i) ps.length = addTo (fun _ => 0) ps.length from addTo_congr z]
      exact addTo_zero _
  rw [same]
  constructor
  · intro e k hk
    have all : ∀ i j, i < ps.length → j < i → aheadB ps i j k = aheadB ps i j 0 := by
      intro i j hi hj
      induction k with
      | zero => rfl
      | succ k ih => rw [← e i j k hi hj (by omega), ih (by omega)]
    refine ordTo_cmp ps.length fun a b ha hb hab => ?_
    have key : aheadB ps a b k = aheadB ps a b 0 := by
      rcases Nat.lt_or_gt_of_ne hab with q | q
      · have c := all b a hb q
        rw [ahead_not h ha hb hab (k := k) (by omega), ahead_not h ha hb hab (k := 0) (by omega)] at c
        cases x : aheadB ps a b k <;> cases y : aheadB ps a b 0 <;> rw [x, y] at c <;> first | rfl | cases c
      · exact all a b ha q
    unfold aheadB at key
    show inAt ps k ((a : Int)).toNat < inAt ps k ((b : Int)).toNat ↔ inAt ps 0 ((a : Int)).toNat < inAt ps 0 ((b : Int)).toNat
    rw [Int.toNat_natCast, Int.toNat_natCast]
    exact decide_eq_decide.1 key
  · intro e i j k hi hj hk
    have one : ∀ k, k < n.toNat → aheadB ps i j k = aheadB ps i j 0 := by
      intro k hk
      obtain ⟨a, ha, ea⟩ := order_place (ps := ps) (k := 0) hi
      obtain ⟨b, hb, eb⟩ := order_place (ps := ps) (k := 0) (show j < ps.length by omega)
      have hab : a ≠ b := fun q => by rw [q, eb] at ea; omega
      have ek := e k hk
      rcases Nat.lt_or_gt_of_ne hab with q | q
      · have x1 := order_ahead h (k := k) (by omega) q hb
        have x0 := order_ahead h (k := 0) (by omega) q hb
        rw [ek] at x1
        rw [ea, eb, Int.toNat_natCast, Int.toNat_natCast] at x1 x0
        rw [x1, x0]
      · have x1 := order_ahead h (k := k) (by omega) q ha
        have x0 := order_ahead h (k := 0) (by omega) q ha
        rw [ek] at x1
        rw [ea, eb, Int.toNat_natCast, Int.toNat_natCast] at x1 x0
        rw [ahead_not h (show j < ps.length by omega) hi (by omega) (k := k) (by omega), ahead_not h (show j < ps.length by omega) hi (by omega) (k := 0) (by omega), x1, x0]
    rw [one k (by omega), one (k + 1) (by omega)]

/-- Have the first sections the order of the first one? -/
def oneTo (ps : List (List Int × List Int)) : Nat → Bool
  | 0 => true
  | k + 1 => oneTo ps k && decide (orderOf ps (k + 1) = orderOf ps 0)
theorem oneTo_is (ps : List (List Int × List Int)) : ∀ k, oneTo ps k = true ↔ ∀ j, j ≤ k → orderOf ps j = orderOf ps 0 := by
  intro k
  induction k with
  | zero => exact ⟨fun _ j hj => by rw [show j = 0 by omega], fun _ => rfl⟩
  | succ k ih =>
    unfold oneTo
    rw [Bool.and_eq_true, ih, decide_eq_true_eq]
    constructor
    · rintro ⟨a, b⟩ j hj
      by_cases e : j = k + 1
      · rw [e]; exact b
      · exact a j (by omega)
    · exact fun h => ⟨fun j hj => h j (by omega), h _ (Nat.le_refl _)⟩
theorem pass_one {n : Nat} {ps : List (List Int × List Int)} (h : pathsB (n : Int) ps = true) : (passesOf (n : Int) ps == 0) = oneTo ps (n - 1) := by
  have hn := (pathsB_is h).1
  have q := pass_none h
  have q2 := oneTo_is ps (n - 1)
  rw [Int.toNat_natCast] at q
  by_cases e : passesOf (n : Int) ps = 0
  · rw [q2.2 fun j hj => q.1 e j (by omega)]
    simpa using e
  · have e2 : oneTo ps (n - 1) = false := by
      cases c : oneTo ps (n - 1)
      · rfl
      · exact absurd (q.2 fun j hj => q2.1 c j (by omega)) e
    rw [e2]
    simpa using e
theorem old_part {w w' : World} {base b b' : Nat} {u : Value} {xs : List Int} (h : Part w base b u xs) (hb : Below w.heap.size w w') (hle : w.heap.size ≤ b') : Part w' base b' u xs := by
  refine ⟨h.1.below hb, ?_⟩
  by_cases h0 : xs = []
  · exact .inl h0
  · exact .inr fun q e => ⟨(h.2.resolve_left h0 q e).1, by have := part_lt h.1 h0 q e; omega⟩
theorem addr_add (b j : Nat) : (⟨b, 0, none⟩ : Addr).add j = ⟨b, j, none⟩ := by
  unfold Addr.add
  split
  · rename_i h; rw [h]
  · simp
theorem take_rev (ps : List (List Int × List Int)) {m : Nat} (h : m < ps.length) : ps.reverse.take (m + 1) = ps.reverse.take m ++ [ps.getD (ps.length - 1 - m) noPath] := by
  rw [List.take_add_one, List.getElem?_reverse h, List.getD_eq_getElem?_getD, List.getElem?_eq_getElem (by omega)]
  rfl

set_option maxRecDepth 100000 in
set_option maxHeartbeats 8000000 in
theorem walk_FnPasses (a0 : Option Addr) (len0 cap0 : Nat) (z0 : List Int) (w : World) (w0 : IsRowK .u8 w a0 len0 cap0 z0) :
    Calls Try.prog 3 #[.slice a0 len0 cap0] w fun e w' => e = .returned (.bool true) ∧ Below w.heap.size w w' := by
  rcases Nat.lt_or_ge 1048576 len0 with hbig | hsm
  · have hb : (1048576 : Int) < (len0 : Int) := by omega
    go_enter Try.func3, Try.ntmps3
    go_wp2_with fail
    go_ret
    exact ⟨rfl, Below.refl _ _⟩
  have hb : (len0 : Int) ≤ 1048576 := by omega
  have DS := Lib.hid (drawPasses w0 hsm)
  clear w0
  go_enter Try.func3, Try.ntmps3
  go_wp2_with (go_at_call 8; refine DS.out.mono ?_)
  rintro e w1 ⟨n, b, c, vs, ps, rfl, hn1, hn4, hpl, lq, b1⟩
  have hpp := lq.paths (by omega)
  have GI := Lib.hid (implPasses (n := (n : Int)) hpp)
  have GS := Lib.hid (fun (X : World) (hX : Below w1.heap.size w1 X) => specPasses (n := (n : Int)) (hpp.below hX))
  have GO := Lib.hid (fun (X : World) (hX : Below w1.heap.size w1 X) (k : Int) => implOrder (n := (n : Int)) (k := k) (hpp.below hX))
  obtain ⟨V, hV⟩ : ∃ V, V = passesOf (n : Int) ps := ⟨_, rfl⟩
  rw [← hV] at GI GS
  have HV := Lib.hid hV
  have HLQ := Lib.hid lq
  have B1 := Lib.hid b1
  have hszw := b1.size
  clear hpp lq DS b1 hV
  go_wp2_with (go_at_call 9; refine GI.out.mono ?_)
  rintro e w2 ⟨rfl, b2⟩
  go_wp2_with (go_at_call 10; refine (GS.out _ b2).mono ?_)
  rintro e w3 ⟨rfl, b3⟩
  have C3 := Lib.hid (b2.trans (b3.mono b2.size))
  clear b2 b3 GI GS
  have hVV : (V != V) = false := by simp
  have hVe : (V == V) = true := by simp
  by_cases hneg : V < 0
  · have hd : decide (V < 0) = true := decide_eq_true hneg
    have CE := Lib.hid (B1.out.trans (C3.out.mono B1.out.size))
    go_wp2_with fail
    go_ret
    exact ⟨rfl, CE.out⟩
  have hd : decide (V < 0) = false := decide_eq_false hneg
  have hpb : pathsB (n : Int) ps = true := by
    cases e : pathsB (n : Int) ps
    · have := HV.out; rw [passesOf_no e] at this; omega
    · rfl
  have PB := Lib.hid hpb
  have P1o := pass_one hpb
  rw [← HV.out] at P1o
  have P1 := Lib.hid P1o
  clear P1o
  have OF := Lib.hid (fun (X : World) (hX : Below w3.heap.size w3 X) (k : Nat) (hk : k < n) => by
    have hh := hasB_yes hpb (k := (k : Int)) ⟨by omega, by omega⟩
    have e1 : ordV (n : Int) ps (k : Int) = orderOf ps k := by unfold ordV; rw [hh, if_pos rfl, Int.toNat_natCast]
    have q := GO.out _ (C3.out.trans (hX.mono C3.out.size)) k
    rw [e1, hh] at q
    exact q)
  have O0 := OF.out _ (Below.refl _ _) 0 (by omega)
  have hl0 : (orderOf ps 0).length ≤ 1048576 := by rw [order_len]; omega
  have O0 := Lib.hid O0
  have hlk : ∀ k, (orderOf ps k).length ≤ 1048576 := fun k => by rw [order_len]; omega
  have HLK := Lib.hid hlk
  clear hpb hlk hneg GO
  go_wp2_with (go_at_call 11; refine O0.out.mono ?_)
  rintro e w4 ⟨v4, rfl, o4, b4⟩
  obtain ⟨a4, d4, rfl⟩ := own_slice2 o4
  have I4 := Lib.hid (o4.ints hl0)
  have C4 := Lib.hid b4
  clear o4 b4 O0 hl0
  go_wp2_with fail
  go_loopw [7, 10] (fun sv kv wr => ∃ k : Nat, k + 1 ≤ n ∧ kv = .int .i64 ((k : Int) + 1) ∧ sv = .bool (oneTo ps k) ∧ Below w4.heap.size w4 wr) (fun _ kv _ => n - (intOf kv).toNat)
  case atStart => exact ⟨0, by omega, rfl, rfl, Below.refl _ _⟩
  case round =>
    obtain ⟨k, hk, rfl, rfl, hbel⟩ := hrel
    by_cases hkn : k + 1 < n
    · have hki : (k : Int) + 1 < (n : Int) := by omega
      have OK := Lib.hid (OF.out _ (C4.out.trans (hbel.mono C4.out.size)) (k + 1) hkn)
      have I4' := Lib.hid (I4.out.below hbel)
      have BB := Lib.hid hbel
      have ON := Lib.hid (show oneTo ps (k + 1) = (oneTo ps k && decide (orderOf ps (k + 1) = orderOf ps 0)) from rfl)
      obtain ⟨t, ht⟩ : ∃ t, t = oneTo ps k := ⟨_, rfl⟩
      rw [← ht] at ON ⊢
      have hcast : ((k + 1 : Nat) : Int) = (k : Int) + 1 := rfl
      rw [hcast] at OK
      have HLL := HLK.out (k + 1)
      have hl0 := HLK.out 0
      generalize hx : orderOf ps (k + 1) = x at OK ON HLL
      generalize hy : orderOf ps 0 = y at I4' ON hl0
      clear ht hcast hbel hx hy
      go_wp2_with (go_at_call 11; refine OK.out.mono ?_)
      rintro e w5 ⟨v5, rfl, o5, b5⟩
      obtain ⟨a5, d5, rfl⟩ := own_slice2 o5
      have SI := Lib.hid (sameInts (o5.ints HLL) (I4'.out.below b5))
      have B5 := Lib.hid (BB.out.trans (b5.mono BB.out.size))
      clear o5 b5
      cases t
      · have HN := Lib.hid (show oneTo ps (k + 1) = false from ON.out)
        go_wp2_with fail
        go_roundw
        case rel => exact ⟨k + 1, by omega, by go_num, by rw [HN.out], B5.out⟩
        case measure => simp [intOf]; omega
      · have HN := Lib.hid (show oneTo ps (k + 1) = decide (x = y) from ON.out)
        go_wp2_with (go_at_call 12; refine SI.out.mono ?_; rintro e w6 ⟨rfl, b6⟩)
        have B6 := Lib.hid (B5.out.trans (b6.mono B5.out.size))
        clear b6
        go_roundw
        case rel => exact ⟨k + 1, by omega, by go_num, by rw [HN.out], B6.out⟩
        case measure => simp [intOf]; omega
    · have P2o := P1.out
      rw [show n - 1 = k by omega] at P2o
      generalize oneTo ps k = t at P2o
      have P2 := Lib.hid P2o
      clear P2o
      have hwl : wrap64 ((ps.length : Int) - 1) = (ps.length : Int) - 1 := IntWalk.wrap64_in _ (by omega)
      have hki : ¬ (k : Int) + 1 < (n : Int) := by omega
      have C4 := Lib.hid (C3.out.trans ((C4.out.trans (hbel.mono C4.out.size)).mono C3.out.size))
      obtain ⟨w5, hw5⟩ : ∃ X, X = wr := ⟨_, rfl⟩
      rw [← hw5] at C4 ⊢
      have L0 := Lib.hid (LQ.empty (w := w5) (base := w.heap.size) (Nat.le_trans hszw C4.out.size))
      have hal := below_alloc w5 (.cells #[] 32)
      obtain ⟨i0, hi, hz0, hz1, hz2⟩ := info_parts info_path
      clear hbel hw5
      go_wp2_with fail
      go_loopw [13, 14] (fun rv iv ws => ∃ (m b' c' : Nat) (vs' : List Value), m ≤ ps.length ∧ iv = .int .i64 ((ps.length : Int) - 1 - m) ∧ rv = .slice (some ⟨b', 0, none⟩) m c' ∧ LQ ws w.heap.size b' c' vs' (ps.reverse.take m) ∧ w5.heap.size ≤ b' ∧ Below w5.heap.size w5 ws) (fun _ iv _ => (intOf iv + 1).toNat)
      case atStart => exact ⟨0, _, 0, [], by omega, by go_num, rfl, L0.out, Nat.le_refl _, hal⟩
      case round =>
        obtain ⟨m, b', c', vs', hm, rfl, rfl, lq', hb5, hbs⟩ := hrel
        have hlt' : (ps.reverse.take m).length = m := by rw [List.length_take, List.length_reverse]; omega
        have hcw := C4.out.trans (hbs.mono C4.out.size)
        by_cases hml : m < ps.length
        · obtain ⟨i, hi'⟩ : ∃ i, i = ps.length - 1 - m := ⟨_, rfl⟩
          have hii : i < ps.length := by omega
          have hiv : (ps.length : Int) - 1 - m = (i : Int) := by omega
          have TR := Lib.hid (take_rev ps hml)
          rw [← hi'] at TR
          have hln := HLQ.out.len
          obtain ⟨u1, hu1⟩ : ∃ u, vs[i * 2]? = some u := ⟨_, List.getElem?_eq_getElem (by omega)⟩
          obtain ⟨u2, hu2⟩ : ∃ u, vs[i * 2 + 1]? = some u := ⟨_, List.getElem?_eq_getElem (by omega)⟩
          have k1 := (hcw.cell (p := ⟨b, i * 2, none⟩) HLQ.out.lt.2).trans (show w1.cell? ⟨b, i * 2, none⟩ = some u1 from addr_add b (i * 2) ▸ HLQ.out.cell hu1)
          have k2 := (hcw.cell (p := ⟨b, i * 2 + 1, none⟩) HLQ.out.lt.2).trans (show w1.cell? ⟨b, i * 2 + 1, none⟩ = some u2 from addr_add b (i * 2 + 1) ▸ HLQ.out.cell hu2)
          obtain ⟨t1, t2⟩ := HLQ.out.2 i hii
          rw [List.getD_eq_getElem?_getD, hu1, Option.getD_some] at t1
          rw [List.getD_eq_getElem?_getD, hu2, Option.getD_some] at t2
          have t1 := old_part t1 hcw (Nat.le_trans C4.out.size hb5)
          have t2 := old_part t2 hcw (Nat.le_trans C4.out.size hb5)
          obtain ⟨x1, y1, rfl, -⟩ := t1.1
          obtain ⟨x2, y2, rfl, -⟩ := t2.1
          generalize (ps.getD i noPath).1.length = z1 at k1 t1
          generalize (ps.getD i noPath).2.length = z2 at k2 t2
          have T1 := Lib.hid (And.intro t1 t2)
          have LL := Lib.hid lq'
          have ho : wr.ownsRow w.heap.size 32 2 (.slice (some ⟨b', 0, none⟩) m c') m vs' := by have := lq'.1; rw [hlt'] at this; exact this
          have BS := Lib.hid hbs
          have hsz := hbs.size
          have h0i : ¬ ((i : Int) < 0) := by omega
          have hipl : (i : Int) < (ps.length : Int) := by omega
          have hw1 : wrap64 ((i : Int) - 1) = (i : Int) - 1 := IntWalk.wrap64_in _ (by omega)
          have hwl5 := Nat.le_trans hszw C4.out.size
          rw [hiv]
          have HI := Lib.hid (And.intro hi' hiv)
          clear hi' hiv
          go_wp2_with (at_builtin; refine wpList_append_own_at _ rfl _ _ 23 rfl w.heap.size 32 i0 (.agg #[.slice none 0 0, .slice none 0 0]) 2 48 Try.underlying23 hi hz0 hz1 hz2 rfl (by decide) _ m vs' rfl (ho.alloc _) ⟨wr.heap.size, 0, none⟩ 1 1 [.slice x1 z1 y1, .slice x2 z2 y2] rfl rfl ?c1 ?c2 ?c3 ?c4 ?c5 ?_)
          case c2 => exact ⟨rfl, rfl⟩
          case c3 => simp only [maxLen]; omega
          case c4 => omega
          case c5 => omega
          intro v' w6 hown hgrow _ hat'
          obtain ⟨b2, c2, rfl, lq2⟩ := LL.out.pushed T1.out.1 T1.out.2 (by rw [hlt']; exact hown) hgrow (by first | exact hat' | (rw [Go.Deep.nblk_alloc] at hat'; exact hat'))
          rw [← TR.out] at lq2
          have hb2 : w5.heap.size ≤ b2 := by
            rcases hat' with e | e
            · simp only [Value.ownBlock, Option.some.injEq] at e; omega
            · simp only [Value.ownBlock, Option.some.injEq] at e; omega
          have LF := Lib.hid lq2
          have BF := Lib.hid ((BS.out.alloc hsz (.cells #[.slice x1 z1 y1, .slice x2 z2 y2] 32)).grown hgrow (by rw [Go.Deep.nblk_alloc]; omega) (fun c hc => by simp only [Value.ownBlock, Option.some.injEq] at hc; omega))
          rw [hlt']
          clear lq2 hown hgrow hat' ho lq' t1 t2 k1 k2 hbs
          go_wp2_with fail
          go_roundw
          case rel => exact ⟨m + 1, b2, c2, _, by omega, by have := HI.out.2; go_num, rfl, LF.out, hb2, BF.out⟩
          case measure => have := HI.out.2; simp [intOf]
        · obtain rfl : m = ps.length := by omega
          have hneg1 : (ps.length : Int) - 1 - (ps.length : Int) = -1 := by omega
          rw [show ps.reverse.take ps.length = ps.reverse by rw [← List.length_reverse, List.take_length]] at lq'
          have hpr := lq'.paths (by rw [List.length_reverse]; omega)
          rw [List.length_reverse] at hpr
          have PP := implPasses (n := (n : Int)) hpr
          rw [passes_back PB.out, ← HV.out] at PP
          have PP := Lib.hid PP
          have CF := Lib.hid (B1.out.trans (hcw.mono B1.out.size))
          have P3 := P2.out
          have htt : (t == t) = true := by simp
          rw [hneg1]
          clear hbs lq' hpr hcw
          go_wp2_with (go_at_call 9; refine PP.out.mono ?_; rintro e w7 ⟨rfl, b7⟩)
          go_ret
          exact ⟨rfl, CF.out.trans (b7.mono CF.out.size)⟩

end Go.Proofs.Ytoebgdcgcdigaab

namespace Go.Proofs.Ytoebgdcgcdigaab.fnPasses
open Go.ChangeShapes Go.WideShapes Go.ChangeAt Go.RowKit
open Go.ChangeMaps (open_string shut_string)
set_option linter.unusedVariables false

theorem own : ownKnob Try.prog.godebug = none := by kernel_rfl
theorem laidOut : laidOutB Try.prog = true := by kernel_rfl

set_option maxRecDepth 100000 in
theorem lifted (os : Os) (started : os.Started) (H : Type) (enc : TypeId × Value → H) :
    ReturnsInHanded {} Try.checked os 3 .any (Rows.fnPassesSpec.pre6 enc Try.prog Try.f3 Rows.fnPassesRow.domain false) (Rows.fnPassesSpec.post enc Try.prog Try.f3 false true false false) := by
  refine returnsInHanded_of_change (C := Try.checked) own started (by kernel_rfl) Try.func3
    (ChangeSpec.witness6 (enc := enc) (C := Try.checked) false ⟨#[], #[.slice none 0 0], []⟩ 8 (by kernel_rfl) (by kernel_rfl) (by kernel_rfl) (by kernel_rfl)) ?_
  intro W base args ds gs before hval0 hW hcnd _
  have hval : ∀ (j : Nat) t v, Try.f3.params[j]? = some t → args[j]? = some v → Value.okWide Try.prog W .any base t v := hval0
  have hW' := hW
  obtain ⟨p, q, hA0, hV, rfl, hfz, hnd⟩ := hW
  have hA : DataW.TrodAll enc Try.prog W 0 (fun _ => true) true Try.f3.params.toList args.toList ds p := hA0
  rw [Try.params3] at hA hval
  obtain ⟨v0, vs0, d0, ds0, p0, q0, hargs, rfl, rfl, h0, r0⟩ := trodAll_cons hA
  obtain ⟨rfl, rfl, rfl⟩ := trodAll_nil r0
  obtain rfl : args = #[v0] := by cases args; simp_all
  obtain ⟨rfl, rfl⟩ := trodVars_none hV
  obtain ⟨a0, len0, cap0, rfl⟩ := okWide_slice Try.underlying22 (hval 0 22 v0 rfl rfl)
  have k0 := h0
  have lt0 : ∀ x ∈ p0, x.block < W.heap.size := by obtain ⟨m, hm⟩ := k0; exact DataW.trod_lt m _ _ _ hm
  obtain ⟨z0, w0⟩ : ∃ zs, IsRowK .u8 W a0 len0 cap0 zs := by
    obtain ⟨fuel, hf⟩ := h0
    rcases open_ints Try.underlying22 Try.underlying5 (by kernel_rfl) hf with ⟨hcs, _⟩ | ⟨x, l, c, zs, hcs, _, hl, hm, hz, _, hcell, hwz⟩
    · simp [Value.cells] at hcs
      obtain ⟨rfl, rfl, rfl⟩ := hcs
      exact ⟨[], .inl ⟨rfl, rfl, rfl, rfl⟩⟩
    · simp [Value.cells] at hcs
      obtain ⟨rfl, rfl, rfl⟩ := hcs
      exact ⟨zs, .inr ⟨_, rfl, hl, hm, by simpa using hz, hcell, hwz⟩⟩
  clear hA0 hval0
  refine (walk_FnPasses a0 len0 cap0 z0 W w0).mono fun e W' ⟨he, bel⟩ => ?_
  subst he
  exact ⟨_, rfl, _, _, _, [], _, [], hW', trodAll_mk1 (shut_bool Try.underlying4 _), (trodAll_cons_mk (Below.trod laidOut (by kernel_rfl) (of_decide_eq_true (by kernel_rfl)) k0 bel lt0) trodAll_mk0), rfl, bel.frame _, fun h => by cases h⟩

theorem closed : joinedFacts Try.checked.prog 3 Try.f3 Rows.fnPassesSpec Rows.fnPassesRow = true := by
  unfold joinedFacts
  simp only [Bool.and_eq_true]
  repeat' (refine And.intro ?_ ?_)
  all_goals first
    | with_reducible exact may_enter
    | (rw [lifts_final]; kernel_rfl)
    | (rw [make_is]; kernel_rfl)
    | kernel_rfl

theorem over : Rows.fnPassesRow.holds Try.pinned (OpenSpec.ofChange Rows.fnPassesSpec) :=
  OpenClaim.holds_of_wide 3 Try.f3 rfl rfl rfl rfl rfl rfl rfl ⟨rfl, rfl, rfl, rfl, rfl⟩ rfl rfl rfl rfl rfl (by kernel_rfl) Try.func3 closed
    (of_decide_eq_true (by kernel_rfl)) (by unfold Func.isWrapper; first | (rw [if_pos (by decide +kernel)]; kernel_rfl) | (rw [if_neg (by decide +kernel)]; exact ⟨rfl, rfl⟩))
    (fun os started H enc _ => lifted os started H enc)

theorem proved : Rows.FnPassesSaid := over
#print axioms proved
end Go.Proofs.Ytoebgdcgcdigaab.fnPasses
