/-
  The order in which trains enter a section, plainly; the model's way to the least free time. No walk.
-/
import Derived.Test.YtedbfmmklmidjaaFreeP
namespace Go.Proofs.Ytedbfmmklmidjaa

/-- x put ahead of the first number that is not less, by f. -/
def insI (f : Int → Int) (x : Int) : List Int → List Int
  | [] => [x]
  | y :: ys => if f y < f x then y :: insI f x ys else x :: y :: ys
def ordTo (f : Int → Int) : Nat → List Int
  | 0 => []
  | i + 1 => insI f i (ordTo f i)
theorem insI_length (f : Int → Int) (x : Int) (ys : List Int) : (insI f x ys).length = ys.length + 1 := by
  induction ys with
  | nil => rfl
  | cons y ys ih =>
    unfold insI
    split
    · simp [ih]
    · simp
theorem ordTo_length (f : Int → Int) (i : Nat) : (ordTo f i).length = i := by
  induction i with
  | zero => rfl
  | succ i ih => show (insI f i (ordTo f i)).length = i + 1; rw [insI_length, ih]
theorem insI_mem {f : Int → Int} {x y : Int} {ys : List Int} : y ∈ insI f x ys ↔ y = x ∨ y ∈ ys := by
  induction ys with
  | nil => simp [insI]
  | cons z ys ih =>
    unfold insI
    split
    · simp only [List.mem_cons, ih]
      constructor
      · rintro (h | h | h)
        · exact .inr (.inl h)
        · exact .inl h
        · exact .inr (.inr h)
      · rintro (h | h | h)
        · exact .inr (.inl h)
        · exact .inl h
        · exact .inr (.inr h)
    · simp only [List.mem_cons]
theorem ordTo_mem {f : Int → Int} {i : Nat} {y : Int} : y ∈ ordTo f i ↔ ∃ j : Nat, j < i ∧ y = j := by
  induction i with
  | zero => simp [ordTo]
  | succ i ih =>
    show y ∈ insI f i (ordTo f i) ↔ _
    rw [insI_mem, ih]
    constructor
    · rintro (h | ⟨j, h1, h2⟩)
      · exact ⟨i, by omega, h⟩
      · exact ⟨j, by omega, h2⟩
    · rintro ⟨j, h1, h2⟩
      by_cases e : j = i
      · subst e; exact .inl h2
      · exact .inr ⟨j, by omega, h2⟩
/-- Where x is put. -/
theorem insI_at {f : Int → Int} {x : Int} : ∀ (ys : List Int) (j : Nat), j ≤ ys.length → (∀ m, m < j → f (ys.getD m 0) < f x) → (j = ys.length ∨ ¬ f (ys.getD j 0) < f x) → insI f x ys = (ys.take j ++ [x]) ++ ys.drop j := by
  intro ys
  induction ys with
  | nil => intro j hj _ _; simp [insI]
  | cons y ys ih =>
    intro j hj h1 h2
    cases j with
    | zero =>
      have q : ¬ f y < f x := by
        rcases h2 with e | e
        · simp at e
        · exact e
      unfold insI
      rw [if_neg q]
      simp
    | succ j =>
      have q : f y < f x := h1 0 (by omega)
      unfold insI
      rw [if_pos q, ih j (by simpa using hj) (fun m hm => h1 (m + 1) (by omega)) (by
        rcases h2 with e | e
        · left; simpa using e
        · right; exact e)]
      simp
/-- The order: no number twice, none ahead of a lesser one. -/
theorem insI_pairs {f : Int → Int} {x : Int} {ys : List Int} (h : ys.Pairwise (fun a b => a ≠ b ∧ f a ≤ f b)) (hx : x ∉ ys) : (insI f x ys).Pairwise (fun a b => a ≠ b ∧ f a ≤ f b) := by
  induction ys with
  | nil => simp [insI]
  | cons y ys ih =>
    rw [List.pairwise_cons] at h
    have hxy : x ≠ y := fun e => hx (by simp [e])
    have hxs : x ∉ ys := fun e => hx (by simp [e])
    unfold insI
    split
    · rename_i q
      rw [List.pairwise_cons]
      refine ⟨fun b hb => ?_, ih h.2 hxs⟩
      rcases insI_mem.1 hb with e | e
      · subst e; exact ⟨fun e => hxy e.symm, by omega⟩
      · exact h.1 b e
    · rename_i q
      rw [List.pairwise_cons, List.pairwise_cons]
      refine ⟨fun b hb => ?_, h⟩
      rcases List.mem_cons.1 hb with e | e
      · subst e; exact ⟨hxy, by omega⟩
      · exact ⟨fun e2 => hxs (e2 ▸ e), by have := (h.1 b e).2; omega⟩
theorem ordTo_pairs (f : Int → Int) (i : Nat) : (ordTo f i).Pairwise (fun a b => a ≠ b ∧ f a ≤ f b) := by
  induction i with
  | zero => simp [ordTo]
  | succ i ih =>
    refine insI_pairs ih (fun h => ?_)
    obtain ⟨j, h1, h2⟩ := ordTo_mem.1 h
    omega

/-- The Ins of a section, by the number of the path. -/
def inF (ps : List (List Int × List Int)) (k : Nat) (y : Int) : Int := inAt ps k y.toNat
def orderOf (ps : List (List Int × List Int)) (k : Nat) : List Int := ordTo (inF ps k) ps.length
/-- The model goes on behind each train that is in the way. -/
def goOn (ps : List (List Int × List Int)) (k : Nat) (r t y : Int) : Int := if meetsAt ps k t r y.toNat then outAt ps k y.toNat else t
def goTo (ps : List (List Int × List Int)) (k : Nat) (r s : Int) (xs : List Int) : Nat → Int
  | 0 => s
  | m + 1 => goOn ps k r (goTo ps k r s xs m) (xs.getD m 0)
theorem goTo_fold (ps : List (List Int × List Int)) (k : Nat) (r s : Int) (xs : List Int) : goTo ps k r s xs xs.length = xs.foldl (goOn ps k r) s := by
  have key : ∀ m, m ≤ xs.length → goTo ps k r s xs m = (xs.take m).foldl (goOn ps k r) s := by
    intro m
    induction m with
    | zero => intro _; simp [goTo]
    | succ m ih =>
      intro h
      show goOn ps k r (goTo ps k r s xs m) (xs.getD m 0) = _
      rw [ih (by omega), List.take_add_one, List.foldl_append]
      have e : xs[m]? = some (xs.getD m 0) := by rw [List.getD_eq_getElem?_getD, List.getElem?_eq_getElem (by omega)]; rfl
      rw [e]
      rfl
  have q := key xs.length (Nat.le_refl _)
  rwa [List.take_length] at q
theorem go_free {n : Int} {ps : List (List Int × List Int)} {k : Nat} {r s : Int} (h : pathsB n ps = true) (hk : (k : Int) < n) : ∀ (l : List Int) (t : Int) (D : Int → Prop), s ≤ t → t ≤ 2000 → Taken ps k r s t →
    (∀ d, D d → 0 ≤ d ∧ d.toNat < ps.length ∧ ¬ meetsAt ps k t r d.toNat) → (∀ y, y ∈ l → 0 ≤ y ∧ y.toNat < ps.length) → (∀ d, D d → ∀ y, y ∈ l → d ≠ y ∧ inF ps k d ≤ inF ps k y) → l.Pairwise (fun a b => a ≠ b ∧ inF ps k a ≤ inF ps k b) →
    s ≤ l.foldl (goOn ps k r) t ∧ l.foldl (goOn ps k r) t ≤ 2000 ∧ Taken ps k r s (l.foldl (goOn ps k r) t) ∧ ∀ d, (D d ∨ d ∈ l) → ¬ meetsAt ps k (l.foldl (goOn ps k r) t) r d.toNat := by
  intro l
  induction l with
  | nil =>
    intro t D h1 h2 h3 h4 _ _ _
    refine ⟨h1, h2, h3, fun d hd => ?_⟩
    rcases hd with e | e
    · exact (h4 d e).2.2
    · simp at e
  | cons y l ih =>
    intro t D h1 h2 h3 h4 h5 h6 h7
    rw [List.pairwise_cons] at h7
    obtain ⟨hy0, hyl⟩ := h5 y (by simp)
    have hyb := sec_bounds h hyl hk
    rw [List.foldl_cons]
    have next : ∀ t', s ≤ t' → t' ≤ 2000 → Taken ps k r s t' → (∀ d, D d → ¬ meetsAt ps k t' r d.toNat) → ¬ meetsAt ps k t' r y.toNat →
        s ≤ l.foldl (goOn ps k r) t' ∧ l.foldl (goOn ps k r) t' ≤ 2000 ∧ Taken ps k r s (l.foldl (goOn ps k r) t') ∧ ∀ d, (D d ∨ d ∈ y :: l) → ¬ meetsAt ps k (l.foldl (goOn ps k r) t') r d.toNat := by
      intro t' g1 g2 g3 g4 g5
      obtain ⟨a1, a2, a3, a4⟩ := ih t' (fun d => D d ∨ d = y) g1 g2 g3 (fun d hd => by
        rcases hd with e | e
        · exact ⟨(h4 d e).1, (h4 d e).2.1, g4 d e⟩
        · subst e; exact ⟨hy0, hyl, g5⟩) (fun z hz => h5 z (by simp [hz])) (fun d hd z hz => by
        rcases hd with e | e
        · exact h6 d e z (by simp [hz])
        · subst e; exact h7.1 z hz) h7.2
      refine ⟨a1, a2, a3, fun d hd => ?_⟩
      rcases hd with e | e
      · exact a4 d (.inl (.inl e))
      · rcases List.mem_cons.1 e with e | e
        · exact a4 d (.inl (.inr e))
        · exact a4 d (.inr e)
    by_cases hm : meetsAt ps k t r y.toNat
    · have e : goOn ps k r t y = outAt ps k y.toNat := if_pos hm
      rw [e]
      refine next _ (by have := hm.2; omega) (by unfold outAt; exact hyb.2.2.2.2) (h3.on hyl hm) (fun d hd q => ?_) (fun q => by have := q.2; omega)
      obtain ⟨d0, dl, _⟩ := h4 d hd
      obtain ⟨dn, df⟩ := h6 d hd y (by simp)
      have ap := apart_at h dl hyl (k := k) (fun e => dn (by omega)) hk
      have q2 := q.2
      have b1 : inAt ps k y.toNat < outAt ps k y.toNat := hyb.2.2.2.1
      unfold inF at df
      exact ap ⟨by omega, by omega⟩
    · have e : goOn ps k r t y = t := if_neg hm
      rw [e]
      exact next t h1 h2 h3 (fun d hd => (h4 d hd).2.2) hm
/-- What the model answers is the least free time. -/
theorem goTo_is {n : Int} {ps : List (List Int × List Int)} {k : Nat} {r s : Int} (h : pathsB n ps = true) (hk : (k : Int) < n) (h0 : 0 ≤ s) (h2 : s ≤ 2000) : goTo ps k r s (orderOf ps k) (orderOf ps k).length = freeT ps k r s := by
  rw [goTo_fold]
  have hmem : ∀ y, y ∈ orderOf ps k ↔ ∃ j : Nat, j < ps.length ∧ y = j := fun y => ordTo_mem
  obtain ⟨a1, a2, a3, a4⟩ := go_free h hk (orderOf ps k) s (fun _ => False) (Int.le_refl _) h2 (Taken.none _ _ _ _) (fun d hd => hd.elim) (fun y hy => by
    obtain ⟨j, hj, e⟩ := (hmem y).1 hy
    subst e
    exact ⟨by omega, by omega⟩) (fun d hd => hd.elim) (ordTo_pairs _ _)
  refine (freeT_is (fun i hi => ?_) a1 (by omega) a3).symm
  have q := a4 (i : Int) (.inr ((hmem _).2 ⟨i, hi, rfl⟩))
  rwa [Int.toNat_natCast] at q
theorem goTo_bounds {n : Int} {ps : List (List Int × List Int)} {k : Nat} {r s : Int} (h : pathsB n ps = true) (hk : (k : Int) < n) (h0 : 0 ≤ s) (h2 : s ≤ 2000) {xs : List Int} (hx : ∀ m, m < xs.length → 0 ≤ xs.getD m 0 ∧ (xs.getD m 0).toNat < ps.length) : ∀ m, m ≤ xs.length → 0 ≤ goTo ps k r s xs m ∧ goTo ps k r s xs m ≤ 2000 := by
  intro m
  induction m with
  | zero => intro _; exact ⟨h0, h2⟩
  | succ m ih =>
    intro hm
    have q := ih (by omega)
    have b := sec_bounds h (hx m (by omega)).2 hk
    show 0 ≤ goOn ps k r _ _ ∧ goOn ps k r _ _ ≤ 2000
    unfold goOn
    split
    · unfold outAt; omega
    · exact q
theorem order_get {ps : List (List Int × List Int)} {k m : Nat} (hm : m < (orderOf ps k).length) : 0 ≤ (orderOf ps k).getD m 0 ∧ ((orderOf ps k).getD m 0).toNat < ps.length := by
  have q : (orderOf ps k).getD m 0 ∈ orderOf ps k := by
    rw [List.getD_eq_getElem?_getD, List.getElem?_eq_getElem hm]
    exact List.getElem_mem hm
  obtain ⟨j, hj, e⟩ := ordTo_mem.1 q
  rw [e]
  omega
theorem order_len (ps : List (List Int × List Int)) (k : Nat) : (orderOf ps k).length = ps.length := ordTo_length _ _

end Go.Proofs.Ytedbfmmklmidjaa
