/-
  A region that draws its order, by what each of its operations yields: where every operation yields a good value from good values, whatever stands between, the region ends with good values. No condition; no walk.
-/
import Derived.Orders
import Derived.Tactics
namespace Go.Proofs.Ytpofkfcjnhoamaa

section
variable {P : Program} {ops : Array Oper} {Q : Exit → Act → World → Prop}

/-- Which operations are not carried out yet. -/
def unlisted (n : Nat) (listed : Array Bool) : List Nat := (List.range n).filter fun i => !listed.getD i true

theorem arrD_set (listed : Array Bool) (i j : Nat) (d : Bool) : (listed.setIfInBounds i true).getD j d = if i = j ∧ j < listed.size then true else listed.getD j d := by
  simp only [Array.getD_eq_getD_getElem?, Array.getElem?_setIfInBounds]
  by_cases e : i = j
  · subst e
    by_cases h : i < listed.size
    · simp [h]
    · simp [h]
  · simp [e]

theorem unlisted_erase {n i : Nat} {listed : Array Bool} (hs : listed.size = n) (hi : i < n) : unlisted n (listed.setIfInBounds i true) = (unlisted n listed).filter (· != i) := by
  unfold unlisted
  rw [List.filter_filter]
  apply List.filter_congr
  intro j hj
  rw [arrD_set]
  by_cases q : i = j
  · subst q; simp [hs, hi]
  · have q' : ¬ j = i := fun e => q e.symm
    simp [q, q']
theorem unlisted_nodup (n : Nat) (listed : Array Bool) : (unlisted n listed).Nodup := List.Pairwise.filter _ List.nodup_range
theorem unlisted_set {n i : Nat} {listed : Array Bool} (hs : listed.size = n) (hi : i < n) (h : listed.getD i true = false) : (unlisted n (listed.setIfInBounds i true)).length + 1 = (unlisted n listed).length := by
  have e : unlisted n (listed.setIfInBounds i true) = (unlisted n listed).erase i := by
    rw [unlisted_erase hs hi, List.Nodup.erase_eq_filter (unlisted_nodup n listed) i]
  have hm : i ∈ unlisted n listed := by simp only [unlisted, List.mem_filter, List.mem_range]; exact ⟨hi, by rw [h]; rfl⟩
  rw [e, List.length_erase_of_mem hm]
  have := List.length_pos_of_mem hm
  omega

/-- A slot's value in the walk's own words. -/
theorem slot_of {a : Act} {t : Nat} {v : Value} (h : a.tmps.getD t undef = v) : a.tmps[t]?.getD undef = v := by rw [← h, Array.getD_eq_getD_getElem?]

/-- How many of the operations that cost are not carried out yet. -/
def costLeft (c : Nat → Bool) (n : Nat) (listed : Array Bool) : Nat := ((unlisted n listed).filter c).length
theorem costLeft_set {c : Nat → Bool} {n i : Nat} {listed : Array Bool} (hs : listed.size = n) (hi : i < n) (h : listed.getD i true = false) :
    costLeft c n listed = if c i then costLeft c n (listed.setIfInBounds i true) + 1 else costLeft c n (listed.setIfInBounds i true) := by
  have hm : i ∈ unlisted n listed := by simp only [unlisted, List.mem_filter, List.mem_range]; exact ⟨hi, by rw [h]; rfl⟩
  unfold costLeft
  rw [unlisted_erase hs hi, List.filter_filter]
  cases hc : c i
  · simp only [Bool.false_eq_true, if_false]
    congr 1
    apply List.filter_congr
    intro j _
    by_cases q : j = i
    · subst q; simp [hc]
    · simp [q]
  · simp only [if_true]
    have e : (unlisted n listed).filter (fun a => c a && a != i) = ((unlisted n listed).filter c).erase i := by
      rw [List.Nodup.erase_eq_filter (List.Pairwise.filter _ (unlisted_nodup n listed)) i, List.filter_filter]
      apply List.filter_congr
      intro j _
      exact Bool.and_comm _ _
    have hm2 : i ∈ (unlisted n listed).filter c := List.mem_filter.2 ⟨hm, hc⟩
    rw [e, List.length_erase_of_mem hm2]
    have := List.length_pos_of_mem hm2
    omega

/-- What operation j has yielded is good. -/
def GoodAt (ops : Array Oper) (G : Nat → Value → World → Prop) (j : Nat) (a : Act) (w : World) : Prop :=
  match (ops[j]?).bind (·.dst) with
  | some d => G j (a.tmps.getD d undef) w
  | none => True

/-- No operation of the region writes this slot. -/
def unwritten (ops : Array Oper) (t : Nat) : Bool := ops.toList.all fun o => o.dst != some t

/-- The operation leans on operation j. -/
def leans (o : Oper) (j : Nat) : Bool := o.after.toList.any fun e => Region.binds .any e && e.on == j

/-- What is asked of operation k. -/
def GoodStep (P : Program) (ops : Array Oper) (Q : Exit → Act → World → Prop) (G : Nat → Value → World → Prop) (c : Nat → Bool) (R : Nat → World → Prop) (T : World → World → Prop) (a0 : Act) (k : Nat) (o : Oper) : Prop :=
  ∀ (a : Act) (w : World) (m : Nat), R (if c k then m + 1 else m) w → (∀ t, unwritten ops t = true → a.tmps.getD t undef = a0.tmps.getD t undef) → (∀ j, leans o j = true → GoodAt ops G j a w) →
    ∀ K : Act → World → Prop, (∀ v w', G k v w' → R m w' → T w w' → K (a.put o.dst v) w') → Oper.wp P o a w K Q

def GoodSteps (P : Program) (ops : Array Oper) (Q : Exit → Act → World → Prop) (G : Nat → Value → World → Prop) (c : Nat → Bool) (R : Nat → World → Prop) (T : World → World → Prop) (a0 : Act) : Nat → List Oper → Prop
  | _, [] => True
  | k, o :: rest => GoodStep P ops Q G c R T a0 k o ∧ GoodSteps P ops Q G c R T a0 (k + 1) rest

theorem GoodSteps.at {G : Nat → Value → World → Prop} {c : Nat → Bool} {R : Nat → World → Prop} {T : World → World → Prop} {a0 : Act} {l : List Oper} {k : Nat} (h : GoodSteps P ops Q G c R T a0 k l) {i : Nat} {o : Oper} (ho : l[i]? = some o) : GoodStep P ops Q G c R T a0 (k + i) o := by
  induction l generalizing k i with
  | nil => simp at ho
  | cons x l ih =>
    cases i with
    | zero => simp at ho; subst ho; exact h.1
    | succ i => have := ih h.2 (by simpa using ho); rwa [show k + 1 + i = k + (i + 1) by omega] at this

/-- The form of the region: no guard; every edge leads back; each slot is written once, and lies in the frame. -/
def plainForm (ops : Array Oper) (n : Nat) : Bool :=
  (List.range ops.size).all fun i => match ops[i]? with
    | none => false
    | some o => o.guard.isNone && o.after.toList.all (fun e => !Region.binds .any e || decide (e.on < i)) && (match o.dst with | some d => decide (d < n) | none => true) &&
      (List.range i).all fun j => match (ops[j]?).bind (·.dst) with | some d => o.dst != some d | none => true

structure Reached (ops : Array Oper) (G : Nat → Value → World → Prop) (c : Nat → Bool) (R : Nat → World → Prop) (a0 : Act) (listed : Array Bool) (a : Act) (w : World) : Prop where
  lsize : listed.size = ops.size
  tsize : a.tmps.size = a0.tmps.size
  defers : a.defers = a0.defers
  rest : ∀ t, unwritten ops t = true → a.tmps.getD t undef = a0.tmps.getD t undef
  good : ∀ j, listed.getD j false = true → GoodAt ops G j a w
  world : R (costLeft c ops.size listed) w

theorem put_getD (a : Act) (dst : Option Tmp) (v : Value) (t : Nat) : (a.put dst v).tmps.getD t undef = if dst = some t ∧ t < a.tmps.size then v else a.tmps.getD t undef := by
  cases dst with
  | none => simp [Act.put]
  | some d =>
    simp only [Act.put, Array.getD_eq_getD_getElem?, Array.getElem?_setIfInBounds, Option.some.injEq]
    by_cases e : d = t
    · subst e
      by_cases h : d < a.tmps.size
      · simp [h]
      · simp [h]
    · simp [e]
theorem put_size (a : Act) (dst : Option Tmp) (v : Value) : (a.put dst v).tmps.size = a.tmps.size := by
  cases dst <;> simp [Act.put]

theorem put_defers (a : Act) (dst : Option Tmp) (v : Value) : (a.put dst v).defers = a.defers := by
  cases dst <;> rfl

theorem plain_at {n i : Nat} {o : Oper} (h : plainForm ops n = true) (ho : ops[i]? = some o) :
    o.guard = none ∧ (∀ e ∈ o.after.toList, Region.binds .any e = true → e.on < i) ∧ (∀ d, o.dst = some d → d < n) ∧ ∀ j, j < i → ∀ d, (ops[j]?).bind (·.dst) = some d → o.dst ≠ some d := by
  have hi : i < ops.size := by
    rcases Nat.lt_or_ge i ops.size with q | q
    · exact q
    · rw [Array.getElem?_eq_none q] at ho; cases ho
  unfold plainForm at h
  rw [List.all_eq_true] at h
  have := h i (List.mem_range.2 hi)
  rw [ho] at this
  simp only [Bool.and_eq_true, List.all_eq_true] at this
  obtain ⟨⟨⟨h1, h2⟩, h3⟩, h4⟩ := this
  refine ⟨by simpa using h1, fun e he hb => by have := h2 e he; rw [hb] at this; simpa using this, fun d hd => ?_, fun j hj d hd => ?_⟩
  · rw [hd] at h3; simpa using h3
  · have := h4 j (List.mem_range.2 hj)
    rw [hd] at this
    simpa using this

theorem ready_is {listed : Array Bool} {i : Nat} (h : i ∈ Region.ready .any ops listed) : ∃ o, ops[i]? = some o ∧ i < ops.size ∧ listed.getD i true = false ∧ ∀ j, leans o j = true → listed.getD j false = true := by
  simp only [Region.ready, List.mem_filter, List.mem_range, Bool.and_eq_true] at h
  obtain ⟨hi, hl, ha⟩ := h
  refine ⟨ops[i], by simp [hi], hi, by simpa using hl, fun j hj => ?_⟩
  simp only [Array.getElem?_eq_getElem hi, Option.map_some, Option.getD_some, Array.all_eq_true] at ha
  unfold leans at hj
  rw [List.any_eq_true] at hj
  obtain ⟨e, he, hb⟩ := hj
  simp only [Bool.and_eq_true, beq_iff_eq] at hb
  obtain ⟨k, hk, rfl⟩ := List.getElem_of_mem he
  have := ha k (by simpa using hk)
  simp only [Array.getElem_toList] at hb
  rw [hb.1, hb.2] at this
  simpa using this

/-- Where an operation is not carried out yet, one may be. -/
theorem ready_some {n : Nat} (hp : plainForm ops n = true) {listed : Array Bool} (hs : listed.size = ops.size) {i : Nat} (hi : i < ops.size) (h : listed.getD i true = false) : Region.ready .any ops listed ≠ [] := by
  have hmin : ∀ m i, i ≤ m → i < ops.size → listed.getD i true = false → ∃ k, k ∈ Region.ready .any ops listed := by
    intro m
    induction m with
    | zero =>
      intro i hm hi h
      have hi0 : i = 0 := by omega
      subst hi0
      refine ⟨0, ?_⟩
      simp only [Region.ready, List.mem_filter, List.mem_range, Bool.and_eq_true]
      refine ⟨hi, by rw [h]; rfl, ?_⟩
      have hf := (plain_at hp (Array.getElem?_eq_getElem hi)).2.1
      simp only [Array.getElem?_eq_getElem hi, Option.map_some, Option.getD_some, Array.all_eq_true]
      intro k hk
      cases hb : Region.binds .any ops[0].after[k]
      · rfl
      · have := hf (ops[0].after[k]) (by simp) hb
        omega
    | succ m ih =>
      intro i hm hi h
      by_cases hall : ∀ e ∈ ops[i].after.toList, Region.binds .any e = true → listed.getD e.on false = true
      · refine ⟨i, ?_⟩
        simp only [Region.ready, List.mem_filter, List.mem_range, Bool.and_eq_true]
        refine ⟨hi, by rw [h]; rfl, ?_⟩
        simp only [Array.getElem?_eq_getElem hi, Option.map_some, Option.getD_some, Array.all_eq_true]
        intro k hk
        by_cases hb : Region.binds .any ops[i].after[k] = true
        · rw [hall _ (by simp) hb]; simp
        · simp only [Bool.not_eq_true] at hb; rw [hb]; rfl
      · have hex : ∃ e, e ∈ ops[i].after.toList ∧ Region.binds .any e = true ∧ listed.getD e.on false = false := by
          apply Classical.byContradiction
          intro hn
          apply hall
          intro e he hb
          cases q : listed.getD e.on false
          · exact absurd ⟨e, he, hb, q⟩ hn
          · rfl
        obtain ⟨e, he, hb, hl⟩ := hex
        have hlt := (plain_at hp (Array.getElem?_eq_getElem hi)).2.1 e he hb
        refine ih e.on (by omega) (by omega) ?_
        have : e.on < listed.size := by omega
        simp only [Array.getD_eq_getD_getElem?, Array.getElem?_eq_getElem this, Option.getD_some] at hl ⊢
        exact hl
  obtain ⟨k, hk⟩ := hmin i i (Nat.le_refl _) hi h
  intro e
  rw [e] at hk
  cases hk

theorem wpAny_goods {G : Nat → Value → World → Prop} {c : Nat → Bool} {R : Nat → World → Prop} {T : World → World → Prop} {a0 : Act} (hp : plainForm ops a0.tmps.size = true)
    (hT : ∀ i v w w', T w w' → G i v w → G i v w') (hs : GoodSteps P ops Q G c R T a0 0 ops.toList)
    (hend : ∀ a w, a.tmps.size = a0.tmps.size → a.defers = a0.defers → R 0 w → (∀ t, unwritten ops t = true → a.tmps.getD t undef = a0.tmps.getD t undef) → (∀ j, j < ops.size → GoodAt ops G j a w) → Q .normal a w) :
    ∀ (fuel : Nat) (listed : Array Bool) (a : Act) (w : World), (unlisted ops.size listed).length = fuel → Reached ops G c R a0 listed a w → wpAny P .any ops Q fuel listed a w := by
  have hfin : ∀ (listed : Array Bool) (a : Act) (w : World), Reached ops G c R a0 listed a w → Region.ready .any ops listed = [] → Q .normal a w := by
    intro listed a w h hr
    have hall : ∀ j, j < ops.size → listed.getD j false = true := by
      intro j hj
      cases q : listed.getD j false
      · refine absurd hr (ready_some hp h.lsize hj ?_)
        have : j < listed.size := by rw [h.lsize]; exact hj
        simp only [Array.getD_eq_getD_getElem?, Array.getElem?_eq_getElem this, Option.getD_some] at q ⊢
        exact q
      · rfl
    have h0 : costLeft c ops.size listed = 0 := by
      unfold costLeft unlisted
      rw [List.filter_eq_nil_iff.2 (fun j hj => by
        have hj' := List.mem_range.1 (List.mem_filter.1 hj).1
        have q := hall j hj'
        have : j < listed.size := by rw [h.lsize]; exact hj'
        have hn := (List.mem_filter.1 hj).2
        simp only [Array.getD_eq_getD_getElem?, Array.getElem?_eq_getElem this, Option.getD_some] at q hn
        rw [q] at hn
        cases hn)]
      rfl
    have hw := h.world
    rw [h0] at hw
    exact hend a w h.tsize h.defers hw h.rest (fun j hj => h.good j (hall j hj))
  intro fuel
  induction fuel with
  | zero =>
    intro listed a w hu h
    have hn : Region.ready .any ops listed = [] := by
      apply List.eq_nil_iff_forall_not_mem.2
      intro i hi
      obtain ⟨o, _, hlt, hl, _⟩ := ready_is hi
      have hm : i ∈ unlisted ops.size listed := by simp only [unlisted, List.mem_filter, List.mem_range]; exact ⟨hlt, by rw [hl]; rfl⟩
      have := List.length_pos_of_mem hm
      omega
    exact ⟨hn, hfin listed a w h hn⟩
  | succ fuel ih =>
    intro listed a w hu h
    refine ⟨hfin listed a w h, fun i hi => ?_⟩
    obtain ⟨o, ho, hlt, hl, hd⟩ := ready_is hi
    obtain ⟨hg, _, hdn, hdist⟩ := plain_at hp ho
    have hstep := hs.at (i := i) (o := o) (by simpa using ho)
    rw [Nat.zero_add] at hstep
    have hunl := unlisted_set h.lsize hlt hl
    unfold wpOp
    rw [ho]
    have hwant : Region.wanted o (yielded ops a.tmps) = true := by unfold Region.wanted; rw [hg]
    simp only [hwant, if_true]
    have hw := h.world
    rw [costLeft_set h.lsize hlt hl] at hw
    refine .inl (hstep a w _ hw h.rest (fun j hj => h.good j (hd j hj)) _ (fun v w' hgv hR hTw => ?_))
    refine ih _ _ _ (by omega) ⟨by simp [h.lsize], by rw [put_size]; exact h.tsize, by rw [put_defers]; exact h.defers, fun t ht => ?_, fun j hj => ?_, hR⟩
    · rw [put_getD, if_neg]
      · exact h.rest t ht
      · rintro ⟨e, _⟩
        unfold unwritten at ht
        rw [List.all_eq_true] at ht
        have := ht o (by rw [Array.mem_toList_iff]; exact Array.mem_of_getElem? ho)
        rw [e] at this
        simp at this
    · rw [arrD_set] at hj
      by_cases q : i = j
      · subst q
        unfold GoodAt
        rw [ho]
        cases hdst : o.dst with
        | none => simp [hdst]
        | some d =>
          simp only [Option.bind_some, hdst]
          rw [put_getD, if_pos ⟨rfl, by rw [h.tsize]; exact hdn d hdst⟩]
          exact hgv
      · rw [if_neg (fun hh => q hh.1)] at hj
        have hgj := h.good j hj
        unfold GoodAt at hgj ⊢
        cases hdj : (ops[j]?).bind (·.dst) with
        | none => simp
        | some d =>
          rw [hdj] at hgj
          simp only at hgj ⊢
          rw [put_getD, if_neg]
          · exact hT _ _ _ _ hTw hgj
          · rintro ⟨e, _⟩
            rcases Nat.lt_or_ge j i with r | r
            · exact hdist j r d hdj e
            · have hji : i < j := by omega
              cases hoj : ops[j]? with
              | none => rw [hoj] at hdj; cases hdj
              | some oj =>
                rw [hoj] at hdj
                exact (plain_at hp hoj).2.2.2 i hji d (by rw [ho]; exact e) hdj

theorem unlisted_all (n : Nat) : unlisted n (Array.replicate n false) = List.range n := by
  unfold unlisted
  exact List.filter_eq_self.2 (fun j hj => by simp [List.mem_range.1 hj, Array.getD_eq_getD_getElem?])

theorem wp_region_goods {G : Nat → Value → World → Prop} {c : Nat → Bool} {R : Nat → World → Prop} {T : World → World → Prop} {id : Nat} {a0 : Act} {w : World} (hm : P.follows .mixedOrders = true) (hp : plainForm ops a0.tmps.size = true)
    (hR : R ((List.range ops.size).filter c).length { w with drawn := w.drawn + 1 }) (hT : ∀ i v w w', T w w' → G i v w → G i v w') (hs : GoodSteps P ops Q G c R T a0 0 ops.toList)
    (hend : ∀ a w, a.tmps.size = a0.tmps.size → a.defers = a0.defers → R 0 w → (∀ t, unwritten ops t = true → a.tmps.getD t undef = a0.tmps.getD t undef) → (∀ j, j < ops.size → GoodAt ops G j a w) → Q .normal a w) :
    (Code.region id ops true).wp P Q a0 w := by
  refine wp_region_any hm (wpAny_goods hp hT hs hend _ _ _ _ ?_ ⟨by simp, rfl, rfl, fun _ _ => rfl, fun j hj => ?_, ?_⟩)
  · rw [unlisted_all]
    simp
  · simp only [Array.getD_eq_getD_getElem?, Array.getElem?_replicate] at hj
    split at hj <;> simp at hj
  · unfold costLeft
    rw [unlisted_all]
    exact hR

end

end Go.Proofs.Ytpofkfcjnhoamaa

/-
  The rule of XGoods, with what is known of the world told by what has been carried out; and what an operation writes need not leave what leans on it. No condition; no walk.
-/
namespace Go.Proofs.Ytpofkfcjnhoamaa

section
variable {P : Program} {ops : Array Oper} {Q : Exit → Act → World → Prop}

/-- What is asked of operation k, each with its own way to change the world; D tells what has been carried out. -/
def GoodStepL (P : Program) (ops : Array Oper) (Q : Exit → Act → World → Prop) (G : Nat → Value → World → Prop) (R : (Nat → Bool) → World → Prop) (T : Nat → World → World → Prop) (a0 : Act) (k : Nat) (o : Oper) : Prop :=
  ∀ (a : Act) (w : World) (D D' : Nat → Bool), D k = false → D' k = true → (∀ j, j ≠ k → D' j = D j) → (∀ j o', ops[j]? = some o' → D j = true → ∀ k', leans o' k' = true → D k' = true) → R D w → (∀ t, unwritten ops t = true → a.tmps.getD t undef = a0.tmps.getD t undef) → (∀ j, leans o j = true → GoodAt ops G j a w) →
    ∀ K : Act → World → Prop, (∀ v w', G k v w' → R D' w' → T k w w' → K (a.put o.dst v) w') → Oper.wp P o a w K Q
def GoodStepsL (P : Program) (ops : Array Oper) (Q : Exit → Act → World → Prop) (G : Nat → Value → World → Prop) (R : (Nat → Bool) → World → Prop) (T : Nat → World → World → Prop) (a0 : Act) : Nat → List Oper → Prop
  | _, [] => True
  | k, o :: rest => GoodStepL P ops Q G R T a0 k o ∧ GoodStepsL P ops Q G R T a0 (k + 1) rest
theorem GoodStepsL.at {G : Nat → Value → World → Prop} {R : (Nat → Bool) → World → Prop} {T : Nat → World → World → Prop} {a0 : Act} {l : List Oper} {k : Nat} (h : GoodStepsL P ops Q G R T a0 k l) {i : Nat} {o : Oper} (ho : l[i]? = some o) : GoodStepL P ops Q G R T a0 (k + i) o := by
  induction l generalizing k i with
  | nil => simp at ho
  | cons x l ih =>
    cases i with
    | zero => simp at ho; subst ho; exact h.1
    | succ i => have := ih h.2 (by simpa using ho); rwa [show k + 1 + i = k + (i + 1) by omega] at this

/-- What has been carried out. -/
def doneBy (listed : Array Bool) : Nat → Bool := fun j => listed.getD j false
structure ReachedL (ops : Array Oper) (G : Nat → Value → World → Prop) (R : (Nat → Bool) → World → Prop) (a0 : Act) (listed : Array Bool) (a : Act) (w : World) : Prop where
  lsize : listed.size = ops.size
  tsize : a.tmps.size = a0.tmps.size
  defers : a.defers = a0.defers
  rest : ∀ t, unwritten ops t = true → a.tmps.getD t undef = a0.tmps.getD t undef
  good : ∀ j, listed.getD j false = true → GoodAt ops G j a w
  world : R (doneBy listed) w
  closed : ∀ j o, ops[j]? = some o → listed.getD j false = true → ∀ k, leans o k = true → listed.getD k false = true

theorem wpAny_goodsL {G : Nat → Value → World → Prop} {R : (Nat → Bool) → World → Prop} {T : Nat → World → World → Prop} {a0 : Act} (hp : plainForm ops a0.tmps.size = true)
    (hT : ∀ k i o v w w', i ≠ k → ops[i]? = some o → leans o k = false → T k w w' → G i v w → G i v w') (hs : GoodStepsL P ops Q G R T a0 0 ops.toList)
    (hend : ∀ a w D, (∀ j, j < ops.size → D j = true) → a.tmps.size = a0.tmps.size → a.defers = a0.defers → R D w → (∀ t, unwritten ops t = true → a.tmps.getD t undef = a0.tmps.getD t undef) → (∀ j, j < ops.size → GoodAt ops G j a w) → Q .normal a w) :
    ∀ (fuel : Nat) (listed : Array Bool) (a : Act) (w : World), (unlisted ops.size listed).length = fuel → ReachedL ops G R a0 listed a w → wpAny P .any ops Q fuel listed a w := by
  have hfin : ∀ (listed : Array Bool) (a : Act) (w : World), ReachedL ops G R a0 listed a w → Region.ready .any ops listed = [] → Q .normal a w := by
    intro listed a w h hr
    have hall : ∀ j, j < ops.size → listed.getD j false = true := by
      intro j hj
      cases q : listed.getD j false
      · refine absurd hr (ready_some hp h.lsize hj ?_)
        have : j < listed.size := by rw [h.lsize]; exact hj
        simp only [Array.getD_eq_getD_getElem?, Array.getElem?_eq_getElem this, Option.getD_some] at q ⊢
        exact q
      · rfl
    exact hend a w _ (fun j hj => hall j hj) h.tsize h.defers h.world h.rest (fun j hj => h.good j (hall j hj))
  intro fuel
  induction fuel with
  | zero =>
    intro listed a w hu h
    have hn : Region.ready .any ops listed = [] := by
      apply List.eq_nil_iff_forall_not_mem.2
      intro i hi
      obtain ⟨o, _, hlt, hl, _⟩ := ready_is hi
      have hm : i ∈ unlisted ops.size listed := by simp only [unlisted, List.mem_filter, List.mem_range]; exact ⟨hlt, by rw [hl]; rfl⟩
      have := List.length_pos_of_mem hm
      omega
    exact ⟨hn, hfin listed a w h hn⟩
  | succ fuel ih =>
    intro listed a w hu h
    refine ⟨hfin listed a w h, fun i hi => ?_⟩
    obtain ⟨o, ho, hlt, hl, hd⟩ := ready_is hi
    obtain ⟨hg, _, hdn, hdist⟩ := plain_at hp ho
    have hstep := hs.at (i := i) (o := o) (by simpa using ho)
    rw [Nat.zero_add] at hstep
    have hunl := unlisted_set h.lsize hlt hl
    unfold wpOp
    rw [ho]
    have hwant : Region.wanted o (yielded ops a.tmps) = true := by unfold Region.wanted; rw [hg]
    simp only [hwant, if_true]
    have hlf : listed.getD i false = false := by
      have : i < listed.size := by rw [h.lsize]; exact hlt
      simp only [Array.getD_eq_getD_getElem?, Array.getElem?_eq_getElem this, Option.getD_some] at hl ⊢
      exact hl
    have hdk : doneBy (listed.setIfInBounds i true) i = true := by unfold doneBy; rw [arrD_set, if_pos ⟨rfl, by rw [h.lsize]; exact hlt⟩]
    have hdo : ∀ j, j ≠ i → doneBy (listed.setIfInBounds i true) j = doneBy listed j := fun j hj => by unfold doneBy; rw [arrD_set, if_neg (fun q => hj q.1.symm)]
    refine .inl (hstep a w _ _ hlf hdk hdo h.closed h.world h.rest (fun j hj => h.good j (hd j hj)) _ (fun v w' hgv hR hTw => ?_))
    refine ih _ _ _ (by omega) ⟨by simp [h.lsize], by rw [put_size]; exact h.tsize, by rw [put_defers]; exact h.defers, fun t ht => ?_, fun j hj => ?_, hR, fun j oj hoj hj k hk => ?_⟩
    · rw [put_getD, if_neg]
      · exact h.rest t ht
      · rintro ⟨e, _⟩
        unfold unwritten at ht
        rw [List.all_eq_true] at ht
        have := ht o (by rw [Array.mem_toList_iff]; exact Array.mem_of_getElem? ho)
        rw [e] at this
        simp at this
    · rw [arrD_set] at hj
      by_cases q : i = j
      · subst q
        unfold GoodAt
        rw [ho]
        cases hdst : o.dst with
        | none => simp [hdst]
        | some d =>
          simp only [Option.bind_some, hdst]
          rw [put_getD, if_pos ⟨rfl, by rw [h.tsize]; exact hdn d hdst⟩]
          exact hgv
      · rw [if_neg (fun hh => q hh.1)] at hj
        have hgj := h.good j hj
        unfold GoodAt at hgj ⊢
        cases hdj : (ops[j]?).bind (·.dst) with
        | none => simp
        | some d =>
          rw [hdj] at hgj
          simp only at hgj ⊢
          rw [put_getD, if_neg]
          · cases hoj : ops[j]? with
            | none => rw [hoj] at hdj; cases hdj
            | some oj =>
              refine hT i j oj _ _ _ (fun e => q e.symm) hoj ?_ hTw hgj
              cases hlean : leans oj i
              · rfl
              · have := h.closed j oj hoj hj i hlean
                rw [hlf] at this
                cases this
          · rintro ⟨e, _⟩
            rcases Nat.lt_or_ge j i with r | r
            · exact hdist j r d hdj e
            · have hji : i < j := by omega
              cases hoj : ops[j]? with
              | none => rw [hoj] at hdj; cases hdj
              | some oj =>
                rw [hoj] at hdj
                exact (plain_at hp hoj).2.2.2 i hji d (by rw [ho]; exact e) hdj
    · rw [arrD_set] at hj ⊢
      by_cases q : i = k ∧ k < listed.size
      · rw [if_pos q]
      · rw [if_neg q]
        by_cases q2 : i = j ∧ j < listed.size
        · obtain ⟨rfl, _⟩ := q2
          rw [ho] at hoj
          cases hoj
          exact hd k hk
        · rw [if_neg q2] at hj
          exact h.closed j oj hoj hj k hk

theorem wp_region_goodsL {G : Nat → Value → World → Prop} {R : (Nat → Bool) → World → Prop} {T : Nat → World → World → Prop} {id : Nat} {a0 : Act} {w : World} (hm : P.follows .mixedOrders = true) (hp : plainForm ops a0.tmps.size = true)
    (hR : ∀ D : Nat → Bool, (∀ j, D j = false) → R D { w with drawn := w.drawn + 1 }) (hT : ∀ k i o v w w', i ≠ k → ops[i]? = some o → leans o k = false → T k w w' → G i v w → G i v w') (hs : GoodStepsL P ops Q G R T a0 0 ops.toList)
    (hend : ∀ a w D, (∀ j, j < ops.size → D j = true) → a.tmps.size = a0.tmps.size → a.defers = a0.defers → R D w → (∀ t, unwritten ops t = true → a.tmps.getD t undef = a0.tmps.getD t undef) → (∀ j, j < ops.size → GoodAt ops G j a w) → Q .normal a w) :
    (Code.region id ops true).wp P Q a0 w := by
  have hnone : ∀ j, (Array.replicate ops.size false).getD j false = false := by
    intro j
    simp only [Array.getD_eq_getD_getElem?, Array.getElem?_replicate]
    split <;> rfl
  refine wp_region_any hm (wpAny_goodsL hp hT hs hend _ _ _ _ ?_ ⟨by simp, rfl, rfl, fun _ _ => rfl, fun j hj => ?_, ?_, fun j _ _ hj => ?_⟩)
  · rw [unlisted_all]
    simp
  · rw [hnone] at hj; cases hj
  · exact hR _ hnone
  · rw [hnone] at hj; cases hj

end

end Go.Proofs.Ytpofkfcjnhoamaa
