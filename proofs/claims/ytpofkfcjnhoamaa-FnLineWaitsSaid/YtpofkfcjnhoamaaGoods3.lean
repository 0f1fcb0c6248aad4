/-
  The rule of XGoods, with what is known of the world told by what has been carried out; and what an operation writes need not leave what leans on it. No condition; no walk.
-/
import Derived.Test.YtpofkfcjnhoamaaGoods
namespace Go.Proofs.Ytpofkfcjnhoamaa

section
variable {P : Program} {ops : Array Oper} {Q : Exit → Act → World → Prop}

/-- What is asked of operation k, each with its own way to change the world; D tells what has been carried out. -/
def GoodStepL (P : Program) (ops : Array Oper) (Q : Exit → Act → World → Prop) (G : Nat → Value → World → Prop) (R : (Nat → Bool) → World → Prop) (T : Nat → World → World → Prop) (a0 : Act) (k : Nat) (o : Oper) : Prop :=
  ∀ (a : Act) (w : World) (D D' : Nat → Bool), D k = false → D' k = true → (∀ j, j ≠ k → D' j = D j) → (∀ j o', ops[j]? = some o' → D j = true → ∀ k', leans o' k' = true → D k' = true) → R D w → (∀ t, unwritten ops t = true → a.tmps.getD t undef = a0.tmps.getD t undef) → (∀ j, leans o j = true → GoodAt ops G j a w) →
    ∀ K : Act → World → Prop, (∀ v w', G k v w' → R D' w' → T k w w' → K (a.put o.dst v) w') → Oper.wp P o a w K Q
def GoodStepsL (P : Program) (ops : Array Oper) (Q : Exit → Act → World → Prop) (G : Nat → Value → World → Prop) (R : (Nat → Bool) → World → Prop) (T : Nat → World → World → Prop) (a0 : Act) : Nat → List Oper → Prop
  | _, [] => True
  | k, o :: rest => GoodStepL P ops Q G R T a0 k o ∧ GoodStepsL P ops Q G R T a0 (k + 1) rest
theorem GoodStepsL.at {G : Nat → Value → World → Prop} {R : (Nat → Bool) → World → Prop} {T : Nat → World → World → Prop} {a0 : Act} {l : List Oper} {k : Nat} (h : GoodStepsL P ops Q G R T a0 k l) {i : Nat} {o : Oper} (ho : l[i]? = some o) : GoodStepL P ops Q G R T a0 (k + i) o := by
  induction l generalizing k i with
  | nil => simp at ho
  | cons x l ih =>
    cases i with
    | zero => simp at ho; subst ho; exact h.1
    | succ i => have := ih h.2 (by simpa using ho); rwa [show k + 1 + i = k + (i + 1) by omega] at this

/-- What has been carried out. -/
def doneBy (listed : Array Bool) : Nat → Bool := fun j => listed.getD j false
structure ReachedL (ops : Array Oper) (G : Nat → Value → World → Prop) (R : (Nat → Bool) → World → Prop) (a0 : Act) (listed : Array Bool) (a : Act) (w : World) : Prop where
  lsize : listed.size = ops.size
  tsize : a.tmps.size = a0.tmps.size
  defers : a.defers = a0.defers
  rest : ∀ t, unwritten ops t = true → a.tmps.getD t undef = a0.tmps.getD t undef
  good : ∀ j, listed.getD j false = true → GoodAt ops G j a w
  world : R (doneBy listed) w
  closed : ∀ j o, ops[j]? = some o → listed.getD j false = true → ∀ k, leans o k = true → listed.getD k false = true

theorem wpAny_goodsL {G : Nat → Value → World → Prop} {R : (Nat → Bool) → World → Prop} {T : Nat → World → World → Prop} {a0 : Act} (hp : plainForm ops a0.tmps.size = true)
    (hT : ∀ k i o v w w', i ≠ k → ops[i]? = some o → leans o k = false → T k w w' → G i v w → G i v w') (hs : GoodStepsL P ops Q G R T a0 0 ops.toList)
    (hend : ∀ a w D, (∀ j, j < ops.size → D j = true) → a.tmps.size = a0.tmps.size → a.defers = a0.defers → R D w → (∀ t, unwritten ops t = true → a.tmps.getD t undef = a0.tmps.getD t undef) → (∀ j, j < ops.size → GoodAt ops G j a w) → Q .normal a w) :
    ∀ (fuel : Nat) (listed : Array Bool) (a : Act) (w : World), (unlisted ops.size listed).length = fuel → ReachedL ops G R a0 listed a w → wpAny P .any ops Q fuel listed a w := by
  have hfin : ∀ (listed : Array Bool) (a : Act) (w : World), ReachedL ops G R a0 listed a w → Region.ready .any ops listed = [] → Q .normal a w := by
    intro listed a w h hr
    have hall : ∀ j, j < ops.size → listed.getD j false = true := by
      intro j hj
      cases q : listed.getD j false
      · refine absurd hr (ready_some hp h.lsize hj ?_)
        have : j < listed.size := by rw [h.lsize]; exact hj
        simp only [Array.getD_eq_getD_getElem?, Array.getElem?_eq_getElem this, Option.getD_some] at q ⊢
        exact q
      · rfl
    exact hend a w _ (fun j hj => hall j hj) h.tsize h.defers h.world h.rest (fun j hj => h.good j (hall j hj))
  intro fuel
  induction fuel with
  | zero =>
    intro listed a w hu h
    have hn : Region.ready .any ops listed = [] := by
      apply List.eq_nil_iff_forall_not_mem.2
      intro i hi
      obtain ⟨o, _, hlt, hl, _⟩ := ready_is hi
      have hm : i ∈ unlisted ops.size listed := by simp only [unlisted, List.mem_filter, List.mem_range]; exact ⟨hlt, by rw [hl]; rfl⟩
      have := List.length_pos_of_mem hm
      omega
    exact ⟨hn, hfin listed a w h hn⟩
  | succ fuel ih =>
    intro listed a w hu h
    refine ⟨hfin listed a w h, fun i hi => ?_⟩
    obtain ⟨o, ho, hlt, hl, hd⟩ := ready_is hi
    obtain ⟨hg, _, hdn, hdist⟩ := plain_at hp ho
    have hstep := hs.at (i := i) (o := o) (by simpa using ho)
    rw [Nat.zero_add] at hstep
    have hunl := unlisted_set h.lsize hlt hl
    unfold wpOp
    rw [ho]
    have hwant : Region.wanted o (yielded ops a.tmps) = true := by unfold Region.wanted; rw [hg]
    simp only [hwant, if_true]
    have hlf : listed.getD i false = false := by
      have : i < listed.size := by rw [h.lsize]; exact hlt
      simp only [Array.getD_eq_getD_getElem?, Array.getElem?_eq_getElem this, Option.getD_some] at hl ⊢
      exact hl
    have hdk : doneBy (listed.setIfInBounds i true) i = true := by unfold doneBy; rw [arrD_set, if_pos ⟨rfl, by rw [h.lsize]; exact hlt⟩]
    have hdo : ∀ j, j ≠ i → doneBy (listed.setIfInBounds i true) j = doneBy listed j := fun j hj => by unfold doneBy; rw [arrD_set, if_neg (fun q => hj q.1.symm)]
    refine .inl (hstep a w _ _ hlf hdk hdo h.closed h.world h.rest (fun j hj => h.good j (hd j hj)) _ (fun v w' hgv hR hTw => ?_))
    refine ih _ _ _ (by omega) ⟨by simp [h.lsize], by rw [put_size]; exact h.tsize, by rw [put_defers]; exact h.defers, fun t ht => ?_, fun j hj => ?_, hR, fun j oj hoj hj k hk => ?_⟩
    · rw [put_getD, if_neg]
      · exact h.rest t ht
      · rintro ⟨e, _⟩
        unfold unwritten at ht
        rw [List.all_eq_true] at ht
        have := ht o (by rw [Array.mem_toList_iff]; exact Array.mem_of_getElem? ho)
        rw [e] at this
        simp at this
    · rw [arrD_set] at hj
      by_cases q : i = j
      · subst q
        unfold GoodAt
        rw [ho]
        cases hdst : o.dst with
        | none => simp [hdst]
        | some d =>
          simp only [Option.bind_some, hdst]
          rw [put_getD, if_pos ⟨rfl, by rw [h.tsize]; exact hdn d hdst⟩]
          exact hgv
      · rw [if_neg (fun hh => q hh.1)] at hj
        have hgj := h.good j hj
        unfold GoodAt at hgj ⊢
        cases hdj : (ops[j]?).bind (·.dst) with
        | none => simp
        | some d =>
          rw [hdj] at hgj
          simp only at hgj ⊢
          rw [put_getD, if_neg]
          · cases hoj : ops[j]? with
            | none => rw [hoj] at hdj; cases hdj
            | some oj =>
              refine hT i j oj _ _ _ (fun e => q e.symm) hoj ?_ hTw hgj
              cases hlean : leans oj i
              · rfl
              · have := h.closed j oj hoj hj i hlean
                rw [hlf] at this
                cases this
          · rintro ⟨e, _⟩
            rcases Nat.lt_or_ge j i with r | r
            · exact hdist j r d hdj e
            · have hji : i < j := by omega
              cases hoj : ops[j]? with
              | none => rw [hoj] at hdj; cases hdj
              | some oj =>
                rw [hoj] at hdj
                exact (plain_at hp hoj).2.2.2 i hji d (by rw [ho]; exact e) hdj
    · rw [arrD_set] at hj ⊢
      by_cases q : i = k ∧ k < listed.size
      · rw [if_pos q]
      · rw [if_neg q]
        by_cases q2 : i = j ∧ j < listed.size
        · obtain ⟨rfl, _⟩ := q2
          rw [ho] at hoj
          cases hoj
          exact hd k hk
        · rw [if_neg q2] at hj
          exact h.closed j oj hoj hj k hk

theorem wp_region_goodsL {G : Nat → Value → World → Prop} {R : (Nat → Bool) → World → Prop} {T : Nat → World → World → Prop} {id : Nat} {a0 : Act} {w : World} (hm : P.follows .mixedOrders = true) (hp : plainForm ops a0.tmps.size = true)
    (hR : ∀ D : Nat → Bool, (∀ j, D j = false) → R D { w with drawn := w.drawn + 1 }) (hT : ∀ k i o v w w', i ≠ k → ops[i]? = some o → leans o k = false → T k w w' → G i v w → G i v w') (hs : GoodStepsL P ops Q G R T a0 0 ops.toList)
    (hend : ∀ a w D, (∀ j, j < ops.size → D j = true) → a.tmps.size = a0.tmps.size → a.defers = a0.defers → R D w → (∀ t, unwritten ops t = true → a.tmps.getD t undef = a0.tmps.getD t undef) → (∀ j, j < ops.size → GoodAt ops G j a w) → Q .normal a w) :
    (Code.region id ops true).wp P Q a0 w := by
  have hnone : ∀ j, (Array.replicate ops.size false).getD j false = false := by
    intro j
    simp only [Array.getD_eq_getD_getElem?, Array.getElem?_replicate]
    split <;> rfl
  refine wp_region_any hm (wpAny_goodsL hp hT hs hend _ _ _ _ ?_ ⟨by simp, rfl, rfl, fun _ _ => rfl, fun j hj => ?_, ?_, fun j _ _ hj => ?_⟩)
  · rw [unlisted_all]
    simp
  · rw [hnone] at hj; cases hj
  · exact hR _ hnone
  · rw [hnone] at hj; cases hj

end

end Go.Proofs.Ytpofkfcjnhoamaa
