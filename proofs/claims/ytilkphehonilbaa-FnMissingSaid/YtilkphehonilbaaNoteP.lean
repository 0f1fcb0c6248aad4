/-
  Registers, plainly. No walk.
-/
import Derived.Test.YtilkphehonilbaaLineP
namespace Go.Proofs.Ytilkphehonilbaa

/-- The letter of an event. -/
def evB (s : ByteArray) : Bool := (List.range 7).any fun k => decide (s = ltS k)
theorem evB_yes {s : ByteArray} {k : Nat} (hk : k < 7) (e : s = ltS k) : evB s = true := by
  unfold evB
  rw [List.any_eq_true]
  exact ⟨k, List.mem_range.2 hk, decide_eq_true e⟩
theorem evB_is {s : ByteArray} (h : evB s = true) : ∃ k, k < 7 ∧ s = ltS k := by
  unfold evB at h
  rw [List.any_eq_true] at h
  obtain ⟨k, hk, e⟩ := h
  exact ⟨k, List.mem_range.1 hk, of_decide_eq_true e⟩
theorem evB_no {s : ByteArray} (h : ∀ k, k < 7 → s ≠ ltS k) : evB s = false := by
  cases e : evB s with
  | false => rfl
  | true => obtain ⟨k, hk, q⟩ := evB_is e; exact absurd q (h k hk)
theorem evB_size {s : ByteArray} (h : evB s = true) : s.size = 1 := by
  obtain ⟨k, _, rfl⟩ := evB_is h
  exact ltS_size k

/-- A note keeps to the one ahead; to the one behind. -/
def lastM (ns : List Mv) : Nat → Int
  | 0 => 0
  | i + 1 => (ns.getD i noMv).1
def fwdAt (ns : List Mv) (i : Nat) : Bool := decide (lastM ns i ≤ (ns.getD i noMv).1 ∧ (ns.getD i noMv).1 ≤ 2000) && evB (ns.getD i noMv).2
def nextM (ns : List Mv) (i : Nat) : Int := if i + 1 < ns.length then (ns.getD (i + 1) noMv).1 else 2000
def bwdAt (ns : List Mv) (i : Nat) : Bool := decide (0 ≤ (ns.getD i noMv).1 ∧ (ns.getD i noMv).1 ≤ nextM ns i) && evB (ns.getD i noMv).2
theorem fwdAt_is {ns : List Mv} {i : Nat} (h : fwdAt ns i = true) : lastM ns i ≤ (ns.getD i noMv).1 ∧ (ns.getD i noMv).1 ≤ 2000 ∧ evB (ns.getD i noMv).2 = true := by
  unfold fwdAt at h
  rw [Bool.and_eq_true] at h
  have := of_decide_eq_true h.1
  exact ⟨this.1, this.2, h.2⟩
theorem fwdAt_of {ns : List Mv} {i : Nat} (h : lastM ns i ≤ (ns.getD i noMv).1) (h2 : (ns.getD i noMv).1 ≤ 2000) (h3 : evB (ns.getD i noMv).2 = true) : fwdAt ns i = true := by
  unfold fwdAt
  rw [h3, decide_eq_true ⟨h, h2⟩]
  rfl
theorem bwdAt_is {ns : List Mv} {i : Nat} (h : bwdAt ns i = true) : 0 ≤ (ns.getD i noMv).1 ∧ (ns.getD i noMv).1 ≤ nextM ns i ∧ evB (ns.getD i noMv).2 = true := by
  unfold bwdAt at h
  rw [Bool.and_eq_true] at h
  have := of_decide_eq_true h.1
  exact ⟨this.1, this.2, h.2⟩
theorem bwdAt_of {ns : List Mv} {i : Nat} (h : 0 ≤ (ns.getD i noMv).1) (h2 : (ns.getD i noMv).1 ≤ nextM ns i) (h3 : evB (ns.getD i noMv).2 = true) : bwdAt ns i = true := by
  unfold bwdAt
  rw [h3, decide_eq_true ⟨h, h2⟩]
  rfl
theorem bwd_of_fwd {ns : List Mv} (h : ∀ i, i < ns.length → fwdAt ns i = true) {i : Nat} (hi : i < ns.length) : bwdAt ns i = true := by
  have nn : ∀ k, k < ns.length → 0 ≤ (ns.getD k noMv).1 := by
    intro k
    induction k with
    | zero => intro hk; have := (fwdAt_is (h 0 hk)).1; simpa [lastM] using this
    | succ k ih => intro hk; have h1 := (fwdAt_is (h (k + 1) hk)).1; have h2 := ih (by omega); simp only [lastM] at h1; omega
  obtain ⟨_, h2, h3⟩ := fwdAt_is (h i hi)
  refine bwdAt_of (nn i hi) ?_ h3
  unfold nextM
  split
  · rename_i q
    have := (fwdAt_is (h (i + 1) q)).1
    simpa [lastM] using this
  · exact h2
theorem fwd_of_bwd {ns : List Mv} (h : ∀ i, i < ns.length → bwdAt ns i = true) {i : Nat} (hi : i < ns.length) : fwdAt ns i = true := by
  have up : ∀ d k, k + d + 1 = ns.length → (ns.getD k noMv).1 ≤ 2000 := by
    intro d
    induction d with
    | zero => intro k hk; have := (bwdAt_is (h k (by omega))).2.1; unfold nextM at this; rw [if_neg (by omega)] at this; exact this
    | succ d ih => intro k hk; have h1 := (bwdAt_is (h k (by omega))).2.1; unfold nextM at h1; rw [if_pos (by omega)] at h1; have := ih (k + 1) (by omega); omega
  obtain ⟨h1, _, h3⟩ := bwdAt_is (h i hi)
  refine fwdAt_of ?_ (up (ns.length - 1 - i) i (by omega)) h3
  cases i with
  | zero => exact h1
  | succ i =>
    have := (bwdAt_is (h i (by omega))).2.1
    unfold nextM at this
    rw [if_pos hi] at this
    exact this

/-- A list is a register. -/
def regB (ns : List Mv) : Bool := decide (ns.length ≤ 30) && (List.range ns.length).all (fwdAt ns)
theorem regB_is {ns : List Mv} (h : regB ns = true) : ns.length ≤ 30 ∧ ∀ i, i < ns.length → fwdAt ns i = true := by
  unfold regB at h
  rw [Bool.and_eq_true, List.all_eq_true] at h
  exact ⟨of_decide_eq_true h.1, fun i hi => h.2 i (List.mem_range.2 hi)⟩
theorem regB_no {ns : List Mv} {i : Nat} (hi : i < ns.length) (h : fwdAt ns i = false) : regB ns = false := by
  cases e : regB ns with
  | false => rfl
  | true => have := (regB_is e).2 i hi; rw [h] at this; cases this
theorem regB_yes {ns : List Mv} (h : ∀ i, i < ns.length → fwdAt ns i = true) : regB ns = decide (ns.length ≤ 30) := by
  unfold regB
  rw [List.all_eq_true.2 (fun i hi => h i (List.mem_range.1 hi)), Bool.and_true]
theorem regB_long {ns : List Mv} (h : 30 < ns.length) : regB ns = false := by
  unfold regB
  rw [decide_eq_false (by omega)]
  rfl
theorem regB_back {ns : List Mv} (hl : ns.length ≤ 30) (h : ∀ i, i < ns.length → bwdAt ns i = true) : regB ns = true := by
  rw [regB_yes (fun i hi => fwd_of_bwd h hi), decide_eq_true hl]
theorem regB_backno {ns : List Mv} {i : Nat} (hi : i < ns.length) (h : bwdAt ns i = false) : regB ns = false := by
  cases e : regB ns with
  | false => rfl
  | true => have := bwd_of_fwd (regB_is e).2 hi; rw [h] at this; cases this
/-- What holds of each note of a register. -/
theorem reg_note {ns : List Mv} (h : regB ns = true) {i : Nat} (hi : i < ns.length) : 0 ≤ (ns.getD i noMv).1 ∧ (ns.getD i noMv).1 ≤ 2000 ∧ evB (ns.getD i noMv).2 = true :=
  ⟨(bwdAt_is (bwd_of_fwd (regB_is h).2 hi)).1, (fwdAt_is ((regB_is h).2 i hi)).2.1, (fwdAt_is ((regB_is h).2 i hi)).2.2⟩

/-- The text of the first k notes. -/
def ntx (ns : List Mv) : Nat → ByteArray
  | 0 => ⟨#[]⟩
  | k + 1 => ntx ns k ++ (ns.getD k noMv).2
def nTx (ns : List Mv) : ByteArray := ntx ns ns.length
theorem ntx_size {ns : List Mv} (h : ∀ i, i < ns.length → evB (ns.getD i noMv).2 = true) {k : Nat} (hk : k ≤ ns.length) : (ntx ns k).size = k := by
  induction k with
  | zero => rfl
  | succ k ih => simp only [ntx]; rw [ByteArray.size_append, ih (by omega), evB_size (h k (by omega))]
theorem reg_size {ns : List Mv} (h : regB ns = true) {k : Nat} (hk : k ≤ ns.length) : (ntx ns k).size = k := ntx_size (fun _ hi => (reg_note h hi).2.2) hk
theorem nTx_size {ns : List Mv} (h : regB ns = true) : (nTx ns).size = ns.length := reg_size h (Nat.le_refl _)
theorem ntx_cons (x : Mv) (r : List Mv) (k : Nat) : ntx (x :: r) (k + 1) = x.2 ++ ntx r k := by
  induction k with
  | zero => apply ByteArray.ext; simp [ntx, ByteArray.data_append]
  | succ k ih => rw [ntx, ih, ntx]; simp [ByteArray.append_assoc]
theorem nTx_cons (x : Mv) (r : List Mv) : nTx (x :: r) = x.2 ++ nTx r := ntx_cons x r r.length
theorem nTx_nil : nTx [] = ⟨#[]⟩ := rfl

/-- The notes up to a minute, plainly. -/
def untL (ns : List Mv) (m : Int) : List Mv := ns.takeWhile fun x => decide (x.1 ≤ m)
theorem untL_yes {x : Mv} {r : List Mv} {m : Int} (h : x.1 ≤ m) : untL (x :: r) m = x :: untL r m := by simp [untL, h]
theorem untL_no {x : Mv} {r : List Mv} {m : Int} (h : m < x.1) : untL (x :: r) m = [] := by simp [untL, show ¬ x.1 ≤ m by omega]
theorem untL_is {ns : List Mv} {m : Int} {n : Nat} (hn : n ≤ ns.length) (h : ∀ i, i < n → (ns.getD i noMv).1 ≤ m) (he : n < ns.length → m < (ns.getD n noMv).1) : untL ns m = ns.take n := by
  induction ns generalizing n with
  | nil => simp [untL]
  | cons x r ih =>
    cases n with
    | zero => rw [untL_no (by simpa using he (by simp))]; rfl
    | succ n =>
      rw [untL_yes (by simpa using h 0 (by omega)), List.take_succ_cons]
      congr 1
      refine ih (by simpa using hn) (fun i hi => ?_) (fun hl => ?_)
      · simpa using h (i + 1) (by omega)
      · simpa using he (by simpa using hl)
theorem untL_length (ns : List Mv) (m : Int) : (untL ns m).length ≤ ns.length := (List.takeWhile_sublist _).length_le

/-- It is sound. -/
def soundB (ns : List Mv) : Bool := regB ns && bkLegal (nTx ns)

end Go.Proofs.Ytilkphehonilbaa

/-
  Offsets and slacks of two registers, plainly. No walk.
-/
namespace Go.Proofs.Ytilkphehonilbaa

/-- How much later a note of the second list is. -/
def latN (ms ns : List Mv) (i : Nat) : Int := (ns.getD i noMv).1 - (ms.getD i noMv).1
/-- The least and the greatest offset with which the first k notes agree. -/
def offL (ms ns : List Mv) (sl : Int) : Nat → Int
  | 0 => -30
  | k + 1 => max (offL ms ns sl k) (latN ms ns k - sl)
def offG (ms ns : List Mv) (sl : Int) : Nat → Int
  | 0 => 30
  | k + 1 => min (offG ms ns sl k) (latN ms ns k + sl)
theorem off_agree (ms ns : List Mv) (sl o : Int) (k : Nat) : ((∀ i, i < k → -sl ≤ latN ms ns i - o ∧ latN ms ns i - o ≤ sl) ∧ -30 ≤ o ∧ o ≤ 30) ↔ (offL ms ns sl k ≤ o ∧ o ≤ offG ms ns sl k) := by
  induction k with
  | zero => simp [offL, offG]
  | succ k ih =>
    simp only [offL, offG]
    constructor
    · rintro ⟨h, ho⟩
      have h1 := ih.1 ⟨fun i hi => h i (by omega), ho⟩
      have h2 := h k (by omega)
      omega
    · intro h
      have h1 := ih.2 (by omega)
      refine ⟨fun i hi => ?_, h1.2⟩
      by_cases e : i = k
      · subst e; omega
      · exact h1.1 i (by omega)
theorem off_range (ms ns : List Mv) (sl : Int) (h0 : 0 ≤ sl) (h5 : sl ≤ 5) (k : Nat) (h : ∀ i, i < k → -2000 ≤ latN ms ns i ∧ latN ms ns i ≤ 2000) : -30 ≤ offL ms ns sl k ∧ offL ms ns sl k ≤ 2000 ∧ -2000 ≤ offG ms ns sl k ∧ offG ms ns sl k ≤ 30 := by
  induction k with
  | zero => simp [offL, offG]
  | succ k ih =>
    have h1 := ih fun i hi => h i (by omega)
    have h2 := h k (by omega)
    simp only [offL, offG]
    omega
theorem reg_lat {ms ns : List Mv} (h : regB ms = true) (h' : regB ns = true) (hl : ns.length = ms.length) {i : Nat} (hi : i < ms.length) : -2000 ≤ latN ms ns i ∧ latN ms ns i ≤ 2000 := by
  obtain ⟨a1, a2, _⟩ := reg_note h hi
  obtain ⟨b1, b2, _⟩ := reg_note h' (i := i) (by omega)
  unfold latN
  omega

/-- What the program and the model hand back for an offset. -/
def offO (ms ns : List Mv) (sl : Int) : Option Int :=
  if (regB ms = true ∧ regB ns = true ∧ nTx ms = nTx ns) ∧ (0 ≤ sl ∧ sl ≤ 5) ∧ offL ms ns sl ms.length ≤ offG ms ns sl ms.length then some (offL ms ns sl ms.length) else none
theorem offO_first {ms ns : List Mv} {sl : Int} (h : regB ms = false) : offO ms ns sl = none := by unfold offO; rw [if_neg (by simp [h])]
theorem offO_second {ms ns : List Mv} {sl : Int} (h : regB ns = false) : offO ms ns sl = none := by unfold offO; rw [if_neg (by simp [h])]
theorem offO_text {ms ns : List Mv} {sl : Int} (h : nTx ms ≠ nTx ns) : offO ms ns sl = none := by unfold offO; rw [if_neg (by simp [h])]
theorem offO_slack {ms ns : List Mv} {sl : Int} (h : sl < 0 ∨ 5 < sl) : offO ms ns sl = none := by unfold offO; rw [if_neg (fun q => by omega)]
theorem offO_no {ms ns : List Mv} {sl : Int} (h : offG ms ns sl ms.length < offL ms ns sl ms.length) : offO ms ns sl = none := by unfold offO; rw [if_neg (fun q => by omega)]
theorem offO_yes {ms ns : List Mv} {sl : Int} (h1 : regB ms = true) (h2 : regB ns = true) (h3 : nTx ms = nTx ns) (h4 : 0 ≤ sl) (h5 : sl ≤ 5) (h : offL ms ns sl ms.length ≤ offG ms ns sl ms.length) : offO ms ns sl = some (offL ms ns sl ms.length) := by
  unfold offO
  rw [if_pos ⟨⟨h1, h2, h3⟩, ⟨h4, h5⟩, h⟩]
theorem offO_is {ms ns : List Mv} {sl o : Int} (h : offO ms ns sl = some o) : (regB ms = true ∧ regB ns = true ∧ nTx ms = nTx ns) ∧ (0 ≤ sl ∧ sl ≤ 5) ∧ offL ms ns sl ms.length ≤ offG ms ns sl ms.length ∧ o = offL ms ns sl ms.length := by
  unfold offO at h
  split at h
  · rename_i q
    simp only [Option.some.injEq] at h
    exact ⟨q.1, q.2.1, q.2.2, h.symm⟩
  · cases h
theorem text_length {ms ns : List Mv} (h1 : regB ms = true) (h2 : regB ns = true) (h3 : nTx ms = nTx ns) : ns.length = ms.length := by
  rw [← nTx_size h1, ← nTx_size h2, h3]
def offV (o : Option Int) : Value := .tuple #[.int .i64 (o.getD 0), .bool o.isSome]

/-- The least slack. -/
def slkO (ms ns : List Mv) : Option Int := ((List.range 6).find? fun (k : Nat) => (offO ms ns (k : Int)).isSome).map fun k => ((k : Nat) : Int)
theorem slkO_at {ms ns : List Mv} {k : Nat} (hk : k < 6) (h : ∀ j, j < k → offO ms ns ((j : Nat) : Int) = none) (hs : (offO ms ns ((k : Nat) : Int)).isSome = true) : slkO ms ns = some (k : Int) := by
  unfold slkO
  have e : (List.range 6).find? (fun (k : Nat) => (offO ms ns (k : Int)).isSome) = some k := by
    rw [List.find?_range_eq_some]
    refine ⟨hs, List.mem_range.2 hk, fun j hj => ?_⟩
    simp [h j hj]
  rw [e]
  rfl
theorem slkO_none {ms ns : List Mv} (h : ∀ j, j < 6 → offO ms ns ((j : Nat) : Int) = none) : slkO ms ns = none := by
  unfold slkO
  have e : (List.range 6).find? (fun (k : Nat) => (offO ms ns (k : Int)).isSome) = none := by
    rw [List.find?_range_eq_none]
    intro j hj
    simp [h j hj]
  rw [e]
  rfl

end Go.Proofs.Ytilkphehonilbaa

/-
  Trains, missing notes, later notes, joined ones, those of one section, plainly. No walk.
-/
namespace Go.Proofs.Ytilkphehonilbaa
open Go.RowKit

/-- The byte of a letter. -/
theorem ntx_get {ns : List Mv} {n : Nat} (h : ∀ i, i < ns.length → evB (ns.getD i noMv).2 = true) (hn : n ≤ ns.length) {i : Nat} (hi : i < n) : bt (ntx ns n) i = bt (ns.getD i noMv).2 0 := by
  induction n with
  | zero => omega
  | succ n ih =>
    have hs := ntx_size h (show n ≤ ns.length by omega)
    have hl := evB_size (h n (by omega))
    simp only [ntx]
    by_cases e : i < n
    · rw [← ih (by omega) e]
      unfold bt
      congr 2
      rw [getElem?_pos _ i (by rw [ByteArray.size_append]; omega), getElem?_pos _ i (by omega)]
      rw [ByteArray.getElem_append_left (by omega)]
    · obtain rfl : i = n := by omega
      unfold bt
      congr 2
      rw [getElem?_pos _ i (by rw [ByteArray.size_append]; omega), getElem?_pos _ 0 (by omega)]
      rw [ByteArray.getElem_append_right (by omega)]
      simp only [hs, Nat.sub_self]
theorem reg_bt {ns : List Mv} (h : regB ns = true) {i : Nat} (hi : i < ns.length) : bt (nTx ns) i = bt (ns.getD i noMv).2 0 := ntx_get (fun _ hi => (reg_note h hi).2.2) (Nat.le_refl _) hi
theorem evB_bt {s t : ByteArray} (h : evB s = true) (h' : evB t = true) : s = t ↔ bt s 0 = bt t 0 := by
  obtain ⟨k, hk, rfl⟩ := evB_is h
  obtain ⟨j, hj, rfl⟩ := evB_is h'
  rw [ltr_bt, ltr_bt]
  constructor
  · intro e; rw [← ltr_bt, ← ltr_bt, e]
  · have h1 : k = 0 ∨ k = 1 ∨ k = 2 ∨ k = 3 ∨ k = 4 ∨ k = 5 ∨ k = 6 := by omega
    have h2 : j = 0 ∨ j = 1 ∨ j = 2 ∨ j = 3 ∨ j = 4 ∨ j = 5 ∨ j = 6 := by omega
    rcases h1 with rfl | rfl | rfl | rfl | rfl | rfl | rfl <;> rcases h2 with rfl | rfl | rfl | rfl | rfl | rfl | rfl <;> first | (intro; rfl) | (intro e; exact absurd e (by decide))

/-- In a legal text trains leave just behind their entry. -/
theorem legal_state {S : ByteArray} (h : bkLegal S = true) {k : Nat} (hk : k ≤ S.size) : ∃ x, bkTo nb S k = some x := by
  cases e : bkTo nb S k with
  | none =>
    unfold bkLegal at h
    rw [bkRun_none hk e] at h
    cases h
  | some x => exact ⟨x, rfl⟩
theorem legal_el {S : ByteArray} (h : bkLegal S = true) {i : Nat} (hi : i + 1 < S.size) : bt S i = 101 ↔ bt S (i + 1) = 108 := by
  obtain ⟨x, hx⟩ := legal_state h (k := i) (by omega)
  obtain ⟨y, hy⟩ := legal_state h (k := i + 1) (by omega)
  obtain ⟨z, hz⟩ := legal_state h (k := i + 2) (by omega)
  have hz' := bkTo_succ hy
  rw [hz] at hz'
  have hy' := bkTo_succ hx
  rw [hy] at hy'
  rcases bkStep_cases hy'.symm with ⟨e, _, f⟩ | ⟨e, _, f⟩ | ⟨e, _, f⟩ | ⟨e, _, f⟩ | ⟨e, _, f⟩ | ⟨e, _, f⟩ | ⟨e, _, f⟩ <;> rcases bkStep_cases hz'.symm with ⟨e', f', _⟩ | ⟨e', f', _⟩ | ⟨e', f', _⟩ | ⟨e', f', _⟩ | ⟨e', f', _⟩ | ⟨e', f', _⟩ | ⟨e', f', _⟩ <;> (rw [e, e']; first | (exact absurd (f.symm.trans f') (by decide)) | decide)
theorem legal_l0 {S : ByteArray} (h : bkLegal S = true) (hi : 0 < S.size) : bt S 0 ≠ 108 := by
  obtain ⟨y, hy⟩ := legal_state h (k := 1) (by omega)
  rw [bkTo_succ (show bkTo nb S 0 = some nb from rfl)] at hy
  rcases bkStep_cases hy with ⟨e, f, _⟩ | ⟨e, f, _⟩ | ⟨e, f, _⟩ | ⟨e, f, _⟩ | ⟨e, f, _⟩ | ⟨e, f, _⟩ | ⟨e, f, _⟩ <;> (rw [e]; first | decide | exact absurd f (by decide))

/-- The minutes of all trains that have left among the first k notes. -/
def trT (ns : List Mv) : Nat → List Int
  | 0 => []
  | 1 => []
  | k + 2 => if (ns.getD (k + 1) noMv).2 = ltS 4 then trT ns (k + 1) ++ [(ns.getD (k + 1) noMv).1 - (ns.getD k noMv).1] else trT ns (k + 1)
theorem trT_yes {ns : List Mv} {k : Nat} (h : (ns.getD (k + 1) noMv).2 = ltS 4) : trT ns (k + 2) = trT ns (k + 1) ++ [(ns.getD (k + 1) noMv).1 - (ns.getD k noMv).1] := by simp only [trT]; rw [if_pos h]
theorem trT_no {ns : List Mv} {k : Nat} (h : (ns.getD (k + 1) noMv).2 ≠ ltS 4) : trT ns (k + 2) = trT ns (k + 1) := by simp only [trT]; rw [if_neg h]
theorem trT_length (ns : List Mv) (k : Nat) : (trT ns k).length ≤ k := by
  match k with
  | 0 => simp [trT]
  | 1 => simp [trT]
  | k + 2 =>
    have := trT_length ns (k + 1)
    simp only [trT]
    split
    · rw [List.length_append, List.length_singleton]; omega
    · omega
theorem sound_is {ns : List Mv} (h : soundB ns = true) : regB ns = true ∧ bkLegal (nTx ns) = true := by
  unfold soundB at h
  rwa [Bool.and_eq_true] at h
theorem sound_el {ns : List Mv} (h : soundB ns = true) {i : Nat} (hi : i + 1 < ns.length) : (ns.getD i noMv).2 = ltS 2 ↔ (ns.getD (i + 1) noMv).2 = ltS 4 := by
  obtain ⟨h1, h2⟩ := sound_is h
  have e2 : evB (ltS 2) = true := evB_yes (k := 2) (by omega) rfl
  have e4 : evB (ltS 4) = true := evB_yes (k := 4) (by omega) rfl
  rw [evB_bt (reg_note h1 (i := i) (by omega)).2.2 e2, evB_bt (reg_note h1 hi).2.2 e4, ← reg_bt h1 (i := i) (by omega), ← reg_bt h1 hi, ltr_bt, ltr_bt]
  exact legal_el h2 (by rw [nTx_size h1]; exact hi)
theorem sound_l0 {ns : List Mv} (h : soundB ns = true) (hi : 0 < ns.length) : (ns.getD 0 noMv).2 ≠ ltS 4 := by
  obtain ⟨h1, h2⟩ := sound_is h
  have e4 : evB (ltS 4) = true := evB_yes (k := 4) (by omega) rfl
  intro e
  rw [evB_bt (reg_note h1 hi).2.2 e4, ← reg_bt h1 hi, ltr_bt] at e
  exact legal_l0 h2 (by rw [nTx_size h1]; exact hi) e
def trL (ns : List Mv) : List Int := if soundB ns = true then trT ns ns.length else []

/-- A part of a register is one. -/
theorem reg_pair {ns : List Mv} (h : regB ns = true) {i j : Nat} (hij : i ≤ j) (hj : j < ns.length) : (ns.getD i noMv).1 ≤ (ns.getD j noMv).1 := by
  induction j with
  | zero => obtain rfl : i = 0 := by omega
            exact Int.le_refl _
  | succ j ih =>
    by_cases e : i = j + 1
    · rw [e]; exact Int.le_refl _
    · have h1 := ih (by omega) (by omega)
      have h2 := (fwdAt_is ((regB_is h).2 (j + 1) hj)).1
      simp only [lastM] at h2
      omega
theorem reg_of_pick {ns ms : List Mv} (h : regB ns = true) (f : Nat → Nat) (hl : ms.length ≤ ns.length) (hf : ∀ i, i < ms.length → f i < ns.length ∧ ms.getD i noMv = ns.getD (f i) noMv) (hm : ∀ i, i + 1 < ms.length → f i ≤ f (i + 1)) : regB ms = true := by
  have h30 := (regB_is h).1
  rw [regB_yes ?_, decide_eq_true (by omega)]
  intro i hi
  obtain ⟨f1, f2⟩ := hf i hi
  obtain ⟨n1, n2, n3⟩ := reg_note h f1
  refine fwdAt_of ?_ (by rw [f2]; exact n2) (by rw [f2]; exact n3)
  cases i with
  | zero => rw [f2]; exact n1
  | succ i =>
    obtain ⟨g1, g2⟩ := hf i (by omega)
    simp only [lastM]
    rw [g2, f2]
    exact reg_pair h (hm i hi) f1
theorem reg_but {ns : List Mv} (h : regB ns = true) {i : Nat} (hi : i < ns.length) : regB (ns.eraseIdx i) = true := by
  refine reg_of_pick h (fun j => if j < i then j else j + 1) (by rw [List.length_eraseIdx]; split <;> omega) (fun j hj => ?_) (fun j _ => ?_)
  · rw [List.length_eraseIdx, if_pos hi] at hj
    by_cases q : j < i
    · simp only [if_pos q]
      refine ⟨by omega, ?_⟩
      simp only [List.getD_eq_getElem?_getD, List.getElem?_eraseIdx, if_pos q]
    · simp only [if_neg q]
      refine ⟨by omega, ?_⟩
      simp only [List.getD_eq_getElem?_getD, List.getElem?_eraseIdx, if_neg q]
  · show (if j < i then j else j + 1) ≤ if j + 1 < i then j + 1 else j + 1 + 1
    split <;> split <;> omega
theorem reg_take {ns : List Mv} (h : regB ns = true) (k : Nat) : regB (ns.take k) = true := by
  refine reg_of_pick h (fun j => j) (by rw [List.length_take]; omega) (fun j hj => ?_) (fun j _ => by omega)
  rw [List.length_take] at hj
  refine ⟨by omega, ?_⟩
  simp only [List.getD_eq_getElem?_getD, List.getElem?_take, if_pos (show j < k by omega)]
theorem reg_drop {ns : List Mv} (h : regB ns = true) (k : Nat) : regB (ns.drop k) = true := by
  refine reg_of_pick h (fun j => k + j) (by rw [List.length_drop]; omega) (fun j hj => ?_) (fun j _ => by omega)
  rw [List.length_drop] at hj
  refine ⟨by omega, ?_⟩
  simp only [List.getD_eq_getElem?_getD, List.getElem?_drop]
theorem reg_joined {ms ns : List Mv} (h : regB (ms ++ ns) = true) : regB ms = true ∧ regB ns = true := by
  have h1 := reg_take h ms.length
  have h2 := reg_drop h ms.length
  rw [List.take_left] at h1
  rw [List.drop_left] at h2
  exact ⟨h1, h2⟩
theorem reg_unt {ns : List Mv} (h : regB ns = true) (m : Int) : regB (untL ns m) = true := by
  have e : untL ns m = ns.take (untL ns m).length := by
    have hp : untL ns m <+: ns := List.takeWhile_prefix _
    exact List.prefix_iff_eq_take.1 hp
  rw [e]
  exact reg_take h _

/-- The indexes without which two registers agree. -/
def misTo (ms ns : List Mv) (sl : Int) : Nat → List Int
  | 0 => []
  | k + 1 => if (offO (ms.eraseIdx k) ns sl).isSome then misTo ms ns sl k ++ [(k : Int)] else misTo ms ns sl k
theorem misTo_yes {ms ns : List Mv} {sl : Int} {k : Nat} (h : (offO (ms.eraseIdx k) ns sl).isSome = true) : misTo ms ns sl (k + 1) = misTo ms ns sl k ++ [(k : Int)] := by simp only [misTo]; rw [if_pos h]
theorem misTo_no {ms ns : List Mv} {sl : Int} {k : Nat} (h : (offO (ms.eraseIdx k) ns sl).isSome = false) : misTo ms ns sl (k + 1) = misTo ms ns sl k := by simp only [misTo]; rw [if_neg (by simp [h])]
theorem misTo_length (ms ns : List Mv) (sl : Int) (k : Nat) : (misTo ms ns sl k).length ≤ k := by
  induction k with
  | zero => exact Nat.le_refl _
  | succ k ih => simp only [misTo]; split <;> first | omega | (simp only [List.length_append, List.length_cons, List.length_nil]; omega)
def misL (ms ns : List Mv) (sl : Int) : List Int := if regB ms = true then misTo ms ns sl ms.length else []
theorem misTo_none {ms ns : List Mv} {sl : Int} (h : regB ns = false) (k : Nat) : misTo ms ns sl k = [] := by
  induction k with
  | zero => rfl
  | succ k ih => rw [misTo_no (by rw [offO_second h]; rfl), ih]

/-- All notes later. -/
def latL (ns : List Mv) (k : Int) : List Mv := ns.map fun x => (wrap64 (x.1 + k), x.2)
theorem latL_length (ns : List Mv) (k : Int) : (latL ns k).length = ns.length := List.length_map ..
theorem latL_get {ns : List Mv} {k : Int} {i : Nat} (hi : i < ns.length) : (latL ns k).getD i noMv = (wrap64 ((ns.getD i noMv).1 + k), (ns.getD i noMv).2) := by
  simp [latL, hi]
theorem latL_far {ns : List Mv} {k : Int} (h : regB ns = true) (hk : -9223372036854775808 ≤ k ∧ k ≤ 9223372036854775807) (hf : k < -2000 ∨ 2000 < k) (h0 : ns ≠ []) : regB (latL ns k) = false := by
  have hpos : 0 < ns.length := List.length_pos_iff.2 h0
  obtain ⟨n1, n2, _⟩ := reg_note h hpos
  cases e : regB (latL ns k) with
  | false => rfl
  | true =>
    obtain ⟨m1, m2, _⟩ := reg_note e (i := 0) (by rw [latL_length]; exact hpos)
    rw [latL_get hpos] at m1 m2
    simp only at m1 m2
    unfold wrap64 at m1 m2
    omega

end Go.Proofs.Ytilkphehonilbaa

/-
  The notes of one section; the notes that repair a register, plainly. No walk.
-/
namespace Go.Proofs.Ytilkphehonilbaa
open Go.RowKit

/-- The notes of one section among the first j moves. -/
def ofTo (ms : List Mv) (ts : List Int) (k : Int) : Nat → List Mv
  | 0 => []
  | j + 1 => if (ms.getD j noMv).1 = k then ofTo ms ts k j ++ [(ts.getD j 0, (ms.getD j noMv).2)] else ofTo ms ts k j
theorem ofTo_yes {ms : List Mv} {ts : List Int} {k : Int} {j : Nat} (h : (ms.getD j noMv).1 = k) : ofTo ms ts k (j + 1) = ofTo ms ts k j ++ [(ts.getD j 0, (ms.getD j noMv).2)] := by simp only [ofTo]; rw [if_pos h]
theorem ofTo_no {ms : List Mv} {ts : List Int} {k : Int} {j : Nat} (h : (ms.getD j noMv).1 ≠ k) : ofTo ms ts k (j + 1) = ofTo ms ts k j := by simp only [ofTo]; rw [if_neg h]
theorem ofTo_length (ms : List Mv) (ts : List Int) (k : Int) (j : Nat) : (ofTo ms ts k j).length ≤ j := by
  induction j with
  | zero => exact Nat.le_refl _
  | succ j ih => simp only [ofTo]; split <;> first | omega | (simp only [List.length_append, List.length_cons, List.length_nil]; omega)

/-- The least place at which a longer text differs. -/
def dif (S T : ByteArray) : Nat := ((List.range S.size).find? fun i => decide (bt S i ≠ bt T i)).getD S.size
theorem dif_is {S T : ByteArray} {k : Nat} (hk : k ≤ S.size) (h : ∀ i, i < k → bt S i = bt T i) (hd : k < S.size → bt S k ≠ bt T k) : dif S T = k := by
  unfold dif
  by_cases e : k < S.size
  · have : (List.range S.size).find? (fun i => decide (bt S i ≠ bt T i)) = some k := by
      rw [List.find?_range_eq_some]
      refine ⟨decide_eq_true (hd e), List.mem_range.2 e, fun j hj => ?_⟩
      simp [h j hj]
    rw [this]
    rfl
  · obtain rfl : k = S.size := by omega
    have : (List.range S.size).find? (fun i => decide (bt S i ≠ bt T i)) = none := by
      rw [List.find?_range_eq_none]
      intro j hj
      simp [h j hj]
    rw [this]
    rfl
theorem dif_le (S T : ByteArray) : dif S T ≤ S.size := by
  unfold dif
  cases e : (List.range S.size).find? (fun i => decide (bt S i ≠ bt T i)) with
  | none => exact Nat.le_refl _
  | some k => have := List.mem_of_find?_eq_some e; have := List.mem_range.1 this; show k ≤ S.size; omega
/-- The note that repairs. -/
def fixN (ns : List Mv) (T : ByteArray) : Mv := (lastM ns (dif (nTx ns) T), T.extract (dif (nTx ns) T) (dif (nTx ns) T + 1))
def fixL (ns : List Mv) (Ts : List ByteArray) : List Mv := Ts.map (fixN ns)
def fixI (ns : List Mv) (Ts : List ByteArray) : List Int := Ts.map fun T => ((dif (nTx ns) T : Nat) : Int)

/-- Parts of one byte, and beginnings that are equal. -/
theorem one_size {T : ByteArray} {i : Nat} (h : i < T.size) : (T.extract i (i + 1)).size = 1 := by rw [ByteArray.size_extract]; omega
theorem one_bt {T : ByteArray} {i : Nat} (h : i < T.size) : bt (T.extract i (i + 1)) 0 = bt T i := by
  unfold bt
  congr 2
  rw [getElem?_pos _ 0 (by rw [one_size h]; omega), getElem?_pos _ i h, ByteArray.getElem_extract]
  rfl
theorem size_one_ext {s t : ByteArray} (h : s.size = 1) (h' : t.size = 1) (e : bt s 0 = bt t 0) : s = t := by
  apply ByteArray.ext_getElem (by omega)
  intro i h1 h2
  obtain rfl : i = 0 := by omega
  unfold bt at e
  rw [getElem?_pos s 0 h1, getElem?_pos t 0 h2] at e
  simp only [Option.getD_some] at e
  exact UInt8.toNat_inj.1 (by omega)
theorem begin_eq {S T : ByteArray} {k : Nat} (hS : k ≤ S.size) (hT : k ≤ T.size) (h : ∀ i, i < k → bt S i = bt T i) : T.extract 0 k = S.extract 0 k := by
  apply ByteArray.ext_getElem (by rw [ByteArray.size_extract, ByteArray.size_extract]; omega)
  intro i h1 h2
  rw [ByteArray.size_extract] at h1 h2
  have e := h i (by omega)
  unfold bt at e
  rw [getElem?_pos S i (by omega), getElem?_pos T i (by omega)] at e
  simp only [Option.getD_some] at e
  have e2 : S[i]'(by omega) = T[i]'(by omega) := UInt8.toNat_inj.1 (by omega)
  rw [ByteArray.getElem_extract, ByteArray.getElem_extract]
  simp only [Nat.zero_add]
  exact e2.symm
theorem begin_ne {S T : ByteArray} {k : Nat} (hS : k < S.size) (hT : k < T.size) (h : bt S k ≠ bt T k) : T.extract 0 (k + 1) ≠ S.extract 0 (k + 1) := by
  intro e
  apply h
  have e1 : bt (T.extract 0 (k + 1)) k = bt T k := by
    unfold bt
    congr 2
    rw [getElem?_pos _ k (by rw [ByteArray.size_extract]; omega), getElem?_pos _ k hT, ByteArray.getElem_extract]
    simp only [Nat.zero_add]
  have e2 : bt (S.extract 0 (k + 1)) k = bt S k := by
    unfold bt
    congr 2
    rw [getElem?_pos _ k (by rw [ByteArray.size_extract]; omega), getElem?_pos _ k hS, ByteArray.getElem_extract]
    simp only [Nat.zero_add]
  rw [← e1, ← e2, e]

end Go.Proofs.Ytilkphehonilbaa
