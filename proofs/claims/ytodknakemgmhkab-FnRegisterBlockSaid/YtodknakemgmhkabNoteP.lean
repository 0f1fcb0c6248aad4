/-
  Registers, plainly. No walk.
-/
import Derived.Test.YtodknakemgmhkabLineP
namespace Go.Proofs.Ytodknakemgmhkab

/-- The letter of an event. -/
def evB (s : ByteArray) : Bool := (List.range 7).any fun k => decide (s = ltS k)
theorem evB_yes {s : ByteArray} {k : Nat} (hk : k < 7) (e : s = ltS k) : evB s = true := by
  unfold evB
  rw [List.any_eq_true]
  exact ⟨k, List.mem_range.2 hk, decide_eq_true e⟩
theorem evB_is {s : ByteArray} (h : evB s = true) : ∃ k, k < 7 ∧ s = ltS k := by
  unfold evB at h
  rw [List.any_eq_true] at h
  obtain ⟨k, hk, e⟩ := h
  exact ⟨k, List.mem_range.1 hk, of_decide_eq_true e⟩
theorem evB_no {s : ByteArray} (h : ∀ k, k < 7 → s ≠ ltS k) : evB s = false := by
  cases e : evB s with
  | false => rfl
  | true => obtain ⟨k, hk, q⟩ := evB_is e; exact absurd q (h k hk)
theorem evB_size {s : ByteArray} (h : evB s = true) : s.size = 1 := by
  obtain ⟨k, _, rfl⟩ := evB_is h
  exact ltS_size k

/-- A note keeps to the one ahead; to the one behind. -/
def lastM (ns : List Mv) : Nat → Int
  | 0 => 0
  | i + 1 => (ns.getD i noMv).1
def fwdAt (ns : List Mv) (i : Nat) : Bool := decide (lastM ns i ≤ (ns.getD i noMv).1 ∧ (ns.getD i noMv).1 ≤ 2000) && evB (ns.getD i noMv).2
def nextM (ns : List Mv) (i : Nat) : Int := if i + 1 < ns.length then (ns.getD (i + 1) noMv).1 else 2000
def bwdAt (ns : List Mv) (i : Nat) : Bool := decide (0 ≤ (ns.getD i noMv).1 ∧ (ns.getD i noMv).1 ≤ nextM ns i) && evB (ns.getD i noMv).2
theorem fwdAt_is {ns : List Mv} {i : Nat} (h : fwdAt ns i = true) : lastM ns i ≤ (ns.getD i noMv).1 ∧ (ns.getD i noMv).1 ≤ 2000 ∧ evB (ns.getD i noMv).2 = true := by
  unfold fwdAt at h
  rw [Bool.and_eq_true] at h
  have := of_decide_eq_true h.1
  exact ⟨this.1, this.2, h.2⟩
theorem fwdAt_of {ns : List Mv} {i : Nat} (h : lastM ns i ≤ (ns.getD i noMv).1) (h2 : (ns.getD i noMv).1 ≤ 2000) (h3 : evB (ns.getD i noMv).2 = true) : fwdAt ns i = true := by
  unfold fwdAt
  rw [h3, decide_eq_true ⟨h, h2⟩]
  rfl
theorem bwdAt_is {ns : List Mv} {i : Nat} (h : bwdAt ns i = true) : 0 ≤ (ns.getD i noMv).1 ∧ (ns.getD i noMv).1 ≤ nextM ns i ∧ evB (ns.getD i noMv).2 = true := by
  unfold bwdAt at h
  rw [Bool.and_eq_true] at h
  have := of_decide_eq_true h.1
  exact ⟨this.1, this.2, h.2⟩
theorem bwdAt_of {ns : List Mv} {i : Nat} (h : 0 ≤ (ns.getD i noMv).1) (h2 : (ns.getD i noMv).1 ≤ nextM ns i) (h3 : evB (ns.getD i noMv).2 = true) : bwdAt ns i = true := by
  unfold bwdAt
  rw [h3, decide_eq_true ⟨h, h2⟩]
  rfl
theorem bwd_of_fwd {ns : List Mv} (h : ∀ i, i < ns.length → fwdAt ns i = true) {i : Nat} (hi : i < ns.length) : bwdAt ns i = true := by
  have nn : ∀ k, k < ns.length → 0 ≤ (ns.getD k noMv).1 := by
    intro k
    induction k with
    | zero => intro hk; have := (fwdAt_is (h 0 hk)).1; simpa [lastM] using this
    | succ k ih => intro hk; have h1 := (fwdAt_is (h (k + 1) hk)).1; have h2 := ih (by omega); simp only [lastM] at h1; omega
  obtain ⟨_, h2, h3⟩ := fwdAt_is (h i hi)
  refine bwdAt_of (nn i hi) ?_ h3
  unfold nextM
  split
  · rename_i q
    have := (fwdAt_is (h (i + 1) q)).1
    simpa [lastM] using this
  · exact h2
theorem fwd_of_bwd {ns : List Mv} (h : ∀ i, i < ns.length → bwdAt ns i = true) {i : Nat} (hi : i < ns.length) : fwdAt ns i = true := by
  have up : ∀ d k, k + d + 1 = ns.length → (ns.getD k noMv).1 ≤ 2000 := by
    intro d
    induction d with
    | zero => intro k hk; have := (bwdAt_is (h k (by omega))).2.1; unfold nextM at this; rw [if_neg (by omega)] at this; exact this
    | succ d ih => intro k hk; have h1 := (bwdAt_is (h k (by omega))).2.1; unfold nextM at h1; rw [if_pos (by omega)] at h1; have := ih (k + 1) (by omega); omega
  obtain ⟨h1, _, h3⟩ := bwdAt_is (h i hi)
  refine fwdAt_of ?_ (up (ns.length - 1 - i) i (by omega)) h3
  cases i with
  | zero => exact h1
  | succ i =>
    have := (bwdAt_is (h i (by omega))).2.1
    unfold nextM at this
    rw [if_pos hi] at this
    exact this

/-- A list is a register. -/
def regB (ns : List Mv) : Bool := decide (ns.length ≤ 30) && (List.range ns.length).all (fwdAt ns)
theorem regB_is {ns : List Mv} (h : regB ns = true) : ns.length ≤ 30 ∧ ∀ i, i < ns.length → fwdAt ns i = true := by
  unfold regB at h
  rw [Bool.and_eq_true, List.all_eq_true] at h
  exact ⟨of_decide_eq_true h.1, fun i hi => h.2 i (List.mem_range.2 hi)⟩
theorem regB_no {ns : List Mv} {i : Nat} (hi : i < ns.length) (h : fwdAt ns i = false) : regB ns = false := by
  cases e : regB ns with
  | false => rfl
  | true => have := (regB_is e).2 i hi; rw [h] at this; cases this
theorem regB_yes {ns : List Mv} (h : ∀ i, i < ns.length → fwdAt ns i = true) : regB ns = decide (ns.length ≤ 30) := by
  unfold regB
  rw [List.all_eq_true.2 (fun i hi => h i (List.mem_range.1 hi)), Bool.and_true]
theorem regB_long {ns : List Mv} (h : 30 < ns.length) : regB ns = false := by
  unfold regB
  rw [decide_eq_false (by omega)]
  rfl
theorem regB_back {ns : List Mv} (hl : ns.length ≤ 30) (h : ∀ i, i < ns.length → bwdAt ns i = true) : regB ns = true := by
  rw [regB_yes (fun i hi => fwd_of_bwd h hi), decide_eq_true hl]
theorem regB_backno {ns : List Mv} {i : Nat} (hi : i < ns.length) (h : bwdAt ns i = false) : regB ns = false := by
  cases e : regB ns with
  | false => rfl
  | true => have := bwd_of_fwd (regB_is e).2 hi; rw [h] at this; cases this
/-- What holds of each note of a register. -/
theorem reg_note {ns : List Mv} (h : regB ns = true) {i : Nat} (hi : i < ns.length) : 0 ≤ (ns.getD i noMv).1 ∧ (ns.getD i noMv).1 ≤ 2000 ∧ evB (ns.getD i noMv).2 = true :=
  ⟨(bwdAt_is (bwd_of_fwd (regB_is h).2 hi)).1, (fwdAt_is ((regB_is h).2 i hi)).2.1, (fwdAt_is ((regB_is h).2 i hi)).2.2⟩

/-- The text of the first k notes. -/
def ntx (ns : List Mv) : Nat → ByteArray
  | 0 => ⟨#[]⟩
  | k + 1 => ntx ns k ++ (ns.getD k noMv).2
def nTx (ns : List Mv) : ByteArray := ntx ns ns.length
theorem ntx_size {ns : List Mv} (h : ∀ i, i < ns.length → evB (ns.getD i noMv).2 = true) {k : Nat} (hk : k ≤ ns.length) : (ntx ns k).size = k := by
  induction k with
  | zero => rfl
  | succ k ih => simp only [ntx]; rw [ByteArray.size_append, ih (by omega), evB_size (h k (by omega))]
theorem reg_size {ns : List Mv} (h : regB ns = true) {k : Nat} (hk : k ≤ ns.length) : (ntx ns k).size = k := ntx_size (fun _ hi => (reg_note h hi).2.2) hk
theorem nTx_size {ns : List Mv} (h : regB ns = true) : (nTx ns).size = ns.length := reg_size h (Nat.le_refl _)
theorem ntx_cons (x : Mv) (r : List Mv) (k : Nat) : ntx (x :: r) (k + 1) = x.2 ++ ntx r k := by
  induction k with
  | zero => apply ByteArray.ext; simp [ntx, ByteArray.data_append]
  | succ k ih => rw [ntx, ih, ntx]; simp [ByteArray.append_assoc]
theorem nTx_cons (x : Mv) (r : List Mv) : nTx (x :: r) = x.2 ++ nTx r := ntx_cons x r r.length
theorem nTx_nil : nTx [] = ⟨#[]⟩ := rfl

/-- The notes up to a minute, plainly. -/
def untL (ns : List Mv) (m : Int) : List Mv := ns.takeWhile fun x => decide (x.1 ≤ m)
theorem untL_yes {x : Mv} {r : List Mv} {m : Int} (h : x.1 ≤ m) : untL (x :: r) m = x :: untL r m := by simp [untL, h]
theorem untL_no {x : Mv} {r : List Mv} {m : Int} (h : m < x.1) : untL (x :: r) m = [] := by simp [untL, show ¬ x.1 ≤ m by omega]
theorem untL_is {ns : List Mv} {m : Int} {n : Nat} (hn : n ≤ ns.length) (h : ∀ i, i < n → (ns.getD i noMv).1 ≤ m) (he : n < ns.length → m < (ns.getD n noMv).1) : untL ns m = ns.take n := by
  induction ns generalizing n with
  | nil => simp [untL]
  | cons x r ih =>
    cases n with
    | zero => rw [untL_no (by simpa using he (by simp))]; rfl
    | succ n =>
      rw [untL_yes (by simpa using h 0 (by omega)), List.take_succ_cons]
      congr 1
      refine ih (by simpa using hn) (fun i hi => ?_) (fun hl => ?_)
      · simpa using h (i + 1) (by omega)
      · simpa using he (by simpa using hl)
theorem untL_length (ns : List Mv) (m : Int) : (untL ns m).length ≤ ns.length := (List.takeWhile_sublist _).length_le

/-- It is sound. -/
def soundB (ns : List Mv) : Bool := regB ns && bkLegal (nTx ns)

end Go.Proofs.Ytodknakemgmhkab
