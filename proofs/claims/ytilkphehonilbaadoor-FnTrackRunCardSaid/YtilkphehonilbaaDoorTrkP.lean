/-
  Tracks, plainly: so many circuits, and a number whose bits say which are occupied. No walk.
-/
import Derived.Test.YtilkphehonilbaaDoorTokP
namespace Go.Proofs.YtilkphehonilbaaDoor

/-- One circuit changed. -/
def fl (o i : Nat) : Nat := o ^^^ 2 ^ i
/-- Can a circuit of n change? -/
def can (n o i : Nat) : Bool := if o.testBit i then decide (i + 1 = n) || o.testBit (i + 1) else decide (i = 0) || o.testBit (i - 1)
def trL (n o : Nat) : List UInt8 := (List.range n).map fun i => if o.testBit i then 49 else 48
def trS (n o : Nat) : ByteArray := ⟨(trL n o).toArray⟩
/-- The occupied ones among the first k letters. -/
def ocTo (S : ByteArray) : Nat → Nat
  | 0 => 0
  | k + 1 => if bt S k = 49 then fl (ocTo S k) k else ocTo S k
def oc (S : ByteArray) : Nat := ocTo S S.size
def trB (S : ByteArray) : Bool := decide (1 ≤ S.size ∧ S.size ≤ 8) && onlyB 48 49 S
theorem trB_of {S : ByteArray} (h : trB S = true) : (1 ≤ S.size ∧ S.size ≤ 8) ∧ ∀ j, j < S.size → bt S j = 48 ∨ bt S j = 49 := by
  unfold trB at h
  simp only [Bool.and_eq_true, decide_eq_true_eq] at h
  exact ⟨h.1, onlyB_of h.2⟩
theorem trB_long {S : ByteArray} (h : S.size < 1 ∨ 8 < S.size) : trB S = false := by
  unfold trB
  rw [decide_eq_false (by omega), Bool.false_and]
theorem trB_is {S : ByteArray} (h : 1 ≤ S.size ∧ S.size ≤ 8) : trB S = onlyB 48 49 S := by
  unfold trB
  rw [decide_eq_true h, Bool.true_and]

theorem fl_bit (o i j : Nat) : (fl o i).testBit j = (o.testBit j != decide (i = j)) := by
  unfold fl
  rw [Nat.testBit_xor, Nat.testBit_two_pow]
theorem fl_self (o i : Nat) : (fl o i).testBit i = !o.testBit i := by rw [fl_bit]; simp
theorem fl_other {o i j : Nat} (h : i ≠ j) : (fl o i).testBit j = o.testBit j := by rw [fl_bit, decide_eq_false h]; simp
theorem fl_lt {n o i : Nat} (hi : i < n) (ho : o < 2 ^ n) : fl o i < 2 ^ n := Nat.xor_lt_two_pow ho (Nat.pow_lt_pow_of_lt (by omega) hi)
theorem fl_fl (o i : Nat) : fl (fl o i) i = o := by
  unfold fl
  rw [Nat.xor_assoc, Nat.xor_self, Nat.xor_zero]
theorem bit_big {n o i : Nat} (ho : o < 2 ^ n) (hi : n ≤ i) : o.testBit i = false := Nat.testBit_lt_two_pow (Nat.lt_of_lt_of_le ho (Nat.pow_le_pow_right (by omega) hi))
theorem oc_bit (S : ByteArray) (k i : Nat) : (ocTo S k).testBit i = (decide (i < k) && decide (bt S i = 49)) := by
  induction k with
  | zero => simp [ocTo]
  | succ k ih =>
    simp only [ocTo]
    by_cases e : k = i
    · subst e
      split
      · rename_i h; rw [fl_self, ih]; simp [h]
      · rename_i h; rw [ih]; simp [h]
    · have hd : decide (i < k + 1) = decide (i < k) := decide_eq_decide.2 ⟨fun h => by omega, fun h => by omega⟩
      rw [hd]
      split
      · rw [fl_other e, ih]
      · exact ih
theorem oc_lt (S : ByteArray) (k : Nat) : ocTo S k < 2 ^ k := by
  apply Nat.lt_pow_two_of_testBit
  intro i hi
  rw [oc_bit, decide_eq_false (by omega), Bool.false_and]
theorem oc_lt2 {S : ByteArray} (h : trB S = true) : oc S < 2 ^ S.size ∧ oc S < 256 := by
  have h1 := oc_lt S S.size
  have h2 : 2 ^ S.size ≤ 2 ^ 8 := Nat.pow_le_pow_right (by omega) (trB_of h).1.2
  exact ⟨h1, Nat.lt_of_lt_of_le h1 h2⟩
theorem oc_at {S : ByteArray} {i : Nat} (h : trB S = true) (hi : i < S.size) : bt S i = if (oc S).testBit i then 49 else 48 := by
  have := oc_bit S S.size i
  rw [decide_eq_true hi, Bool.true_and] at this
  unfold oc
  rw [this]
  rcases (trB_of h).2 i hi with e | e <;> simp [e]

theorem trL_length (n o : Nat) : (trL n o).length = n := by simp [trL]
theorem trS_size (n o : Nat) : (trS n o).size = n := trL_length n o
theorem trS_bt {n o i : Nat} (hi : i < n) : bt (trS n o) i = if o.testBit i then 49 else 48 := by
  have hs : i < (trS n o).size := by rw [trS_size]; exact hi
  rw [← bt_get hs]
  have e : (trS n o)[i]'hs = (trL n o)[i]'(by rw [trL_length]; exact hi) := rfl
  rw [e]
  unfold trL
  rw [List.getElem_map, List.getElem_range]
  split <;> rfl
theorem text_eq {S T : ByteArray} (hs : S.size = T.size) (h : ∀ i, i < S.size → bt S i = bt T i) : S = T := by
  apply ByteArray.ext_getElem hs
  intro i h1 h2
  have := h i h1
  rw [← bt_get h1, ← bt_get h2] at this
  exact UInt8.toNat_inj.1 (Int.ofNat_inj.1 this)
/-- A track is the text of its bits. -/
theorem tr_is {S : ByteArray} (h : trB S = true) : S = trS S.size (oc S) :=
  text_eq (trS_size _ _).symm (fun i hi => by rw [oc_at h hi, trS_bt hi])
theorem trS_only (n o : Nat) : onlyB 48 49 (trS n o) = true := by
  apply onlyB_yes
  intro j hj
  rw [trS_size] at hj
  rw [trS_bt hj]
  split
  · exact .inr rfl
  · exact .inl rfl
theorem trS_ok {n o : Nat} (h : 1 ≤ n ∧ n ≤ 8) : trB (trS n o) = true := by
  rw [trB_is (by rw [trS_size]; exact h)]
  exact trS_only n o
theorem oc_of {n o : Nat} (ho : o < 2 ^ n) : oc (trS n o) = o := by
  apply Nat.eq_of_testBit_eq
  intro i
  unfold oc
  rw [oc_bit, trS_size]
  by_cases hi : i < n
  · rw [decide_eq_true hi, trS_bt hi]
    cases o.testBit i <;> simp
  · rw [decide_eq_false hi, bit_big ho (by omega)]
    rfl
theorem trS_inj {n o p : Nat} (ho : o < 2 ^ n) (hp : p < 2 ^ n) (h : trS n o = trS n p) : o = p := by
  rw [← oc_of ho, ← oc_of hp, h]

/-- A text with one letter exchanged. -/
theorem step_text {S : ByteArray} {i : Nat} (h : trB S = true) (hi : i < S.size) (b : UInt8) (hb : (b.toNat : Int) = if (oc S).testBit i then 48 else 49) :
    S.extract 0 i ++ ⟨#[b]⟩ ++ S.extract (i + 1) S.size = trS S.size (fl (oc S) i) := by
  have z1 : (S.extract 0 i).size = i := by rw [ByteArray.size_extract]; omega
  have z2 : (ByteArray.mk #[b]).size = 1 := rfl
  have z3 : (S.extract (i + 1) S.size).size = S.size - (i + 1) := by rw [ByteArray.size_extract]; omega
  refine text_eq ?_ ?_
  · rw [trS_size, ByteArray.size_append, ByteArray.size_append, z1, z2, z3]; omega
  · intro j hj
    rw [ByteArray.size_append, ByteArray.size_append, z1, z2, z3] at hj
    have hj' : j < S.size := by omega
    have hs : j < (S.extract 0 i ++ ⟨#[b]⟩ ++ S.extract (i + 1) S.size).size := by rw [ByteArray.size_append, ByteArray.size_append, z1, z2, z3]; exact hj
    rw [trS_bt hj', ← bt_get hs]
    by_cases e : j = i
    · subst e
      rw [fl_self, ByteArray.getElem_append_left (by rw [ByteArray.size_append, z1, z2]; omega), ByteArray.getElem_append_right (by rw [z1]; omega)]
      simp only [z1, Nat.sub_self]
      have : (ByteArray.mk #[b])[0] = b := rfl
      rw [this, hb]
      cases (oc S).testBit j <;> rfl
    · rw [fl_other (fun q => e q.symm), ← oc_at h hj', ← bt_get hj']
      by_cases l : j < i
      · rw [ByteArray.getElem_append_left (by rw [ByteArray.size_append, z1, z2]; omega), ByteArray.getElem_append_left (by rw [z1]; exact l), ByteArray.getElem_extract]
        simp
      · rw [ByteArray.getElem_append_right (by rw [ByteArray.size_append, z1, z2]; omega), ByteArray.getElem_extract]
        simp only [ByteArray.size_append, z1, z2, show i + 1 + (j - (i + 1)) = j by omega]

/-- What a step hands back. -/
def stR (n o i : Nat) : Value := .tuple #[.string (if can n o i then trS n (fl o i) else ⟨#[]⟩), .bool (can n o i)]
theorem stR_yes {n o i : Nat} (h : can n o i = true) : stR n o i = .tuple #[.string (trS n (fl o i)), .bool true] := by unfold stR; rw [h]; rfl
theorem stR_no {n o i : Nat} (h : can n o i = false) : stR n o i = .tuple #[.string ⟨#[]⟩, .bool false] := by unfold stR; rw [h]; rfl
/-- The circuits below k that can change. -/
def nxC (n o : Nat) : Nat → List Int
  | 0 => []
  | k + 1 => if can n o k then nxC n o k ++ [(k : Int)] else nxC n o k
theorem nxC_yes {n o k : Nat} (h : can n o k = true) : nxC n o (k + 1) = nxC n o k ++ [(k : Int)] := by simp [nxC, h]
theorem nxC_no {n o k : Nat} (h : can n o k = false) : nxC n o (k + 1) = nxC n o k := by simp [nxC, h]
theorem nxC_length (n o k : Nat) : (nxC n o k).length ≤ k := by
  induction k with
  | zero => exact Nat.le_refl _
  | succ k ih => simp only [nxC]; split <;> first | omega | (simp only [List.length_append, List.length_cons, List.length_nil]; omega)
def nxT (S : ByteArray) : List Int := if trB S then nxC S.size (oc S) S.size else []
/-- The blocks that begin among the first k circuits. -/
def blC (o : Nat) : Nat → Nat
  | 0 => 0
  | k + 1 => blC o k + (if o.testBit k && (decide (k = 0) || !o.testBit (k - 1)) then 1 else 0)
theorem blC_le (o k : Nat) : blC o k ≤ k := by
  induction k with
  | zero => exact Nat.le_refl _
  | succ k ih => simp only [blC]; split <;> omega
def blT (S : ByteArray) : Int := if trB S then (blC (oc S) S.size : Int) else -1
theorem blC_more {n o : Nat} (ho : o < 2 ^ n) (k : Nat) : blC o (n + k) = blC o n := by
  induction k with
  | zero => rfl
  | succ k ih => rw [← Nat.add_assoc]; simp only [blC]; rw [ih, bit_big ho (by omega)]; simp
/-- Is a track a step from another one? -/
def isSt (n o p : Nat) : Bool := (List.range n).any fun i => can n o i && fl o i == p
theorem isSt_of {n o p i : Nat} (hi : i < n) (hc : can n o i = true) (h : fl o i = p) : isSt n o p = true := by
  unfold isSt
  rw [List.any_eq_true]
  exact ⟨i, List.mem_range.2 hi, by rw [hc, h]; simp⟩
theorem isSt_is {n o p : Nat} (h : isSt n o p = true) : ∃ i, i < n ∧ can n o i = true ∧ fl o i = p := by
  unfold isSt at h
  rw [List.any_eq_true] at h
  obtain ⟨i, hi, h⟩ := h
  simp only [Bool.and_eq_true, beq_iff_eq] at h
  exact ⟨i, List.mem_range.1 hi, h.1, h.2⟩
/-- The opposite order. -/
def rvTo (n o : Nat) : Nat → Nat
  | 0 => 0
  | k + 1 => if o.testBit (n - 1 - k) then fl (rvTo n o k) k else rvTo n o k
def rv (n o : Nat) : Nat := rvTo n o n
theorem rv_bit (n o k i : Nat) : (rvTo n o k).testBit i = (decide (i < k) && o.testBit (n - 1 - i)) := by
  induction k with
  | zero => simp [rvTo]
  | succ k ih =>
    simp only [rvTo]
    by_cases e : k = i
    · subst e
      split
      · rename_i h; rw [fl_self, ih]; simp [h]
      · rename_i h; rw [ih]; simp [h]
    · have hd : decide (i < k + 1) = decide (i < k) := decide_eq_decide.2 ⟨fun h => by omega, fun h => by omega⟩
      rw [hd]
      split
      · rw [fl_other e, ih]
      · exact ih
theorem rv_lt (n o : Nat) : rv n o < 2 ^ n := by
  apply Nat.lt_pow_two_of_testBit
  intro i hi
  unfold rv
  rw [rv_bit, decide_eq_false (by omega), Bool.false_and]

end Go.Proofs.YtilkphehonilbaaDoor
