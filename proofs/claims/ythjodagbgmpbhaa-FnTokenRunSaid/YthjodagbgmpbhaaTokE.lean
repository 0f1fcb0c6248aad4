/-
  A text of events done in two parts; how many tokens are drawn and put; all tokens of a state.
-/
import Derived.Test.YthjodagbgmpbhaaTokC
import Derived.Test.YthjodagbgmpbhaaDirG
import Derived.Test.YthjodagbgmpbhaaCnt
namespace Go.Proofs.Ythjodagbgmpbhaa
open Go.RowKit Go.Sort

/-- All tokens of a state. -/
def tkSum (t : Tk) : Int := t.1 + t.2.1 + (if 0 < t.2.2 then 1 else 0)
set_option maxHeartbeats 1000000 in
theorem tokensOf (b : Tk) (hb : tkOk b = true) (w : World) :
    Calls Try.prog 10 #[.agg #[.int .i64 b.1, .int .i64 b.2.1, .int .i64 b.2.2]] w fun e w' => e = .returned (.int .i64 (tkSum b)) ∧ Below w.heap.size w w' := by
  obtain ⟨a, c, o⟩ := b
  have q := tkOk_of hb
  simp only at q
  obtain ⟨⟨q1, q2⟩, ⟨q3, q4⟩, q5, -⟩ := q
  by_cases h : 0 < o
  · have E := Lib.hid (show tkSum (a, c, o) = a + c + 1 by unfold tkSum; rw [if_pos h])
    go_enter Try.func10, Try.ntmps10
    go_wp2_with fail
    go_ret
    exact ⟨ret_int E.out.symm, below_alloc _ _⟩
  · have E := Lib.hid (show tkSum (a, c, o) = a + c by unfold tkSum; rw [if_neg h]; exact Int.add_zero _)
    go_enter Try.func10, Try.ntmps10
    go_wp2_with fail
    go_ret
    exact ⟨ret_int E.out.symm, below_alloc _ _⟩

theorem eqTok3 (a c o : Int) (w : World) : (binOp .eql 24 (.agg #[.int .i64 a, .int .i64 c, .int .i64 o]) (.agg #[.int .i64 a, .int .i64 c, .int .i64 o])).run Try.prog w = .ok (.bool true) w := by
  simp [go_sem, Try.underlying24, Try.underlying3]

theorem neTok3 (a c o : Int) (w : World) : (binOp .neq 24 (.agg #[.int .i64 a, .int .i64 c, .int .i64 o]) (.agg #[.int .i64 a, .int .i64 c, .int .i64 o])).run Try.prog w = .ok (.bool false) w := by
  simp [go_sem, Try.underlying24, Try.underlying3]

theorem tkTo_front {b : Tk} {S : ByteArray} {m : Nat} : ∀ j, j ≤ m → tkTo b (S.extract 0 m) j = tkTo b S j
  | 0, _ => rfl
  | j + 1, h => by
    simp only [tkTo]
    rw [tkTo_front j (by omega), bt_front (by omega : j < m)]
theorem tkTo_back {b x : Tk} {S : ByteArray} {m : Nat} (hx : tkTo b S m = some x) : ∀ j, m + j ≤ S.size → tkTo b S (m + j) = tkTo x (S.extract m S.size) j
  | 0, _ => hx
  | j + 1, h => by
    show tkTo b S ((m + j) + 1) = _
    simp only [tkTo]
    rw [tkTo_back hx j (by omega), bt_back (by omega : m + j < S.size)]
theorem tkRun_facts {b y : Tk} {S : ByteArray} (h : tkRun b S = some y) : tkOk b = true ∧ S.size ≤ 30 ∧ tkTo b S S.size = some y := by
  unfold tkRun at h
  by_cases q : tkOk b = true ∧ S.size ≤ 30
  · rw [if_pos q] at h; exact ⟨q.1, q.2, h⟩
  · rw [if_neg q] at h; cases h
/-- A text done in two parts. -/
theorem tk_parts {b y : Tk} {S : ByteArray} (h : tkRun b S = some y) {k : Nat} (hk : k ≤ S.size) : ∃ x, tkOk x = true ∧ tkRun b (S.extract 0 k) = some x ∧ tkRun x (S.extract k S.size) = some y := by
  obtain ⟨h1, h2, h3⟩ := tkRun_facts h
  have hA : (S.extract 0 k).size = k := by rw [ByteArray.size_extract]; omega
  have hB : (S.extract k S.size).size = S.size - k := by rw [ByteArray.size_extract]; omega
  cases ex : tkTo b S k with
  | none => rw [tkTo_none ex hk] at h3; cases h3
  | some x =>
    have hx := tkTo_ok h1 ex
    refine ⟨x, hx, ?_, ?_⟩
    · rw [tkRun_is h1 (by omega), hA, tkTo_front k (Nat.le_refl _), ex]
    · rw [tkRun_is hx (by omega), hB, ← tkTo_back ex (S.size - k) (by omega), show k + (S.size - k) = S.size by omega, h3]
/-- All tokens stay; what is out has been drawn and not been put. -/
theorem tk_sums {b : Tk} {S : ByteArray} (hb : tkOk b = true) : ∀ (k : Nat) (x : Tk), tkTo b S k = some x → tkSum x = tkSum b ∧ (cntTo S 97 k + cntTo S 98 k) - (cntTo S 112 k + cntTo S 113 k) = min 1 x.2.2 - min 1 b.2.2
  | 0, x, h => by
    simp only [tkTo, Option.some.injEq] at h
    subst h
    exact ⟨rfl, by simp [cntTo]⟩
  | k + 1, x, h => by
    simp only [tkTo] at h
    cases e : tkTo b S k with
    | none => rw [e] at h; cases h
    | some z =>
      rw [e] at h
      simp only [Option.bind_some] at h
      obtain ⟨i1, i2⟩ := tk_sums hb k z e
      have hz := tkTo_ok hb e
      have q := tkOk_of hz
      rw [← i1]
      simp only [cntTo]
      obtain ⟨za, zb, zo⟩ := z
      simp only at q i2
      rcases tkStep_cases h with ⟨c1, c2, c3, rfl⟩ | ⟨c1, c2, c3, rfl⟩ | ⟨c1, rfl⟩ | ⟨c1, rfl⟩
      · simp only at c2
        subst c2
        refine ⟨by simp [tkSum]; omega, ?_⟩
        simp only [c1, Int.reduceEq, reduceIte]
        omega
      · simp only at c2
        subst c2
        refine ⟨by simp [tkSum]; omega, ?_⟩
        simp only [c1, Int.reduceEq, reduceIte]
        omega
      · simp only at c1
        have ho : 0 < zo := by omega
        refine ⟨by simp [tkSum, ho]; omega, ?_⟩
        rcases c1 with ⟨c1, -⟩ | ⟨c1, -⟩
        · simp only [c1, Int.reduceEq, reduceIte]
          omega
        · simp only [c1, Int.reduceEq, reduceIte]
          omega
      · simp only at c1
        have ho : 0 < zo := by omega
        refine ⟨by simp [tkSum, ho]; omega, ?_⟩
        rcases c1 with ⟨c1, -⟩ | ⟨c1, -⟩
        · simp only [c1, Int.reduceEq, reduceIte]
          omega
        · simp only [c1, Int.reduceEq, reduceIte]
          omega
theorem tk_run_sums {b y : Tk} {S : ByteArray} (h : tkRun b S = some y) : tkSum y = tkSum b ∧ (cntTo S 97 S.size + cntTo S 98 S.size) - (cntTo S 112 S.size + cntTo S 113 S.size) = min 1 y.2.2 - min 1 b.2.2 :=
  have q := tkRun_facts h
  tk_sums q.1 _ _ q.2.2

end Go.Proofs.Ythjodagbgmpbhaa
