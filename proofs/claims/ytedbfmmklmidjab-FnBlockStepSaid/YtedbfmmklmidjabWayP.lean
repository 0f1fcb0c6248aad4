/-
  The shortest texts from a block to another one, plainly: a search in width (the program), and longer and longer texts (the model). No walk.
-/
import Derived.Test.YtedbfmmklmidjabTally
namespace Go.Proofs.Ytedbfmmklmidjab

/-! ### Longer and longer texts -/
def wy : Nat → Nat → Nat → Option (List UInt8)
  | 0, a, b => if a = b then some [] else none
  | n + 1, a, b => match wy n (tg a 0) b with
    | some r => some (lb a 0 :: r)
    | none => if 1 < nl a then (wy n (tg a 1) b).map (lb a 1 :: ·) else none
theorem wy_some {n a b q : Nat} {r : List UInt8} (ha : a < 5) (hq : q < nl a) (hno : ∀ p, p < q → wy n (tg a p) b = none) (h : wy n (tg a q) b = some r) : wy (n + 1) a b = some (lb a q :: r) := by
  have := nl_le ha
  have hn : q = 0 ∨ q = 1 := by omega
  simp only [wy]
  rcases hn with rfl | rfl
  · simp [h]
  · have h0 := hno 0 (by omega)
    simp [h0, h, show 1 < nl a by omega]
theorem wy_none {n a b : Nat} (ha : a < 5) (hno : ∀ p, p < nl a → wy n (tg a p) b = none) : wy (n + 1) a b = none := by
  have := nl_le ha
  have h0 := hno 0 (by omega)
  simp only [wy, h0]
  split
  · rename_i h
    simp [hno 1 h]
  · rfl
def wayFrom (a b : Nat) : Nat → Nat → Option (List UInt8)
  | _, 0 => none
  | n, k + 1 => match wy n a b with
    | some r => some r
    | none => wayFrom a b (n + 1) k
def wayOf (a b : Nat) : Option (List UInt8) := wayFrom a b 0 10
theorem wayFrom_some {a b : Nat} {r : List UInt8} : ∀ (k n0 n : Nat), n0 ≤ n → n < n0 + k → (∀ m, n0 ≤ m → m < n → wy m a b = none) → wy n a b = some r → wayFrom a b n0 k = some r
  | 0, n0, n, h1, h2, _, _ => by omega
  | k + 1, n0, n, h1, h2, hno, h => by
    simp only [wayFrom]
    by_cases e : n = n0
    · subst e; rw [h]
    · rw [hno n0 (Nat.le_refl _) (by omega)]
      exact wayFrom_some k (n0 + 1) n (by omega) (by omega) (fun m a b => hno m (by omega) b) h
theorem wayFrom_none {a b : Nat} : ∀ (k n0 : Nat), (∀ m, n0 ≤ m → m < n0 + k → wy m a b = none) → wayFrom a b n0 k = none
  | 0, _, _ => rfl
  | k + 1, n0, hno => by
    simp only [wayFrom, hno n0 (Nat.le_refl _) (by omega)]
    exact wayFrom_none k (n0 + 1) (fun m a b => hno m (by omega) (by omega))
theorem way_is {a b n : Nat} {r : List UInt8} (hn : n < 10) (hno : ∀ m, m < n → wy m a b = none) (h : wy n a b = some r) : wayOf a b = some r :=
  wayFrom_some 10 0 n (by omega) (by omega) (fun m _ hm => hno m hm) h
theorem way_some : ∀ a, a < 5 → ∀ b, b < 5 → (wayOf a b).isSome = true := by decide +kernel
theorem way_found {a b : Nat} (ha : a < 5) (hb : b < 5) (hno : ∀ m, m < 10 → wy m a b = none) : False := by
  have h1 := way_some a ha b hb
  have h2 : wayOf a b = none := wayFrom_none 10 0 (fun m _ hm => hno m (by omega))
  rw [h2] at h1
  cases h1
theorem wy_short : ∀ n, n < 10 → ∀ a, a < 5 → ∀ b, b < 5 → ((wy n a b).getD []).length ≤ 10 := by decide +kernel

/-! ### A search in width -/
abbrev Wst := List (Option (List UInt8)) × List Nat
def addW (st : Wst) (e q : Nat) : Wst := if (st.1.getD (tg e q) none).isSome then st else (st.1.set (tg e q) (some ((st.1.getD e none).getD [] ++ [lb e q])), st.2 ++ [tg e q])
def inn (st : Wst) (e : Nat) : Nat → Wst
  | 0 => st
  | q + 1 => addW (inn st e q) e q
def bfs (s : Nat) : Nat → Wst
  | 0 => ((List.range 5).map (fun x => if x = s then some [] else none), [s])
  | t + 1 => match (bfs s t).2 with
    | [] => bfs s t
    | e :: qu => inn ((bfs s t).1, qu) e (nl e)
def fWst (st : Wst) : Nat → Option (List UInt8) := fun i => st.1.getD i none
theorem addW_length (st : Wst) (e q : Nat) : (addW st e q).1.length = st.1.length := by
  unfold addW; split <;> simp
theorem inn_length (st : Wst) (e q : Nat) : (inn st e q).1.length = st.1.length := by
  induction q with
  | zero => rfl
  | succ q ih => simp only [inn, addW_length, ih]
theorem bfs_length (s t : Nat) : (bfs s t).1.length = 5 := by
  induction t with
  | zero => simp [bfs]
  | succ t ih =>
    simp only [bfs]
    split
    · exact ih
    · rw [inn_length]; exact ih
theorem bfs_ends : ∀ s, s < 5 → (bfs s 5).2 = [] := by decide +kernel
theorem bfs_goes : ∀ s, s < 5 → ∀ t, t < 5 → (bfs s t).2 ≠ [] ∧ (bfs s t).2.length ≤ 5 ∧ ∀ i ∈ (bfs s t).2, i < 5 := by decide +kernel
theorem bfs_is : ∀ s, s < 5 → ∀ b, b < 5 → fWst (bfs s 5) b = wayOf s b := by decide +kernel
theorem bfs_known : ∀ s, s < 5 → ∀ t, t < 5 → (fWst (bfs s t) ((bfs s t).2.getD 0 0)).isSome = true ∧ ∀ i, i < 5 → ((fWst (bfs s t) i).getD []).length ≤ 10 := by decide +kernel
theorem bfs_inner : ∀ s, s < 5 → ∀ t, t < 5 → ∀ q, q < 3 → (inn ((bfs s t).1, (bfs s t).2.tail) ((bfs s t).2.headD 0) q).2.length ≤ 9 ∧ ∀ i, i < 5 → ((fWst (inn ((bfs s t).1, (bfs s t).2.tail) ((bfs s t).2.headD 0) q) i).getD []).length ≤ 10 := by decide +kernel
theorem addW_known {st : Wst} {e q : Nat} (h : (fWst st (tg e q)).isSome = true) : addW st e q = st := by
  unfold fWst at h
  unfold addW
  rw [if_pos h]
theorem addW_queue {st : Wst} {e q : Nat} (h : fWst st (tg e q) = none) : (addW st e q).2 = st.2 ++ [tg e q] := by
  unfold fWst at h
  unfold addW
  rw [h]
  rfl
theorem addW_ways {st : Wst} {e q : Nat} (hl : st.1.length = 5) (h : fWst st (tg e q) = none) (x : Nat) (hx : x < 5) :
    (if x = tg e q then some ((fWst st e).getD [] ++ [lb e q]) else fWst st x) = fWst (addW st e q) x := by
  unfold fWst at h ⊢
  unfold addW
  rw [h]
  simp only [Option.isSome_none, Bool.false_eq_true, if_false]
  by_cases ex : x = tg e q
  · subst ex
    simp [hl, hx]
  · have : ¬ tg e q = x := fun q => ex q.symm
    simp [ex, this]
theorem start_ways {s : Nat} (x : Nat) (hx : x < 5) : (if x = s then some [] else none) = fWst (bfs s 0) x := by
  unfold fWst
  simp [bfs, hx]
end Go.Proofs.Ytedbfmmklmidjab
