/-
  The readings of a ring, counted from its end, plainly. No condition; nothing of the program is imported.
-/
import Derived.Test.YtcfnklpbiodhjaaBookP
import Derived.IntWalk
namespace Go.Proofs.Ytcfnklpbiodhjaa

/-- How many readings, how many codes the best has, and its first one. -/
abbrev Tri := Int × Int × Int
/-- The numbers of 64 bits. -/
def In64 (x : Int) : Prop := -9223372036854775808 ≤ x ∧ x ≤ 9223372036854775807

/-- Code k stands at place p of the ring. -/
def here (bk : List (List Int)) (rs : List Int) (p k : Nat) : Bool := decide (bk.getD k [] = (rs.drop p).take (bk.getD k []).length)
def clen (bk : List (List Int)) (k : Nat) : Nat := (bk.getD k []).length

def step3 (t : Nat → Tri) (bk : List (List Int)) (rs : List Int) (p : Nat) (acc : Tri) (k : Nat) : Tri :=
  if here bk rs p k then
    if (t (p + clen bk k)).1 = 0 then acc
    else (IntKind.i64.wrap (acc.1 + (t (p + clen bk k)).1), if acc.1 = 0 ∨ (t (p + clen bk k)).2.1 + 1 < acc.2.1 then ((t (p + clen bk k)).2.1 + 1, (k : Int)) else acc.2)
  else acc
/-- The outlook at place p by the first k codes, where t tells the outlooks behind it. -/
def rowTo (t : Nat → Tri) (bk : List (List Int)) (rs : List Int) (p : Nat) : Nat → Tri
  | 0 => (0, 0, 0)
  | k + 1 => step3 t bk rs p (rowTo t bk rs p k) k
/-- The outlooks of the last d places. -/
def tab (bk : List (List Int)) (rs : List Int) : Nat → Nat → Tri
  | 0 => fun q => if q = rs.length then (1, 0, 0) else (0, 0, 0)
  | d + 1 => fun q => if q + (d + 1) = rs.length then rowTo (tab bk rs d) bk rs q bk.length else tab bk rs d q
/-- The number of readings alone. -/
def rowW (t : Nat → Int) (bk : List (List Int)) (rs : List Int) (p : Nat) : Nat → Int
  | 0 => 0
  | k + 1 => if here bk rs p k then IntKind.i64.wrap (rowW t bk rs p k + t (p + clen bk k)) else rowW t bk rs p k

theorem wrap_is (x : Int) : IntKind.i64.wrap x = RowKit.wrap64 x := by
  rw [IntKind.wrap_i64]
  unfold RowKit.wrap64
  rfl
theorem wrap_in (x : Int) : In64 (IntKind.i64.wrap x) := by
  rw [IntKind.wrap_i64]
  unfold In64
  omega
theorem wrap_same {x : Int} (h : In64 x) : IntKind.i64.wrap x = x := IntWalk.i64_in _ (by unfold In64 at h; omega)

/-- Where a code stands, there is room for it. -/
theorem here_room {bk : List (List Int)} {rs : List Int} {p k : Nat} (h : here bk rs p k = true) (h1 : 1 ≤ clen bk k) : p + clen bk k ≤ rs.length := by
  unfold here at h
  have e := congrArg List.length (of_decide_eq_true h)
  rw [List.length_take, List.length_drop] at e
  unfold clen at *
  omega

structure TriOk (n p : Nat) (x : Tri) : Prop where
  many : In64 x.1
  codes0 : 0 ≤ x.2.1
  codes : x.2.1 + (p : Int) ≤ (n : Int) ∨ x.2.1 = 0
  first0 : 0 ≤ x.2.2
  first : x.2.2 ≤ 1048576

theorem TriOk.zero (n p : Nat) : TriOk n p (0, 0, 0) := ⟨by simp [In64], by simp, .inr rfl, by simp, by simp⟩

/-- The codes of a book have groups. -/
def Lens (bk : List (List Int)) : Prop := ∀ k, k < bk.length → 1 ≤ clen bk k ∧ clen bk k ≤ 5
theorem lens_of {bk : List (List Int)} (h : bookB bk = true) : Lens bk := by
  intro k hk
  have h' := (bookB_is h).1.1 k hk
  simp only [groupsB, Bool.and_eq_true, decide_eq_true_eq] at h'
  unfold clen
  omega

theorem step3_ok {t : Nat → Tri} {bk : List (List Int)} {rs : List Int} {p k : Nat} {acc : Tri} (hl : 1 ≤ clen bk k) (hk : k ≤ 1048576) (ht : ∀ q, p < q → q ≤ rs.length → TriOk rs.length q (t q)) (h : TriOk rs.length p acc) : TriOk rs.length p (step3 t bk rs p acc k) := by
  unfold step3
  split
  · rename_i hh
    have hroom := here_room hh hl
    have hr := ht (p + clen bk k) (by omega) hroom
    have c0 := hr.codes0
    have c1 := hr.codes
    split
    · exact h
    · refine ⟨wrap_in _, ?_, ?_, ?_, ?_⟩
      · show 0 ≤ (if _ then _ else _ : Int × Int).1
        split
        · show 0 ≤ (t (p + clen bk k)).2.1 + 1; omega
        · exact h.codes0
      · show (if _ then _ else _ : Int × Int).1 + _ ≤ _ ∨ (if _ then _ else _ : Int × Int).1 = 0
        split
        · left
          show (t (p + clen bk k)).2.1 + 1 + (p : Int) ≤ _
          omega
        · exact h.codes
      · show 0 ≤ (if _ then _ else _ : Int × Int).2
        split
        · show (0 : Int) ≤ (k : Int); omega
        · exact h.first0
      · show (if _ then _ else _ : Int × Int).2 ≤ _
        split
        · show (k : Int) ≤ _; omega
        · exact h.first
  · exact h
theorem rowTo_ok {t : Nat → Tri} {bk : List (List Int)} {rs : List Int} {p : Nat} (hl : Lens bk) (hb : bk.length ≤ 1048576) (ht : ∀ q, p < q → q ≤ rs.length → TriOk rs.length q (t q)) (k : Nat) (hk : k ≤ bk.length) : TriOk rs.length p (rowTo t bk rs p k) := by
  induction k with
  | zero => exact TriOk.zero _ _
  | succ k ih => exact step3_ok (hl k (by omega)).1 (by omega) ht (ih (by omega))
theorem tab_ok {bk : List (List Int)} {rs : List Int} (hl : Lens bk) (hb : bk.length ≤ 1048576) (d q : Nat) : TriOk rs.length q (tab bk rs d q) := by
  induction d generalizing q with
  | zero =>
    simp only [tab]
    split
    · exact ⟨by simp [In64], by simp, .inr rfl, by simp, by simp⟩
    · exact TriOk.zero _ _
  | succ d ih =>
    simp only [tab]
    split
    · exact rowTo_ok hl hb (fun q _ _ => ih q) _ (Nat.le_refl _)
    · exact ih q

theorem rowW_is {t : Nat → Tri} {bk : List (List Int)} {rs : List Int} {p : Nat} (hl : Lens bk) (hb : bk.length ≤ 1048576) (ht : ∀ q, p < q → q ≤ rs.length → TriOk rs.length q (t q)) (k : Nat) (hk : k ≤ bk.length) : rowW (fun q => (t q).1) bk rs p k = (rowTo t bk rs p k).1 := by
  induction k with
  | zero => rfl
  | succ k ih =>
    have i := ih (by omega)
    have o := (rowTo_ok hl hb ht k (by omega)).many
    simp only [rowW, rowTo, step3]
    split
    · rw [i]
      split
      · rename_i h0
        rw [h0, Int.add_zero]
        exact wrap_same o
      · rfl
    · exact i

/-- What is known of the ring's ends is all that a row asks for. -/
theorem rowTo_congr {t u : Nat → Tri} {bk : List (List Int)} {rs : List Int} {p : Nat} (hl : Lens bk) (h : ∀ q, p < q → q ≤ rs.length → t q = u q) (k : Nat) (hk : k ≤ bk.length) : rowTo t bk rs p k = rowTo u bk rs p k := by
  induction k with
  | zero => rfl
  | succ k ih =>
    have hlk := (hl k (by omega)).1
    simp only [rowTo, step3, ih (by omega)]
    split
    · rename_i hh
      have hroom := here_room hh hlk
      rw [h _ (by omega) hroom]
    · rfl

theorem tab_last (bk : List (List Int)) (rs : List Int) (d : Nat) (q : Nat) (h : q + (d + 1) = rs.length) : tab bk rs (d + 1) q = rowTo (tab bk rs d) bk rs q bk.length := by
  simp only [tab]
  rw [if_pos h]
theorem tab_else (bk : List (List Int)) (rs : List Int) (d : Nat) (q : Nat) (h : q + (d + 1) ≠ rs.length) : tab bk rs (d + 1) q = tab bk rs d q := by
  simp only [tab]
  rw [if_neg h]

/-- How many readings a ring has by a book, or -1. -/
noncomputable def readingsOf (bk : List (List Int)) (rs : List Int) : Int := if bookB bk && groupsB rs 0 20 then (tab bk rs rs.length 0).1 else -1

end Go.Proofs.Ytcfnklpbiodhjaa
