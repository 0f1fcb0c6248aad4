/-
  A line with both ends exchanged, a line with later trains: the program's and the model's SingleTurn and SingleLater.
-/
import Derived.Test.YtlcmkocbpnekhaaGreatDoorGoodsA
import Derived.Test.YtlcmkocbpnekhaaGreatDoorSgE
import Derived.Test.YtlcmkocbpnekhaaGreatDoorSgF
import Derived.Test.YtlcmkocbpnekhaaGreatDoorSgT
import Derived.Test.YtlcmkocbpnekhaaGreatDoorDrG
import Derived.Deep.DeepCutAuto
namespace Go.Proofs.YtlcmkocbpnekhaaGreatDoor
open Go.RowKit Go.Sort
set_option linter.unusedVariables false

def nilG : Sg := ⟨[], [], 0, 0⟩
def tuV (s : Sg) : Sg := if sgB s then tuG s else nilG
def laB (s : Sg) (k : Int) : Bool := decide (-2000 ≤ k ∧ k ≤ 2000) && sgB s && sgB (laG s k)
def laV (s : Sg) (k : Int) : Sg := if laB s k then laG s k else nilG
/-- A call that hands back a line of its own, and whether. -/
def MadeSgB (w : World) (s : Sg) (b : Bool) (e : Ending) (w' : World) : Prop := ∃ v, e = .returned (.tuple #[v, .bool b]) ∧ OwnSg w' w.heap.size v s ∧ Below w.heap.size w w'
theorem nil_sg (w : World) (base : Nat) : OwnSg w base (.agg #[.slice none 0 0, .slice none 0 0, .int .i64 0, .int .i64 0]) nilG := ⟨_, _, rfl, ⟨rfl, .inl ⟨rfl, rfl⟩⟩, ⟨rfl, .inl ⟨rfl, rfl⟩⟩, .inl rfl, .inl rfl⟩

/-! ### Slots whose rows lie apart -/
/-- An operation, its slot, its group. -/
abbrev Tq := Nat × Nat × Nat
structure Trk (tr : List Tq) (D : Nat → Bool) (a : Act) (X : World) : Prop where
  bd : ∀ p ∈ tr, D p.1 = true → ∀ b, (a.tmps.getD p.2.1 undef).ownBlock = some b → b < X.heap.size
  ap : ∀ p ∈ tr, ∀ q ∈ tr, p.2.2 ≠ q.2.2 → D p.1 = true → D q.1 = true → (a.tmps.getD p.2.1 undef).ownBlock = none ∨ (a.tmps.getD p.2.1 undef).ownBlock ≠ (a.tmps.getD q.2.1 undef).ownBlock
theorem Trk.plain {tr : List Tq} {D D' : Nat → Bool} {a a' : Act} {X X' : World} (h : Trk tr D a X) (hD : ∀ p ∈ tr, D' p.1 = D p.1) (hd : ∀ p ∈ tr, a'.tmps.getD p.2.1 undef = a.tmps.getD p.2.1 undef) (hs : X.heap.size ≤ X'.heap.size) : Trk tr D' a' X' := by
  refine ⟨fun p hp e b hb => ?_, fun p hp q hq hne e1 e2 => ?_⟩
  · rw [hD p hp] at e; rw [hd p hp] at hb; exact Nat.lt_of_lt_of_le (h.bd p hp e b hb) hs
  · rw [hD p hp] at e1; rw [hD q hq] at e2; rw [hd p hp, hd q hq]; exact h.ap p hp q hq hne e1 e2
theorem Trk.fresh {tr : List Tq} {D D' : Nat → Bool} {a a' : Act} {X X' : World} (h : Trk tr D a X) (p0 : Tq) (hu : ∀ p ∈ tr, p.1 = p0.1 → p = p0) (hD : ∀ p ∈ tr, p.1 ≠ p0.1 → D' p.1 = D p.1) (hd : ∀ p ∈ tr, p.1 ≠ p0.1 → a'.tmps.getD p.2.1 undef = a.tmps.getD p.2.1 undef)
    (hs : X.heap.size ≤ X'.heap.size) (hv : ∀ b, (a'.tmps.getD p0.2.1 undef).ownBlock = some b → X.heap.size ≤ b ∧ b < X'.heap.size) : Trk tr D' a' X' := by
  refine ⟨fun p hp e b hb => ?_, fun p hp q hq hne e1 e2 => ?_⟩
  · by_cases c : p.1 = p0.1
    · rw [hu p hp c] at hb; exact (hv b hb).2
    · rw [hD p hp c] at e; rw [hd p hp c] at hb; exact Nat.lt_of_lt_of_le (h.bd p hp e b hb) hs
  · by_cases c : p.1 = p0.1
    · have ep := hu p hp c
      subst ep
      have cq : q.1 ≠ p.1 := fun k => hne (by rw [hu q hq k])
      cases e : (a'.tmps.getD p.2.1 undef).ownBlock with
      | none => exact .inl rfl
      | some b =>
        refine .inr fun k => ?_
        rw [hd q hq cq] at k
        rw [hD q hq cq] at e2
        have := h.bd q hq e2 b k.symm
        have := (hv b e).1
        omega
    · by_cases cq : q.1 = p0.1
      · have ep := hu q hq cq
        subst ep
        rw [hD p hp c] at e1
        rw [hd p hp c]
        cases e : (a.tmps.getD p.2.1 undef).ownBlock with
        | none => exact .inl rfl
        | some b =>
          refine .inr fun k => ?_
          have := h.bd p hp e1 b e
          have := (hv b k.symm).1
          omega
      · rw [hD p hp c] at e1; rw [hD q hq cq] at e2; rw [hd p hp c, hd q hq cq]; exact h.ap p hp q hq hne e1 e2
theorem Trk.heir {tr : List Tq} {D D' : Nat → Bool} {a a' : Act} {X : World} (h : Trk tr D a X) (p0 q0 : Tq) (hq0 : q0 ∈ tr) (hg : q0.2.2 = p0.2.2) (hDq : D q0.1 = true) (hu : ∀ p ∈ tr, p.1 = p0.1 → p = p0) (hD : ∀ p ∈ tr, p.1 ≠ p0.1 → D' p.1 = D p.1) (hd : ∀ p ∈ tr, p.1 ≠ p0.1 → a'.tmps.getD p.2.1 undef = a.tmps.getD p.2.1 undef)
    (hv : (a'.tmps.getD p0.2.1 undef).ownBlock = (a.tmps.getD q0.2.1 undef).ownBlock) : Trk tr D' a' X := by
  refine ⟨fun p hp e b hb => ?_, fun p hp q hq hne e1 e2 => ?_⟩
  · by_cases c : p.1 = p0.1
    · rw [hu p hp c, hv] at hb; exact h.bd q0 hq0 hDq b hb
    · rw [hD p hp c] at e; rw [hd p hp c] at hb; exact h.bd p hp e b hb
  · by_cases c : p.1 = p0.1
    · have ep := hu p hp c
      subst ep
      have cq : q.1 ≠ p.1 := fun k => hne (by rw [hu q hq k])
      rw [hv, hd q hq cq]
      rw [hD q hq cq] at e2
      exact h.ap q0 hq0 q hq (by rw [hg]; exact hne) hDq e2
    · by_cases cq : q.1 = p0.1
      · have ep := hu q hq cq
        subst ep
        rw [hv, hd p hp c]
        rw [hD p hp c] at e1
        exact h.ap p hp q0 hq0 (by rw [hg]; exact hne) e1 hDq
      · rw [hD p hp c] at e1; rw [hD q hq cq] at e2; rw [hd p hp c, hd q hq cq]; exact h.ap p hp q hq hne e1 e2
theorem put_other {a : Act} {d s : Nat} {v : Value} (h : d ≠ s) : (a.put (some d) v).tmps.getD s undef = a.tmps.getD s undef := by
  rw [put_getD, if_neg (fun q => h (Option.some.inj q.1))]
theorem put_none {a : Act} {s : Nat} {v : Value} : (a.put none v).tmps.getD s undef = a.tmps.getD s undef := by
  rw [put_getD, if_neg (fun q => by cases q.1)]
theorem put_same {a : Act} {d : Nat} {v : Value} (h : d < a.tmps.size) : (a.put (some d) v).tmps.getD d undef = v := by
  rw [put_getD, if_pos ⟨rfl, h⟩]

/-- What each step keeps. -/
def Keep (w w' : World) : Prop := (∀ base v xs, OwnI w base v xs → OwnI w' base v xs) ∧ ∀ n : Nat, w.heap[n]? = some (Obj.cells #[] 3 (0, 0)) → w'.heap[n]? = some (Obj.cells #[] 3 (0, 0))
theorem Keep.refl (w : World) : Keep w w := ⟨fun _ _ _ h => h, fun _ h => h⟩
theorem Keep.below {w w' : World} (h : Below w.heap.size w w') : Keep w w' := ⟨fun _ _ _ o => o.below h, fun n e => (h.block n (Array.getElem?_eq_some_iff.1 e).1).trans e⟩
theorem Keep.alloc (w : World) (o : Obj) : Keep w (w.alloc o) := Keep.below (below_alloc _ _)
theorem Keep.set {w : World} {n i : Nat} {x y z u : Value} (h : Quad w n x y z u 25) (c : Value) : Keep w (w.setCell ⟨n, i, none⟩ c) := by
  refine ⟨fun base v xs o => o.kept (grownBy_set w ⟨n, i, none⟩ c) (own_not_box o h single_int), fun m e => ?_⟩
  have hne : m ≠ n := by
    intro q; subst q
    unfold Quad at h
    exact absurd (h.symm.trans e) (by simp)
  exact (Go.Deep.blk_setCell_other _ _ _ _ hne).trans e
theorem Keep.trans {a b c : World} (h : Keep a b) (k : Keep b c) : Keep a c := ⟨fun _ _ _ o => k.1 _ _ _ (h.1 _ _ _ o), fun _ e => k.2 _ (h.2 _ e)⟩
theorem Keep.put4 {w : World} {n : Nat} {x y z u : Value} (h : Quad w n x y z u 25) (x' y' z' u' : Value) : Keep w ((((w.setCell ⟨n, 0, none⟩ x').setCell ⟨n, 1, none⟩ y').setCell ⟨n, 2, none⟩ z').setCell ⟨n, 3, none⟩ u') :=
  (((Keep.set h x').trans (Keep.set (h.set0 x') y')).trans (Keep.set ((h.set0 x').set1 y') z')).trans (Keep.set (((h.set0 x').set1 y').set2 z') u')

/-- The state: the line that came in stands in block bx; behind operation al slot ts points to a box at or behind lo; behind the store L the box holds the two rows. -/
structure RU (w : World) (bx rs base lo : Nat) (u1 u2 : Value) (r hd : Int) (tr : List Tq) (s1 s2 ts bs B : Nat) (al : (Nat → Bool) → Prop) (L : Nat) (D : Nat → Bool) (a : Act) (X : World) : Prop where
  box : Quad X bx u1 u2 (.int .i64 r) (.int .i64 hd) 25
  res : ∃ x y z u, Quad X rs x y z u 25
  bel : Below w.heap.size w X
  hb : base ≤ X.heap.size
  tk : Trk tr D a X
  tg : al D → ∃ n x y z u, a.tmps.getD ts undef = .pointer (some ⟨n, 0, none⟩) ∧ lo ≤ n ∧ Quad X n x y z u 25 ∧ (D L = true → x = a.tmps.getD s1 undef ∧ y = a.tmps.getD s2 undef ∧ z = .int .i64 r ∧ u = .int .i64 hd)
  bl : D B = true → ∃ x1 y1 z1 x2 y2 z2, a.tmps.getD s1 undef = .slice x1 y1 z1 ∧ a.tmps.getD s2 undef = .slice x2 y2 z2 ∧ a.tmps.getD bs undef = .agg #[.slice x1 y1 z1, .slice x2 y2 z2, .int .i64 r, .int .i64 hd]

theorem run_copyI2 {X : World} {base N : Nat} {u : Value} {ts : List Int} (hr : Ints X u ts) (hN : X.heap[N]? = some (.cells #[] 3 (0, 0))) (hb : base ≤ N) (hbX : base ≤ X.heap.size) (ty : TypeId) :
    ∃ v' w', (Builtin.append_ #[23, 23] ty #[.slice (some ⟨N, 0, none⟩) 0 0, u]).run Tryz.prog X = .ok v' w' ∧ OwnI w' base v' ts ∧ Below X.heap.size X w' ∧ ((v' = .slice (some ⟨N, 0, none⟩) 0 0 ∧ w' = X) ∨ ∀ b, v'.ownBlock = some b → X.heap.size ≤ b ∧ b < w'.heap.size) := by
  obtain ⟨i0, hi, hz0, hz1, hz2⟩ := info_parts info_int
  obtain ⟨a, c, rfl, hl, hc⟩ := hr
  rcases Nat.eq_zero_or_pos ts.length with h0 | h0
  · have hsrc : Go.Src Tryz.prog i0.size 23 (.slice a ts.length c) ts.length [] X := by
      rw [h0]
      cases a with
      | none => exact Go.Src.ofNil X Tryz.underlying23 c
      | some a => exact Go.Src.ofSlice X Tryz.underlying23 a 0 c [] (by simp) (fun j u hu => by simp at hu) (fun u hu => by cases hu)
    have hr := Go.run_append_room_src (w := X) 23 23 ty 3 i0 Tryz.underlying23 hi N 0 0 0 _ ts.length [] hsrc (by omega) (fun j hj => by simp at hj) (fun j hj => by simp at hj)
    obtain rfl : ts = [] := List.eq_nil_of_length_eq_zero h0
    exact ⟨.slice (some ⟨N, 0, none⟩) 0 0, X, hr, ⟨by simp, .inr ⟨N, 0, #[], rfl, hb, hN, Nat.le_refl _, by simp [maxLen], rfl, by simp⟩⟩, Below.refl _ _, .inl ⟨rfl, rfl⟩⟩
  · rcases hc with hc | ⟨b, o, rfl, hb', hcell⟩
    · rw [hc] at h0; simp at h0
    · obtain ⟨v', w', hr, ho, hg⟩ := run_append_arg_grows (P := Tryz.prog) (w := X) 23 ty 3 i0 (.int .i64 0) 1 8 Tryz.underlying23 hi hz0 hz1 hz2 rfl (by decide) ⟨N, 0, none⟩ 0 0 [] rfl (fun j u hu => by simp at hu) ⟨b, o, none⟩ ts.length c (ts.map (Value.int .i64)) (by simp) (cells_ints hcell) (by omega) (by unfold maxLen; omega) (by omega)
      have ho : OwnI w' X.heap.size v' ts := by
        unfold OwnI
        simpa using ho
      exact ⟨v', w', hr, ho.mono hbX, ⟨hg.os, hg.tape, hg.output, hg.size, fun j hj => hg.block j hj (by simp)⟩, .inr (fun b e => World.ownsRow.lt ho b e)⟩

theorem wp_append_run {P : Program} {o : Oper} {a : Act} {w w' : World} {K : Act → World → Prop} {Q : Exit → Act → World → Prop} {v' x1 x2 : Value} {t : TypeId} (s x : Operand) (ho : o.op = .call { callee := .builtin .append, args := #[s, x], argTypes := #[t, t] }) (h1 : a.eval s = x1) (h2 : a.eval x = x2) (hr : (Builtin.append_ #[t, t] o.type #[x1, x2]).run P w = .ok v' w') (h : K (a.put o.dst v') w') : Oper.wp P o a w K Q := by
  unfold Oper.wp execOp
  simp only [ho, resolve, invoke, builtin, Sem.run_bind, Sem.run_pure, Result.andThen_ok, List.map_toArray, List.map_cons, List.map_nil, h1, h2, hr]
  exact h

def laT (xs : List Int) (k : Int) (j : Nat) : List Int := (xs.take j).map (· + k)
theorem laT_zero (xs : List Int) (k : Int) : laT xs k 0 = [] := by simp [laT]
theorem laT_succ {xs : List Int} {j : Nat} (k : Int) (h : j < xs.length) : laT xs k (j + 1) = laT xs k j ++ [xs.getD j 0 + k] := by
  unfold laT
  rw [List.take_succ_eq_append_getElem h, List.map_append, List.map_singleton]
  simp [h]
theorem laT_all (xs : List Int) (k : Int) : laT xs k xs.length = xs.map (· + k) := by simp [laT]
theorem laT_len {xs : List Int} (k : Int) {j : Nat} (h : j ≤ xs.length) : (laT xs k j).length = j := by simp [laT]; omega


def GTuI (base bx : Nat) (a1 : Option Addr) (n1 c1 : Nat) (a2 : Option Addr) (n2 c2 : Nat) (r hd k : Int) (s : Sg) (i : Nat) (v : Value) (w : World) : Prop :=
  match i with
  | 0 => v = .pointer (some ⟨bx, 1, none⟩)
  | 1 => v = .slice a2 n2 c2
  | 2 => OwnI w base v s.B
  | 3 => v = .pointer (some ⟨bx, 0, none⟩)
  | 4 => v = .slice a1 n1 c1
  | 5 => OwnI w base v s.A
  | 6 => v = .pointer (some ⟨bx, 2, none⟩)
  | 7 => v = .int .i64 r
  | 8 => v = .pointer (some ⟨bx, 3, none⟩)
  | 9 => v = .int .i64 hd
  | 10 => True
  | 11 => True
  | 12 => v = .bool true
  | _ => True
theorem GTuI.kept {base bx : Nat} {a1 : Option Addr} {n1 c1 : Nat} {a2 : Option Addr} {n2 c2 : Nat} {r hd k : Int} {s : Sg} (i : Nat) (v : Value) (w w' : World) (h : Keep w w') (q : GTuI base bx a1 n1 c1 a2 n2 c2 r hd k s i v w) : GTuI base bx a1 n1 c1 a2 n2 c2 r hd k s i v w' := by
  unfold GTuI at q ⊢
  split at q <;> first | exact q | exact h.1 _ _ _ q | exact (by obtain ⟨n, e1, e2, e3⟩ := q; exact ⟨n, e1, e2, h.2 _ e3⟩)

def GTuS (base bx : Nat) (a1 : Option Addr) (n1 c1 : Nat) (a2 : Option Addr) (n2 c2 : Nat) (r hd k : Int) (s : Sg) (i : Nat) (v : Value) (w : World) : Prop :=
  match i with
  | 0 => ∃ n, v = .slice (some ⟨n, 0, none⟩) 0 0 ∧ base ≤ n ∧ w.heap[n]? = some (.cells #[] 3 (0, 0))
  | 1 => v = .pointer (some ⟨bx, 1, none⟩)
  | 2 => v = .slice a2 n2 c2
  | 3 => OwnI w base v s.B
  | 4 => ∃ n, v = .slice (some ⟨n, 0, none⟩) 0 0 ∧ base ≤ n ∧ w.heap[n]? = some (.cells #[] 3 (0, 0))
  | 5 => v = .pointer (some ⟨bx, 0, none⟩)
  | 6 => v = .slice a1 n1 c1
  | 7 => OwnI w base v s.A
  | 8 => v = .pointer (some ⟨bx, 2, none⟩)
  | 9 => v = .int .i64 r
  | 10 => v = .pointer (some ⟨bx, 3, none⟩)
  | 11 => v = .int .i64 hd
  | 12 => True
  | 13 => True
  | 14 => v = .bool true
  | _ => True
theorem GTuS.kept {base bx : Nat} {a1 : Option Addr} {n1 c1 : Nat} {a2 : Option Addr} {n2 c2 : Nat} {r hd k : Int} {s : Sg} (i : Nat) (v : Value) (w w' : World) (h : Keep w w') (q : GTuS base bx a1 n1 c1 a2 n2 c2 r hd k s i v w) : GTuS base bx a1 n1 c1 a2 n2 c2 r hd k s i v w' := by
  unfold GTuS at q ⊢
  split at q <;> first | exact q | exact h.1 _ _ _ q | exact (by obtain ⟨n, e1, e2, e3⟩ := q; exact ⟨n, e1, e2, h.2 _ e3⟩)

def GLaI (base bx : Nat) (a1 : Option Addr) (n1 c1 : Nat) (a2 : Option Addr) (n2 c2 : Nat) (r hd k : Int) (s : Sg) (i : Nat) (v : Value) (w : World) : Prop :=
  match i with
  | 0 => v = .pointer (some ⟨bx, 0, none⟩)
  | 1 => v = .slice a1 n1 c1
  | 2 => v = .int .i64 k
  | 3 => OwnI w base v (s.A.map (· + k))
  | 4 => v = .pointer (some ⟨bx, 1, none⟩)
  | 5 => v = .slice a2 n2 c2
  | 6 => v = .int .i64 k
  | 7 => OwnI w base v (s.B.map (· + k))
  | 8 => v = .pointer (some ⟨bx, 2, none⟩)
  | 9 => v = .int .i64 r
  | 10 => v = .pointer (some ⟨bx, 3, none⟩)
  | 11 => v = .int .i64 hd
  | 12 => True
  | 13 => True
  | 14 => True
  | _ => True
theorem GLaI.kept {base bx : Nat} {a1 : Option Addr} {n1 c1 : Nat} {a2 : Option Addr} {n2 c2 : Nat} {r hd k : Int} {s : Sg} (i : Nat) (v : Value) (w w' : World) (h : Keep w w') (q : GLaI base bx a1 n1 c1 a2 n2 c2 r hd k s i v w) : GLaI base bx a1 n1 c1 a2 n2 c2 r hd k s i v w' := by
  unfold GLaI at q ⊢
  split at q <;> first | exact q | exact h.1 _ _ _ q | exact (by obtain ⟨n, e1, e2, e3⟩ := q; exact ⟨n, e1, e2, h.2 _ e3⟩)

def GLaS (base bx : Nat) (a1 : Option Addr) (n1 c1 : Nat) (a2 : Option Addr) (n2 c2 : Nat) (r hd k : Int) (s : Sg) (i : Nat) (v : Value) (w : World) : Prop :=
  match i with
  | 0 => v = .pointer (some ⟨bx, 0, none⟩)
  | 1 => v = .slice a1 n1 c1
  | 2 => v = .int .i64 k
  | 3 => OwnI w base v (s.A.map (· + k))
  | 4 => v = .pointer (some ⟨bx, 1, none⟩)
  | 5 => v = .slice a2 n2 c2
  | 6 => v = .int .i64 k
  | 7 => OwnI w base v (s.B.map (· + k))
  | 8 => v = .pointer (some ⟨bx, 2, none⟩)
  | 9 => v = .int .i64 r
  | 10 => v = .pointer (some ⟨bx, 3, none⟩)
  | 11 => v = .int .i64 hd
  | 12 => True
  | 13 => True
  | 14 => True
  | _ => True
theorem GLaS.kept {base bx : Nat} {a1 : Option Addr} {n1 c1 : Nat} {a2 : Option Addr} {n2 c2 : Nat} {r hd k : Int} {s : Sg} (i : Nat) (v : Value) (w w' : World) (h : Keep w w') (q : GLaS base bx a1 n1 c1 a2 n2 c2 r hd k s i v w) : GLaS base bx a1 n1 c1 a2 n2 c2 r hd k s i v w' := by
  unfold GLaS at q ⊢
  split at q <;> first | exact q | exact h.1 _ _ _ q | exact (by obtain ⟨n, e1, e2, e3⟩ := q; exact ⟨n, e1, e2, h.2 _ e3⟩)

set_option maxRecDepth 100000 in
set_option maxHeartbeats 4000000 in
theorem implTurn {w : World} {v : Value} {s : Sg} (h : SgV w v s) :
    Calls Tryz.prog 8 #[v] w (MadeSgB w (tuV s) (sgB s)) := by
  have hform := h.form
  obtain ⟨a1, n1, c1, a2, n2, c2, rfl, i1, i2⟩ := hform
  have hl := h.len
  obtain ⟨r, hr⟩ : ∃ r, r = s.run := ⟨_, rfl⟩
  obtain ⟨hd, hh⟩ : ∃ r, r = s.head := ⟨_, rfl⟩
  have SV := Lib.hid (fun (X : World) (b : Below w.heap.size w X) => implSingle (h.below b))
  rw [← hr, ← hh] at SV ⊢
  have ea := below_alloc w (.cells #[.slice a1 n1 c1, .slice a2 n2 c2, .int .i64 r, .int .i64 hd] 25)
  have pa := Quad.new w (.slice a1 n1 c1) (.slice a2 n2 c2) (.int .i64 r) (.int .i64 hd) 25
  obtain ⟨Wa, hWa⟩ : ∃ W, W = w.alloc (.cells #[.slice a1 n1 c1, .slice a2 n2 c2, .int .i64 r, .int .i64 hd] 25) := ⟨_, rfl⟩
  have sa : Wa.heap.size = w.heap.size + 1 := by rw [hWa]; exact Go.Deep.nblk_alloc _ _
  rw [← hWa] at ea pa
  have eb := below_alloc Wa (.cells #[.slice none 0 0, .slice none 0 0, .int .i64 0, .int .i64 0] 25)
  have pb := Quad.new Wa (.slice none 0 0) (.slice none 0 0) (.int .i64 0) (.int .i64 0) 25
  obtain ⟨W, hW⟩ : ∃ W, W = Wa.alloc (.cells #[.slice none 0 0, .slice none 0 0, .int .i64 0, .int .i64 0] 25) := ⟨_, rfl⟩
  rw [← hW] at eb pb
  have HW := Lib.hid (show (w.alloc (.cells #[.slice a1 n1 c1, .slice a2 n2 c2, .int .i64 r, .int .i64 hd] 25)).alloc (.cells #[.slice none 0 0, .slice none 0 0, .int .i64 0, .int .i64 0] 25) = W by rw [hW, hWa])
  have E := Lib.hid (ea.trans (eb.mono ea.size))
  rw [sa] at pb
  have PA := Lib.hid (pa.below eb)
  have PB := Lib.hid pb
  have I1 := Lib.hid i1
  have I2 := Lib.hid i2
  have HR := Lib.hid (And.intro hr hh)
  have HLN := Lib.hid hl
  have p0 := PA.out.cell0
  have p1 := PA.out.cell1
  have p2 := PA.out.cell2
  have p3 := PA.out.cell3
  obtain ⟨t, ht⟩ : ∃ t, t = sgB s := ⟨_, rfl⟩
  rw [← ht] at SV
  have HT := Lib.hid ht.symm
  clear ht h i1 i2 ea eb pa pb hW hWa sa hr hh hl
  go_enter Tryz.func8, Tryz.ntmps8
  go_upto_region 1 with fail
  rw [HW.out]
  go_wp2_with fail
  refine (SV.out _ E.out).mono ?_
  rintro e w2 ⟨rfl, b2⟩
  cases t
  · have HZ := Lib.hid (show tuV s = nilG by unfold tuV; rw [HT.out]; rfl)
    have QZ := Lib.hid (PB.out.below b2)
    have BZ := Lib.hid (E.out.trans (b2.mono E.out.size))
    clear b2 p0 p1 p2 p3
    have qz := QZ.out
    have z0 := qz.cell0
    have z1 := qz.cell1
    have z2 := qz.cell2
    have z3 := qz.cell3
    have zf := qz.frozen
    have qs := qz.stored (.slice none 0 0) (.slice none 0 0) (.int .i64 0) (.int .i64 0)
    have y0 := qs.cell0
    have y1 := qs.cell1
    have y2 := qs.cell2
    have y3 := qs.cell3
    have BE := Lib.hid (stored4 BZ.out (b := w.heap.size + 1) (Nat.le_succ _) (.slice none 0 0) (.slice none 0 0) (.int .i64 0) (.int .i64 0))
    clear qz qs
    go_wp2_with fail
    exact bodyPost_ret (v := .tuple #[.agg #[.slice none 0 0, .slice none 0 0, .int .i64 0, .int .i64 0], .bool false]) (by simp [results, Tryz.results8, go_sem, y0, y1, y2, y3]) rfl ⟨_, by rw [HT.out], by rw [HZ.out]; exact nil_sg _ _, BE.out⟩
  · have HZ := Lib.hid (show tuV s = tuG s by unfold tuV; rw [HT.out]; rfl)
    obtain ⟨k, hk⟩ : ∃ k : Int, k = 0 := ⟨_, rfl⟩
    clear hk
    obtain ⟨bx, hbx⟩ : ∃ x, x = w.heap.size := ⟨_, rfl⟩
    obtain ⟨rs, hrs⟩ : ∃ x, x = w.heap.size + 1 := ⟨_, rfl⟩
    obtain ⟨base, hbase⟩ : ∃ x, x = w2.heap.size := ⟨_, rfl⟩
    have BOX := Lib.hid (show Quad w2 bx (.slice a1 n1 c1) (.slice a2 n2 c2) (.int .i64 r) (.int .i64 hd) 25 by rw [hbx]; exact PA.out.below b2)
    have RES := Lib.hid (show Quad w2 rs (.slice none 0 0) (.slice none 0 0) (.int .i64 0) (.int .i64 0) 25 by rw [hrs]; exact PB.out.below b2)
    have BEL := Lib.hid (E.out.trans (b2.mono E.out.size))
    have HBX := Lib.hid (show base ≤ w2.drew.heap.size by rw [hbase]; exact Nat.le_refl _)
    have LO := Lib.hid (show bx < rs ∧ w.heap.size ≤ bx ∧ rs < base ∧ bx = w.heap.size ∧ rs = w.heap.size + 1 by have := RES.out.lt; omega)
    have CA := Lib.hid (fun (X : World) (b : Below w.heap.size w X) => cloneInts (I1.out.below b))
    have CB := Lib.hid (fun (X : World) (b : Below w.heap.size w X) => cloneInts (I2.out.below b))
    rw [← hrs, ← hbx]
    clear b2 p0 p1 p2 p3 hbx hrs hbase
    go_upto_region 3 with fail
    refine wp_region_goodsA (G := GTuI base bx a1 n1 c1 a2 n2 c2 r hd k s) (R := fun D a X => RU w bx rs base rs (.slice a1 n1 c1) (.slice a2 n2 c2) r hd [(2, 10, 0), (5, 13, 1)] 10 13 2 18 10 (fun _ => True) 11 D a X) (T := fun _ => Keep) (by kernel_rfl) (by kernel_rfl) ?start (fun _ i _ v X Y _ _ _ h => GTuI.kept i v X Y h) ⟨?s0, ?s1, ?s2, ?s3, ?s4, ?s5, ?s6, ?s7, ?s8, ?s9, ?s10, ?s11, ?s12, trivial⟩ ?hend
    case start =>
      intro D hD
      exact ⟨BOX.out.below ((Below.refl _ _).drew), ⟨_, _, _, _, RES.out.below ((Below.refl _ _).drew)⟩, BEL.out.drew, HBX.out, ⟨(fun p hp e => by rw [hD] at e; cases e), (fun p hp q hq hne e => by rw [hD] at e; cases e)⟩, fun _ => ⟨rs, _, _, _, _, rfl, Nat.le_refl _, RES.out.below ((Below.refl _ _).drew), fun q => by rw [hD] at q; cases q⟩, fun q => by rw [hD] at q; cases q⟩
    case s0 =>
      intro ac wc D D' hsz hDk hDk' hdo hcl hlD hR hrest hdep K hK
      have e0 : ac.tmps.getD 1 undef = .pointer (some ⟨bx, 0, none⟩) := hrest 1 (by kernel_rfl)
      have f0 := slot_of e0
      have HR := Lib.hid (show ∀ v, RU w bx rs base rs (.slice a1 n1 c1) (.slice a2 n2 c2) r hd [(2, 10, 0), (5, 13, 1)] 10 13 2 18 10 (fun _ => True) 11 D' (ac.put (some 8) v) wc from fun v => ⟨hR.box, hR.res, hR.bel, hR.hb, hR.tk.plain (fun p hp => hdo _ (by simp only [List.mem_cons, List.not_mem_nil, or_false] at hp; rcases hp with rfl | rfl <;> decide)) (fun p hp => by simp only [List.mem_cons, List.not_mem_nil, or_false] at hp; rcases hp with rfl | rfl <;> exact put_other (by decide)) (Nat.le_refl _), fun q => by have hq0 := hR.tg trivial; obtain ⟨n, x, y, z, u, e1, e2, e3, e4⟩ := hq0; exact ⟨n, x, y, z, u, (put_other (by decide)).trans e1, e2, e3, fun q2 => by rw [hdo 11 (by decide)] at q2; rw [put_other (by decide), put_other (by decide)]; exact e4 q2⟩, fun q => by rw [hdo 10 (by decide)] at q; rw [put_other (by decide), put_other (by decide), put_other (by decide)]; exact hR.bl q⟩)
      have HK := Lib.hid hK
      clear hdep hrest hR hK hsz
      go_simp
      exact HK.out _ _ rfl (HR.out _) (Keep.refl _)
    case s1 =>
      intro ac wc D D' hsz hDk hDk' hdo hcl hlD hR hrest hdep K hK
      have e0 : ac.tmps.getD 8 undef = .pointer (some ⟨bx, 1, none⟩) := hdep 0 (by kernel_rfl)
      have f0 := slot_of e0
      have c0 := hR.box.cell0
      have c1' := hR.box.cell1
      have c2' := hR.box.cell2
      have c3 := hR.box.cell3
      have HR := Lib.hid (show ∀ v, RU w bx rs base rs (.slice a1 n1 c1) (.slice a2 n2 c2) r hd [(2, 10, 0), (5, 13, 1)] 10 13 2 18 10 (fun _ => True) 11 D' (ac.put (some 9) v) wc from fun v => ⟨hR.box, hR.res, hR.bel, hR.hb, hR.tk.plain (fun p hp => hdo _ (by simp only [List.mem_cons, List.not_mem_nil, or_false] at hp; rcases hp with rfl | rfl <;> decide)) (fun p hp => by simp only [List.mem_cons, List.not_mem_nil, or_false] at hp; rcases hp with rfl | rfl <;> exact put_other (by decide)) (Nat.le_refl _), fun q => by have hq0 := hR.tg trivial; obtain ⟨n, x, y, z, u, e1, e2, e3, e4⟩ := hq0; exact ⟨n, x, y, z, u, (put_other (by decide)).trans e1, e2, e3, fun q2 => by rw [hdo 11 (by decide)] at q2; rw [put_other (by decide), put_other (by decide)]; exact e4 q2⟩, fun q => by rw [hdo 10 (by decide)] at q; rw [put_other (by decide), put_other (by decide), put_other (by decide)]; exact hR.bl q⟩)
      have HK := Lib.hid hK
      clear hdep hrest hR hK hsz
      go_simp
      exact HK.out _ _ rfl (HR.out _) (Keep.refl _)
    case s2 =>
      intro ac wc D D' hsz hDk hDk' hdo hcl hlD hR hrest hdep K hK
      have e0 : ac.tmps.getD 9 undef = .slice a2 n2 c2 := hdep 1 (by kernel_rfl)
      have f0 := slot_of e0
      have HL := Lib.hid (show D 11 = false from by
        cases hq : D 11 with
        | false => rfl
        | true =>
          have h10 := hcl 11 _ rfl hq 10 (by kernel_rfl)
          have h2 := hcl 10 _ rfl h10 2 (by kernel_rfl)
          rw [h2] at hDk; cases hDk)
      have HB := Lib.hid (show D 10 = false from by
        cases hq : D 10 with
        | false => rfl
        | true =>
          have h2 := hcl 10 _ rfl hq 2 (by kernel_rfl)
          rw [h2] at hDk; cases hDk)
      have HC := Lib.hid (CB.out _ hR.bel)
      have HS := Lib.hid (show ∀ v' w', OwnI w' wc.heap.size v' (s.B) → Below wc.heap.size wc w' → RU w bx rs base rs (.slice a1 n1 c1) (.slice a2 n2 c2) r hd [(2, 10, 0), (5, 13, 1)] 10 13 2 18 10 (fun _ => True) 11 D' (ac.put (some 10) v') w' from fun v' w' hv hbl => ⟨hR.box.below hbl, (by obtain ⟨x, y, z, u, q⟩ := hR.res; exact ⟨x, y, z, u, q.below hbl⟩), hR.bel.trans (hbl.mono hR.bel.size), Nat.le_trans hR.hb hbl.size, hR.tk.fresh (2, 10, 0) (by decide) (fun p hp hne => hdo _ hne) (fun p hp hne => by simp only [List.mem_cons, List.not_mem_nil, or_false] at hp; rcases hp with rfl | rfl <;> first | exact put_other (by decide) | exact absurd rfl hne) (hbl.size) (fun b hb => by rw [put_same (by rw [hsz]; exact (by decide : 10 < 19))] at hb; exact World.ownsRow.lt hv b hb), fun q => by have hq0 := hR.tg trivial; obtain ⟨n, x, y, z, u, e1, e2, e3, e4⟩ := hq0; exact ⟨n, x, y, z, u, (put_other (by decide)).trans e1, e2, e3.below hbl, fun q2 => by rw [hdo 11 (by decide)] at q2; rw [HL.out] at q2; cases q2⟩, fun q => by rw [hdo 10 (by decide)] at q; rw [HB.out] at q; cases q⟩)
      have hbw := Lib.hid hR.hb
      have HK := Lib.hid hK
      clear hdep hrest hR hK hsz
      go_simp
      refine HC.out.mono ?_
      rintro e w' ⟨v', rfl, hv, hbl⟩
      exact HK.out v' w' (hv.mono hbw.out) (HS.out v' w' hv hbl) (Keep.below hbl)
    case s3 =>
      intro ac wc D D' hsz hDk hDk' hdo hcl hlD hR hrest hdep K hK
      have e0 : ac.tmps.getD 1 undef = .pointer (some ⟨bx, 0, none⟩) := hrest 1 (by kernel_rfl)
      have f0 := slot_of e0
      have HR := Lib.hid (show ∀ v, RU w bx rs base rs (.slice a1 n1 c1) (.slice a2 n2 c2) r hd [(2, 10, 0), (5, 13, 1)] 10 13 2 18 10 (fun _ => True) 11 D' (ac.put (some 11) v) wc from fun v => ⟨hR.box, hR.res, hR.bel, hR.hb, hR.tk.plain (fun p hp => hdo _ (by simp only [List.mem_cons, List.not_mem_nil, or_false] at hp; rcases hp with rfl | rfl <;> decide)) (fun p hp => by simp only [List.mem_cons, List.not_mem_nil, or_false] at hp; rcases hp with rfl | rfl <;> exact put_other (by decide)) (Nat.le_refl _), fun q => by have hq0 := hR.tg trivial; obtain ⟨n, x, y, z, u, e1, e2, e3, e4⟩ := hq0; exact ⟨n, x, y, z, u, (put_other (by decide)).trans e1, e2, e3, fun q2 => by rw [hdo 11 (by decide)] at q2; rw [put_other (by decide), put_other (by decide)]; exact e4 q2⟩, fun q => by rw [hdo 10 (by decide)] at q; rw [put_other (by decide), put_other (by decide), put_other (by decide)]; exact hR.bl q⟩)
      have HK := Lib.hid hK
      clear hdep hrest hR hK hsz
      go_simp
      exact HK.out _ _ rfl (HR.out _) (Keep.refl _)
    case s4 =>
      intro ac wc D D' hsz hDk hDk' hdo hcl hlD hR hrest hdep K hK
      have e0 : ac.tmps.getD 11 undef = .pointer (some ⟨bx, 0, none⟩) := hdep 3 (by kernel_rfl)
      have f0 := slot_of e0
      have c0 := hR.box.cell0
      have c1' := hR.box.cell1
      have c2' := hR.box.cell2
      have c3 := hR.box.cell3
      have HR := Lib.hid (show ∀ v, RU w bx rs base rs (.slice a1 n1 c1) (.slice a2 n2 c2) r hd [(2, 10, 0), (5, 13, 1)] 10 13 2 18 10 (fun _ => True) 11 D' (ac.put (some 12) v) wc from fun v => ⟨hR.box, hR.res, hR.bel, hR.hb, hR.tk.plain (fun p hp => hdo _ (by simp only [List.mem_cons, List.not_mem_nil, or_false] at hp; rcases hp with rfl | rfl <;> decide)) (fun p hp => by simp only [List.mem_cons, List.not_mem_nil, or_false] at hp; rcases hp with rfl | rfl <;> exact put_other (by decide)) (Nat.le_refl _), fun q => by have hq0 := hR.tg trivial; obtain ⟨n, x, y, z, u, e1, e2, e3, e4⟩ := hq0; exact ⟨n, x, y, z, u, (put_other (by decide)).trans e1, e2, e3, fun q2 => by rw [hdo 11 (by decide)] at q2; rw [put_other (by decide), put_other (by decide)]; exact e4 q2⟩, fun q => by rw [hdo 10 (by decide)] at q; rw [put_other (by decide), put_other (by decide), put_other (by decide)]; exact hR.bl q⟩)
      have HK := Lib.hid hK
      clear hdep hrest hR hK hsz
      go_simp
      exact HK.out _ _ rfl (HR.out _) (Keep.refl _)
    case s5 =>
      intro ac wc D D' hsz hDk hDk' hdo hcl hlD hR hrest hdep K hK
      have e0 : ac.tmps.getD 12 undef = .slice a1 n1 c1 := hdep 4 (by kernel_rfl)
      have f0 := slot_of e0
      have HL := Lib.hid (show D 11 = false from by
        cases hq : D 11 with
        | false => rfl
        | true =>
          have h10 := hcl 11 _ rfl hq 10 (by kernel_rfl)
          have h5 := hcl 10 _ rfl h10 5 (by kernel_rfl)
          rw [h5] at hDk; cases hDk)
      have HB := Lib.hid (show D 10 = false from by
        cases hq : D 10 with
        | false => rfl
        | true =>
          have h5 := hcl 10 _ rfl hq 5 (by kernel_rfl)
          rw [h5] at hDk; cases hDk)
      have HC := Lib.hid (CA.out _ hR.bel)
      have HS := Lib.hid (show ∀ v' w', OwnI w' wc.heap.size v' (s.A) → Below wc.heap.size wc w' → RU w bx rs base rs (.slice a1 n1 c1) (.slice a2 n2 c2) r hd [(2, 10, 0), (5, 13, 1)] 10 13 2 18 10 (fun _ => True) 11 D' (ac.put (some 13) v') w' from fun v' w' hv hbl => ⟨hR.box.below hbl, (by obtain ⟨x, y, z, u, q⟩ := hR.res; exact ⟨x, y, z, u, q.below hbl⟩), hR.bel.trans (hbl.mono hR.bel.size), Nat.le_trans hR.hb hbl.size, hR.tk.fresh (5, 13, 1) (by decide) (fun p hp hne => hdo _ hne) (fun p hp hne => by simp only [List.mem_cons, List.not_mem_nil, or_false] at hp; rcases hp with rfl | rfl <;> first | exact put_other (by decide) | exact absurd rfl hne) (hbl.size) (fun b hb => by rw [put_same (by rw [hsz]; exact (by decide : 13 < 19))] at hb; exact World.ownsRow.lt hv b hb), fun q => by have hq0 := hR.tg trivial; obtain ⟨n, x, y, z, u, e1, e2, e3, e4⟩ := hq0; exact ⟨n, x, y, z, u, (put_other (by decide)).trans e1, e2, e3.below hbl, fun q2 => by rw [hdo 11 (by decide)] at q2; rw [HL.out] at q2; cases q2⟩, fun q => by rw [hdo 10 (by decide)] at q; rw [HB.out] at q; cases q⟩)
      have hbw := Lib.hid hR.hb
      have HK := Lib.hid hK
      clear hdep hrest hR hK hsz
      go_simp
      refine HC.out.mono ?_
      rintro e w' ⟨v', rfl, hv, hbl⟩
      exact HK.out v' w' (hv.mono hbw.out) (HS.out v' w' hv hbl) (Keep.below hbl)
    case s6 =>
      intro ac wc D D' hsz hDk hDk' hdo hcl hlD hR hrest hdep K hK
      have e0 : ac.tmps.getD 1 undef = .pointer (some ⟨bx, 0, none⟩) := hrest 1 (by kernel_rfl)
      have f0 := slot_of e0
      have HR := Lib.hid (show ∀ v, RU w bx rs base rs (.slice a1 n1 c1) (.slice a2 n2 c2) r hd [(2, 10, 0), (5, 13, 1)] 10 13 2 18 10 (fun _ => True) 11 D' (ac.put (some 14) v) wc from fun v => ⟨hR.box, hR.res, hR.bel, hR.hb, hR.tk.plain (fun p hp => hdo _ (by simp only [List.mem_cons, List.not_mem_nil, or_false] at hp; rcases hp with rfl | rfl <;> decide)) (fun p hp => by simp only [List.mem_cons, List.not_mem_nil, or_false] at hp; rcases hp with rfl | rfl <;> exact put_other (by decide)) (Nat.le_refl _), fun q => by have hq0 := hR.tg trivial; obtain ⟨n, x, y, z, u, e1, e2, e3, e4⟩ := hq0; exact ⟨n, x, y, z, u, (put_other (by decide)).trans e1, e2, e3, fun q2 => by rw [hdo 11 (by decide)] at q2; rw [put_other (by decide), put_other (by decide)]; exact e4 q2⟩, fun q => by rw [hdo 10 (by decide)] at q; rw [put_other (by decide), put_other (by decide), put_other (by decide)]; exact hR.bl q⟩)
      have HK := Lib.hid hK
      clear hdep hrest hR hK hsz
      go_simp
      exact HK.out _ _ rfl (HR.out _) (Keep.refl _)
    case s7 =>
      intro ac wc D D' hsz hDk hDk' hdo hcl hlD hR hrest hdep K hK
      have e0 : ac.tmps.getD 14 undef = .pointer (some ⟨bx, 2, none⟩) := hdep 6 (by kernel_rfl)
      have f0 := slot_of e0
      have c0 := hR.box.cell0
      have c1' := hR.box.cell1
      have c2' := hR.box.cell2
      have c3 := hR.box.cell3
      have HR := Lib.hid (show ∀ v, RU w bx rs base rs (.slice a1 n1 c1) (.slice a2 n2 c2) r hd [(2, 10, 0), (5, 13, 1)] 10 13 2 18 10 (fun _ => True) 11 D' (ac.put (some 15) v) wc from fun v => ⟨hR.box, hR.res, hR.bel, hR.hb, hR.tk.plain (fun p hp => hdo _ (by simp only [List.mem_cons, List.not_mem_nil, or_false] at hp; rcases hp with rfl | rfl <;> decide)) (fun p hp => by simp only [List.mem_cons, List.not_mem_nil, or_false] at hp; rcases hp with rfl | rfl <;> exact put_other (by decide)) (Nat.le_refl _), fun q => by have hq0 := hR.tg trivial; obtain ⟨n, x, y, z, u, e1, e2, e3, e4⟩ := hq0; exact ⟨n, x, y, z, u, (put_other (by decide)).trans e1, e2, e3, fun q2 => by rw [hdo 11 (by decide)] at q2; rw [put_other (by decide), put_other (by decide)]; exact e4 q2⟩, fun q => by rw [hdo 10 (by decide)] at q; rw [put_other (by decide), put_other (by decide), put_other (by decide)]; exact hR.bl q⟩)
      have HK := Lib.hid hK
      clear hdep hrest hR hK hsz
      go_simp
      exact HK.out _ _ rfl (HR.out _) (Keep.refl _)
    case s8 =>
      intro ac wc D D' hsz hDk hDk' hdo hcl hlD hR hrest hdep K hK
      have e0 : ac.tmps.getD 1 undef = .pointer (some ⟨bx, 0, none⟩) := hrest 1 (by kernel_rfl)
      have f0 := slot_of e0
      have HR := Lib.hid (show ∀ v, RU w bx rs base rs (.slice a1 n1 c1) (.slice a2 n2 c2) r hd [(2, 10, 0), (5, 13, 1)] 10 13 2 18 10 (fun _ => True) 11 D' (ac.put (some 16) v) wc from fun v => ⟨hR.box, hR.res, hR.bel, hR.hb, hR.tk.plain (fun p hp => hdo _ (by simp only [List.mem_cons, List.not_mem_nil, or_false] at hp; rcases hp with rfl | rfl <;> decide)) (fun p hp => by simp only [List.mem_cons, List.not_mem_nil, or_false] at hp; rcases hp with rfl | rfl <;> exact put_other (by decide)) (Nat.le_refl _), fun q => by have hq0 := hR.tg trivial; obtain ⟨n, x, y, z, u, e1, e2, e3, e4⟩ := hq0; exact ⟨n, x, y, z, u, (put_other (by decide)).trans e1, e2, e3, fun q2 => by rw [hdo 11 (by decide)] at q2; rw [put_other (by decide), put_other (by decide)]; exact e4 q2⟩, fun q => by rw [hdo 10 (by decide)] at q; rw [put_other (by decide), put_other (by decide), put_other (by decide)]; exact hR.bl q⟩)
      have HK := Lib.hid hK
      clear hdep hrest hR hK hsz
      go_simp
      exact HK.out _ _ rfl (HR.out _) (Keep.refl _)
    case s9 =>
      intro ac wc D D' hsz hDk hDk' hdo hcl hlD hR hrest hdep K hK
      have e0 : ac.tmps.getD 16 undef = .pointer (some ⟨bx, 3, none⟩) := hdep 8 (by kernel_rfl)
      have f0 := slot_of e0
      have c0 := hR.box.cell0
      have c1' := hR.box.cell1
      have c2' := hR.box.cell2
      have c3 := hR.box.cell3
      have HR := Lib.hid (show ∀ v, RU w bx rs base rs (.slice a1 n1 c1) (.slice a2 n2 c2) r hd [(2, 10, 0), (5, 13, 1)] 10 13 2 18 10 (fun _ => True) 11 D' (ac.put (some 17) v) wc from fun v => ⟨hR.box, hR.res, hR.bel, hR.hb, hR.tk.plain (fun p hp => hdo _ (by simp only [List.mem_cons, List.not_mem_nil, or_false] at hp; rcases hp with rfl | rfl <;> decide)) (fun p hp => by simp only [List.mem_cons, List.not_mem_nil, or_false] at hp; rcases hp with rfl | rfl <;> exact put_other (by decide)) (Nat.le_refl _), fun q => by have hq0 := hR.tg trivial; obtain ⟨n, x, y, z, u, e1, e2, e3, e4⟩ := hq0; exact ⟨n, x, y, z, u, (put_other (by decide)).trans e1, e2, e3, fun q2 => by rw [hdo 11 (by decide)] at q2; rw [put_other (by decide), put_other (by decide)]; exact e4 q2⟩, fun q => by rw [hdo 10 (by decide)] at q; rw [put_other (by decide), put_other (by decide), put_other (by decide)]; exact hR.bl q⟩)
      have HK := Lib.hid hK
      clear hdep hrest hR hK hsz
      go_simp
      exact HK.out _ _ rfl (HR.out _) (Keep.refl _)
    case s10 =>
      intro ac wc D D' hsz hDk hDk' hdo hcl hlD hR hrest hdep K hK
      have e0 : ac.tmps.getD 15 undef = .int .i64 r := hdep 7 (by kernel_rfl)
      have f0 := slot_of e0
      have e1 : ac.tmps.getD 17 undef = .int .i64 hd := hdep 9 (by kernel_rfl)
      have f1 := slot_of e1
      have g1 : OwnI wc base (ac.tmps.getD 10 undef) (s.B) := hdep 2 (by kernel_rfl)
      have g2 : OwnI wc base (ac.tmps.getD 13 undef) (s.A) := hdep 5 (by kernel_rfl)
      obtain ⟨x1, y1, z1, h1⟩ := own_is_slice g1
      obtain ⟨x2, y2, z2, h2⟩ := own_is_slice g2
      have h1' := slot_of h1
      have h2' := slot_of h2
      have HR := Lib.hid (show RU w bx rs base rs (.slice a1 n1 c1) (.slice a2 n2 c2) r hd [(2, 10, 0), (5, 13, 1)] 10 13 2 18 10 (fun _ => True) 11 D' (ac.put (some 18) (.agg #[.slice x1 y1 z1, .slice x2 y2 z2, .int .i64 r, .int .i64 hd])) wc from ⟨hR.box, hR.res, hR.bel, hR.hb, hR.tk.plain (fun p hp => hdo _ (by simp only [List.mem_cons, List.not_mem_nil, or_false] at hp; rcases hp with rfl | rfl <;> decide)) (fun p hp => by simp only [List.mem_cons, List.not_mem_nil, or_false] at hp; rcases hp with rfl | rfl <;> exact put_other (by decide)) (Nat.le_refl _), fun q => by have hq0 := hR.tg trivial; obtain ⟨n, x, y, z, u, e1, e2, e3, e4⟩ := hq0; exact ⟨n, x, y, z, u, (put_other (by decide)).trans e1, e2, e3, fun q2 => by rw [hdo 11 (by decide)] at q2; rw [put_other (by decide), put_other (by decide)]; exact e4 q2⟩, fun _ => ⟨x1, y1, z1, x2, y2, z2, (put_other (by decide)).trans h1, (put_other (by decide)).trans h2, put_same (by rw [hsz]; exact (by decide : 18 < 19))⟩⟩)
      have HK := Lib.hid hK
      clear hdep hrest hR g1 g2 hK hsz
      go_simp
      exact HK.out _ _ trivial HR.out (Keep.refl _)
    case s11 =>
      intro ac wc D D' hsz hDk hDk' hdo hcl hlD hR hrest hdep K hK
      obtain ⟨n, x, y, z, u, e1, e2, e3, -⟩ := hR.tg trivial
      obtain ⟨x1, y1, z1, x2, y2, z2, h1, h2, h3⟩ := hR.bl (hlD 10 (by kernel_rfl))
      have f1 := slot_of e1
      have f3 := slot_of h3
      have c0 := e3.cell0
      have c1' := e3.cell1
      have c2' := e3.cell2
      have c3 := e3.cell3
      have cf := e3.frozen
      have hbn : bx ≠ n := by have := LO.out; omega
      have HR := Lib.hid (show RU w bx rs base rs (.slice a1 n1 c1) (.slice a2 n2 c2) r hd [(2, 10, 0), (5, 13, 1)] 10 13 2 18 10 (fun _ => True) 11 D' (ac.put none undef) ((((wc.setCell ⟨n, 0, none⟩ (.slice x1 y1 z1)).setCell ⟨n, 1, none⟩ (.slice x2 y2 z2)).setCell ⟨n, 2, none⟩ (.int .i64 r)).setCell ⟨n, 3, none⟩ (.int .i64 hd)) from ⟨
          (((hR.box.other (a := ⟨n, 0, none⟩) hbn _).other (a := ⟨n, 1, none⟩) hbn _).other (a := ⟨n, 2, none⟩) hbn _).other (a := ⟨n, 3, none⟩) hbn _,
          (by
            obtain ⟨p1, p2, p3, p4, q⟩ := hR.res
            by_cases c : rs = n
            · subst c; exact ⟨_, _, _, _, q.stored _ _ _ _⟩
            · exact ⟨_, _, _, _, (((q.other (a := ⟨n, 0, none⟩) c _).other (a := ⟨n, 1, none⟩) c _).other (a := ⟨n, 2, none⟩) c _).other (a := ⟨n, 3, none⟩) c _⟩),
          stored4 hR.bel (by have := LO.out; omega) _ _ _ _, by have := hR.hb; simpa using this, hR.tk.plain (fun p hp => hdo _ (by simp only [List.mem_cons, List.not_mem_nil, or_false] at hp; rcases hp with rfl | rfl <;> decide)) (fun p hp => by simp only [List.mem_cons, List.not_mem_nil, or_false] at hp; rcases hp with rfl | rfl <;> exact put_none) (by simp),
          fun _ => ⟨n, _, _, _, _, put_none.trans e1, e2, e3.stored _ _ _ _, fun _ => ⟨by rw [put_none, h1], by rw [put_none, h2], rfl, rfl⟩⟩, fun q => by rw [hdo 10 (by decide)] at q; rw [put_none, put_none, put_none]; exact hR.bl q⟩)
      have HK := Lib.hid hK
      have HQ := Lib.hid e3
      clear hdep hrest hR hK e3 hsz
      go_simp
      exact HK.out undef _ trivial HR.out (Keep.put4 HQ.out _ _ _ _)
    case s12 =>
      intro ac wc D D' hsz hDk hDk' hdo hcl hlD hR hrest hdep K hK
      have HR := Lib.hid (show ∀ v, RU w bx rs base rs (.slice a1 n1 c1) (.slice a2 n2 c2) r hd [(2, 10, 0), (5, 13, 1)] 10 13 2 18 10 (fun _ => True) 11 D' (ac.put (some 3) v) wc from fun v => ⟨hR.box, hR.res, hR.bel, hR.hb, hR.tk.plain (fun p hp => hdo _ (by simp only [List.mem_cons, List.not_mem_nil, or_false] at hp; rcases hp with rfl | rfl <;> decide)) (fun p hp => by simp only [List.mem_cons, List.not_mem_nil, or_false] at hp; rcases hp with rfl | rfl <;> exact put_other (by decide)) (Nat.le_refl _), fun q => by have hq0 := hR.tg trivial; obtain ⟨n, x, y, z, u, e1, e2, e3, e4⟩ := hq0; exact ⟨n, x, y, z, u, (put_other (by decide)).trans e1, e2, e3, fun q2 => by rw [hdo 11 (by decide)] at q2; rw [put_other (by decide), put_other (by decide)]; exact e4 q2⟩, fun q => by rw [hdo 10 (by decide)] at q; rw [put_other (by decide), put_other (by decide), put_other (by decide)]; exact hR.bl q⟩)
      have HK := Lib.hid hK
      clear hdep hrest hR hK hsz
      go_simp
      exact HK.out _ _ rfl (HR.out _) (Keep.refl _)
    case hend =>
      rintro ⟨tm, df⟩ w' D hD hsz hdf hR hrest hgood
      have hdf' : df = [] := hdf
      subst hdf'
      have e3 : tm.getD 3 undef = .bool true := hgood 12 (by decide)
      have e2 : tm.getD 2 undef = .pointer (some ⟨rs, 0, none⟩) := hrest 2 (by kernel_rfl)
      obtain ⟨n, x, y, z, u, q1, q2, q3, q4⟩ := hR.tg trivial
      have q1 : tm.getD 2 undef = .pointer (some ⟨n, 0, none⟩) := q1
      rw [e2] at q1
      simp only [Value.pointer.injEq, Option.some.injEq, Addr.mk.injEq, and_true] at q1
      subst q1
      obtain ⟨rfl, rfl, rfl, rfl⟩ := q4 (hD 11 (by decide))
      have g1 : OwnI w' base (tm.getD 10 undef) (s.B) := hgood 2 (by decide)
      have g2 : OwnI w' base (tm.getD 13 undef) (s.A) := hgood 5 (by decide)
      have ap := hR.tk.ap (2, 10, 0) (by decide) (5, 13, 1) (by decide) (by decide) (hD _ (by decide)) (hD _ (by decide))
      have ap2 := hR.tk.ap (5, 13, 1) (by decide) (2, 10, 0) (by decide) (by decide) (hD _ (by decide)) (hD _ (by decide))
      have e2' : tm[2]?.getD undef = _ := slot_of (a := ⟨tm, []⟩) e2
      have e3' : tm[3]?.getD undef = _ := slot_of (a := ⟨tm, []⟩) e3
      have r0 := q3.cell0
      have r1 := q3.cell1
      have r2 := q3.cell2
      have r3 := q3.cell3
      have FIN := Lib.hid (show OwnSg w' w.heap.size (.agg #[tm.getD 10 undef, tm.getD 13 undef, .int .i64 r, .int .i64 hd]) (tuG s) from ⟨_, _, by rw [HR.out.1, HR.out.2]; rfl, g1.mono (by have := LO.out; omega), g2.mono (by have := LO.out; omega), ap, ap2⟩)
      have BF := Lib.hid hR.bel
      clear hR hgood g1 g2 ap ap2 q3 q4 hrest
      go_wp2_with fail
      exact bodyPost_ret (v := .tuple #[.agg #[tm.getD 10 undef, tm.getD 13 undef, .int .i64 r, .int .i64 hd], .bool true]) (by simp [results, Tryz.results8, go_sem, r0, r1, r2, r3, e2', e3']) rfl ⟨_, by rw [HT.out], by rw [HZ.out]; exact FIN.out, BF.out⟩


end Go.Proofs.YtlcmkocbpnekhaaGreatDoor
