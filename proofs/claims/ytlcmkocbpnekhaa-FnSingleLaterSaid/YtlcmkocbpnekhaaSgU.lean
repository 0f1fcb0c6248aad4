/-
  A line with both ends exchanged, a line with later trains: the program's and the model's SingleTurn and SingleLater.
-/
import Derived.Test.YtlcmkocbpnekhaaGoodsA
import Derived.Test.YtlcmkocbpnekhaaSgV
import Derived.Test.YtlcmkocbpnekhaaSgT
import Derived.Test.YtlcmkocbpnekhaaDrG
import Derived.Deep.DeepCutAuto
namespace Go.Proofs.Ytlcmkocbpnekhaa
open Go.RowKit Go.Sort
set_option linter.unusedVariables false

def nilG : Sg := ⟨[], [], 0, 0⟩
def tuV (s : Sg) : Sg := if sgB s then tuG s else nilG
def laB (s : Sg) (k : Int) : Bool := decide (-2000 ≤ k ∧ k ≤ 2000) && sgB s && sgB (laG s k)
def laV (s : Sg) (k : Int) : Sg := if laB s k then laG s k else nilG
/-- A call that hands back a line of its own, and whether. -/
def MadeSgB (w : World) (s : Sg) (b : Bool) (e : Ending) (w' : World) : Prop := ∃ v, e = .returned (.tuple #[v, .bool b]) ∧ OwnSg w' w.heap.size v s ∧ Below w.heap.size w w'
theorem nil_sg (w : World) (base : Nat) : OwnSg w base (.agg #[.slice none 0 0, .slice none 0 0, .int .i64 0, .int .i64 0]) nilG := ⟨_, _, rfl, ⟨rfl, .inl ⟨rfl, rfl⟩⟩, ⟨rfl, .inl ⟨rfl, rfl⟩⟩, .inl rfl, .inl rfl⟩

/-! ### Slots whose rows lie apart -/
/-- An operation, its slot, its group. -/
abbrev Tq := Nat × Nat × Nat
structure Trk (tr : List Tq) (D : Nat → Bool) (a : Act) (X : World) : Prop where
  bd : ∀ p ∈ tr, D p.1 = true → ∀ b, (a.tmps.getD p.2.1 undef).ownBlock = some b → b < X.heap.size
  ap : ∀ p ∈ tr, ∀ q ∈ tr, p.2.2 ≠ q.2.2 → D p.1 = true → D q.1 = true → (a.tmps.getD p.2.1 undef).ownBlock = none ∨ (a.tmps.getD p.2.1 undef).ownBlock ≠ (a.tmps.getD q.2.1 undef).ownBlock
theorem Trk.plain {tr : List Tq} {D D' : Nat → Bool} {a a' : Act} {X X' : World} (h : Trk tr D a X) (hD : ∀ p ∈ tr, D' p.1 = D p.1) (hd : ∀ p ∈ tr, a'.tmps.getD p.2.1 undef = a.tmps.getD p.2.1 undef) (hs : X.heap.size ≤ X'.heap.size) : Trk tr D' a' X' := by
  refine ⟨fun p hp e b hb => ?_, fun p hp q hq hne e1 e2 => ?_⟩
  · rw [hD p hp] at e; rw [hd p hp] at hb; exact Nat.lt_of_lt_of_le (h.bd p hp e b hb) hs
  · rw [hD p hp] at e1; rw [hD q hq] at e2; rw [hd p hp, hd q hq]; exact h.ap p hp q hq hne e1 e2
theorem Trk.fresh {tr : List Tq} {D D' : Nat → Bool} {a a' : Act} {X X' : World} (h : Trk tr D a X) (p0 : Tq) (hu : ∀ p ∈ tr, p.1 = p0.1 → p = p0) (hD : ∀ p ∈ tr, p.1 ≠ p0.1 → D' p.1 = D p.1) (hd : ∀ p ∈ tr, p.1 ≠ p0.1 → a'.tmps.getD p.2.1 undef = a.tmps.getD p.2.1 undef)
    (hs : X.heap.size ≤ X'.heap.size) (hv : ∀ b, (a'.tmps.getD p0.2.1 undef).ownBlock = some b → X.heap.size ≤ b ∧ b < X'.heap.size) : Trk tr D' a' X' := by
  refine ⟨fun p hp e b hb => ?_, fun p hp q hq hne e1 e2 => ?_⟩
  · by_cases c : p.1 = p0.1
    · rw [hu p hp c] at hb; exact (hv b hb).2
    · rw [hD p hp c] at e; rw [hd p hp c] at hb; exact Nat.lt_of_lt_of_le (h.bd p hp e b hb) hs
  · by_cases c : p.1 = p0.1
    · have ep := hu p hp c
      subst ep
      have cq : q.1 ≠ p.1 := fun k => hne (by rw [hu q hq k])
      cases e : (a'.tmps.getD p.2.1 undef).ownBlock with
      | none => exact .inl rfl
      | some b =>
        refine .inr fun k => ?_
        rw [hd q hq cq] at k
        rw [hD q hq cq] at e2
        have := h.bd q hq e2 b k.symm
        have := (hv b e).1
        omega
    · by_cases cq : q.1 = p0.1
      · have ep := hu q hq cq
        subst ep
        rw [hD p hp c] at e1
        rw [hd p hp c]
        cases e : (a.tmps.getD p.2.1 undef).ownBlock with
        | none => exact .inl rfl
        | some b =>
          refine .inr fun k => ?_
          have := h.bd p hp e1 b e
          have := (hv b k.symm).1
          omega
      · rw [hD p hp c] at e1; rw [hD q hq cq] at e2; rw [hd p hp c, hd q hq cq]; exact h.ap p hp q hq hne e1 e2
theorem Trk.heir {tr : List Tq} {D D' : Nat → Bool} {a a' : Act} {X : World} (h : Trk tr D a X) (p0 q0 : Tq) (hq0 : q0 ∈ tr) (hg : q0.2.2 = p0.2.2) (hDq : D q0.1 = true) (hu : ∀ p ∈ tr, p.1 = p0.1 → p = p0) (hD : ∀ p ∈ tr, p.1 ≠ p0.1 → D' p.1 = D p.1) (hd : ∀ p ∈ tr, p.1 ≠ p0.1 → a'.tmps.getD p.2.1 undef = a.tmps.getD p.2.1 undef)
    (hv : (a'.tmps.getD p0.2.1 undef).ownBlock = (a.tmps.getD q0.2.1 undef).ownBlock) : Trk tr D' a' X := by
  refine ⟨fun p hp e b hb => ?_, fun p hp q hq hne e1 e2 => ?_⟩
  · by_cases c : p.1 = p0.1
    · rw [hu p hp c, hv] at hb; exact h.bd q0 hq0 hDq b hb
    · rw [hD p hp c] at e; rw [hd p hp c] at hb; exact h.bd p hp e b hb
  · by_cases c : p.1 = p0.1
    · have ep := hu p hp c
      subst ep
      have cq : q.1 ≠ p.1 := fun k => hne (by rw [hu q hq k])
      rw [hv, hd q hq cq]
      rw [hD q hq cq] at e2
      exact h.ap q0 hq0 q hq (by rw [hg]; exact hne) hDq e2
    · by_cases cq : q.1 = p0.1
      · have ep := hu q hq cq
        subst ep
        rw [hv, hd p hp c]
        rw [hD p hp c] at e1
        exact h.ap p hp q0 hq0 (by rw [hg]; exact hne) e1 hDq
      · rw [hD p hp c] at e1; rw [hD q hq cq] at e2; rw [hd p hp c, hd q hq cq]; exact h.ap p hp q hq hne e1 e2
theorem put_other {a : Act} {d s : Nat} {v : Value} (h : d ≠ s) : (a.put (some d) v).tmps.getD s undef = a.tmps.getD s undef := by
  rw [put_getD, if_neg (fun q => h (Option.some.inj q.1))]
theorem put_none {a : Act} {s : Nat} {v : Value} : (a.put none v).tmps.getD s undef = a.tmps.getD s undef := by
  rw [put_getD, if_neg (fun q => by cases q.1)]
theorem put_same {a : Act} {d : Nat} {v : Value} (h : d < a.tmps.size) : (a.put (some d) v).tmps.getD d undef = v := by
  rw [put_getD, if_pos ⟨rfl, h⟩]

/-- What each step keeps. -/
def Keep (w w' : World) : Prop := (∀ base v xs, OwnI w base v xs → OwnI w' base v xs) ∧ ∀ n : Nat, w.heap[n]? = some (Obj.cells #[] 3 (0, 0)) → w'.heap[n]? = some (Obj.cells #[] 3 (0, 0))
theorem Keep.refl (w : World) : Keep w w := ⟨fun _ _ _ h => h, fun _ h => h⟩
theorem Keep.below {w w' : World} (h : Below w.heap.size w w') : Keep w w' := ⟨fun _ _ _ o => o.below h, fun n e => (h.block n (Array.getElem?_eq_some_iff.1 e).1).trans e⟩
theorem Keep.alloc (w : World) (o : Obj) : Keep w (w.alloc o) := Keep.below (below_alloc _ _)
theorem Keep.set {w : World} {n i : Nat} {x y z u : Value} (h : Quad w n x y z u 25) (c : Value) : Keep w (w.setCell ⟨n, i, none⟩ c) := by
  refine ⟨fun base v xs o => o.kept (grownBy_set w ⟨n, i, none⟩ c) (own_not_box o h single_int), fun m e => ?_⟩
  have hne : m ≠ n := by
    intro q; subst q
    unfold Quad at h
    exact absurd (h.symm.trans e) (by simp)
  exact (Go.Deep.blk_setCell_other _ _ _ _ hne).trans e
theorem Keep.trans {a b c : World} (h : Keep a b) (k : Keep b c) : Keep a c := ⟨fun _ _ _ o => k.1 _ _ _ (h.1 _ _ _ o), fun _ e => k.2 _ (h.2 _ e)⟩
theorem Keep.put4 {w : World} {n : Nat} {x y z u : Value} (h : Quad w n x y z u 25) (x' y' z' u' : Value) : Keep w ((((w.setCell ⟨n, 0, none⟩ x').setCell ⟨n, 1, none⟩ y').setCell ⟨n, 2, none⟩ z').setCell ⟨n, 3, none⟩ u') :=
  (((Keep.set h x').trans (Keep.set (h.set0 x') y')).trans (Keep.set ((h.set0 x').set1 y') z')).trans (Keep.set (((h.set0 x').set1 y').set2 z') u')

/-- The state: the line that came in stands in block bx; behind operation al slot ts points to a box at or behind lo; behind the store L the box holds the two rows. -/
structure RU (w : World) (bx rs base lo : Nat) (u1 u2 : Value) (r hd : Int) (tr : List Tq) (s1 s2 ts bs B : Nat) (al : (Nat → Bool) → Prop) (L : Nat) (D : Nat → Bool) (a : Act) (X : World) : Prop where
  box : Quad X bx u1 u2 (.int .i64 r) (.int .i64 hd) 25
  res : ∃ x y z u, Quad X rs x y z u 25
  bel : Below w.heap.size w X
  hb : base ≤ X.heap.size
  tk : Trk tr D a X
  tg : al D → ∃ n x y z u, a.tmps.getD ts undef = .pointer (some ⟨n, 0, none⟩) ∧ lo ≤ n ∧ Quad X n x y z u 25 ∧ (D L = true → x = a.tmps.getD s1 undef ∧ y = a.tmps.getD s2 undef ∧ z = .int .i64 r ∧ u = .int .i64 hd)
  bl : D B = true → ∃ x1 y1 z1 x2 y2 z2, a.tmps.getD s1 undef = .slice x1 y1 z1 ∧ a.tmps.getD s2 undef = .slice x2 y2 z2 ∧ a.tmps.getD bs undef = .agg #[.slice x1 y1 z1, .slice x2 y2 z2, .int .i64 r, .int .i64 hd]

theorem run_copyI2 {X : World} {base N : Nat} {u : Value} {ts : List Int} (hr : Ints X u ts) (hN : X.heap[N]? = some (.cells #[] 3 (0, 0))) (hb : base ≤ N) (hbX : base ≤ X.heap.size) (ty : TypeId) :
    ∃ v' w', (Builtin.append_ #[23, 23] ty #[.slice (some ⟨N, 0, none⟩) 0 0, u]).run Try.prog X = .ok v' w' ∧ OwnI w' base v' ts ∧ Below X.heap.size X w' ∧ ((v' = .slice (some ⟨N, 0, none⟩) 0 0 ∧ w' = X) ∨ ∀ b, v'.ownBlock = some b → X.heap.size ≤ b ∧ b < w'.heap.size) := by
  obtain ⟨i0, hi, hz0, hz1, hz2⟩ := info_parts info_int
  obtain ⟨a, c, rfl, hl, hc⟩ := hr
  rcases Nat.eq_zero_or_pos ts.length with h0 | h0
  · have hsrc : Go.Src Try.prog i0.size 23 (.slice a ts.length c) ts.length [] X := by
      rw [h0]
      cases a with
      | none => exact Go.Src.ofNil X Try.underlying23 c
      | some a => exact Go.Src.ofSlice X Try.underlying23 a 0 c [] (by simp) (fun j u hu => by simp at hu) (fun u hu => by cases hu)
    have hr := Go.run_append_room_src (w := X) 23 23 ty 3 i0 Try.underlying23 hi N 0 0 0 _ ts.length [] hsrc (by omega) (fun j hj => by simp at hj) (fun j hj => by simp at hj)
    obtain rfl : ts = [] := List.eq_nil_of_length_eq_zero h0
    exact ⟨.slice (some ⟨N, 0, none⟩) 0 0, X, hr, ⟨by simp, .inr ⟨N, 0, #[], rfl, hb, hN, Nat.le_refl _, by simp [maxLen], rfl, by simp⟩⟩, Below.refl _ _, .inl ⟨rfl, rfl⟩⟩
  · rcases hc with hc | ⟨b, o, rfl, hb', hcell⟩
    · rw [hc] at h0; simp at h0
    · obtain ⟨v', w', hr, ho, hg⟩ := run_append_arg_grows (P := Try.prog) (w := X) 23 ty 3 i0 (.int .i64 0) 1 8 Try.underlying23 hi hz0 hz1 hz2 rfl (by decide) ⟨N, 0, none⟩ 0 0 [] rfl (fun j u hu => by simp at hu) ⟨b, o, none⟩ ts.length c (ts.map (Value.int .i64)) (by simp) (cells_ints hcell) (by omega) (by unfold maxLen; omega) (by omega)
      have ho : OwnI w' X.heap.size v' ts := by
        unfold OwnI
        simpa using ho
      exact ⟨v', w', hr, ho.mono hbX, ⟨hg.os, hg.tape, hg.output, hg.size, fun j hj => hg.block j hj (by simp)⟩, .inr (fun b e => World.ownsRow.lt ho b e)⟩

theorem wp_append_run {P : Program} {o : Oper} {a : Act} {w w' : World} {K : Act → World → Prop} {Q : Exit → Act → World → Prop} {v' x1 x2 : Value} {t : TypeId} (s x : Operand) (ho : o.op = .call { callee := .builtin .append, args := #[s, x], argTypes := #[t, t] }) (h1 : a.eval s = x1) (h2 : a.eval x = x2) (hr : (Builtin.append_ #[t, t] o.type #[x1, x2]).run P w = .ok v' w') (h : K (a.put o.dst v') w') : Oper.wp P o a w K Q := by
  unfold Oper.wp execOp
  simp only [ho, resolve, invoke, builtin, Sem.run_bind, Sem.run_pure, Result.andThen_ok, List.map_toArray, List.map_cons, List.map_nil, h1, h2, hr]
  exact h

def GTuI (base bx : Nat) (a1 : Option Addr) (n1 c1 : Nat) (a2 : Option Addr) (n2 c2 : Nat) (r hd k : Int) (s : Sg) (i : Nat) (v : Value) (w : World) : Prop :=
  match i with
  | 0 => v = .pointer (some ⟨bx, 1, none⟩)
  | 1 => v = .slice a2 n2 c2
  | 2 => OwnI w base v s.B
  | 3 => v = .pointer (some ⟨bx, 0, none⟩)
  | 4 => v = .slice a1 n1 c1
  | 5 => OwnI w base v s.A
  | 6 => v = .pointer (some ⟨bx, 2, none⟩)
  | 7 => v = .int .i64 r
  | 8 => v = .pointer (some ⟨bx, 3, none⟩)
  | 9 => v = .int .i64 hd
  | 10 => True
  | 11 => True
  | 12 => v = .bool true
  | _ => True
theorem GTuI.kept {base bx : Nat} {a1 : Option Addr} {n1 c1 : Nat} {a2 : Option Addr} {n2 c2 : Nat} {r hd k : Int} {s : Sg} (i : Nat) (v : Value) (w w' : World) (h : Keep w w') (q : GTuI base bx a1 n1 c1 a2 n2 c2 r hd k s i v w) : GTuI base bx a1 n1 c1 a2 n2 c2 r hd k s i v w' := by
  unfold GTuI at q ⊢
  split at q <;> first | exact q | exact h.1 _ _ _ q | exact (by obtain ⟨n, e1, e2, e3⟩ := q; exact ⟨n, e1, e2, h.2 _ e3⟩)

def GTuS (base bx : Nat) (a1 : Option Addr) (n1 c1 : Nat) (a2 : Option Addr) (n2 c2 : Nat) (r hd k : Int) (s : Sg) (i : Nat) (v : Value) (w : World) : Prop :=
  match i with
  | 0 => ∃ n, v = .slice (some ⟨n, 0, none⟩) 0 0 ∧ base ≤ n ∧ w.heap[n]? = some (.cells #[] 3 (0, 0))
  | 1 => v = .pointer (some ⟨bx, 1, none⟩)
  | 2 => v = .slice a2 n2 c2
  | 3 => OwnI w base v s.B
  | 4 => ∃ n, v = .slice (some ⟨n, 0, none⟩) 0 0 ∧ base ≤ n ∧ w.heap[n]? = some (.cells #[] 3 (0, 0))
  | 5 => v = .pointer (some ⟨bx, 0, none⟩)
  | 6 => v = .slice a1 n1 c1
  | 7 => OwnI w base v s.A
  | 8 => v = .pointer (some ⟨bx, 2, none⟩)
  | 9 => v = .int .i64 r
  | 10 => v = .pointer (some ⟨bx, 3, none⟩)
  | 11 => v = .int .i64 hd
  | 12 => True
  | 13 => True
  | 14 => v = .bool true
  | _ => True
theorem GTuS.kept {base bx : Nat} {a1 : Option Addr} {n1 c1 : Nat} {a2 : Option Addr} {n2 c2 : Nat} {r hd k : Int} {s : Sg} (i : Nat) (v : Value) (w w' : World) (h : Keep w w') (q : GTuS base bx a1 n1 c1 a2 n2 c2 r hd k s i v w) : GTuS base bx a1 n1 c1 a2 n2 c2 r hd k s i v w' := by
  unfold GTuS at q ⊢
  split at q <;> first | exact q | exact h.1 _ _ _ q | exact (by obtain ⟨n, e1, e2, e3⟩ := q; exact ⟨n, e1, e2, h.2 _ e3⟩)

def GLaI (base bx : Nat) (a1 : Option Addr) (n1 c1 : Nat) (a2 : Option Addr) (n2 c2 : Nat) (r hd k : Int) (s : Sg) (i : Nat) (v : Value) (w : World) : Prop :=
  match i with
  | 0 => v = .pointer (some ⟨bx, 0, none⟩)
  | 1 => v = .slice a1 n1 c1
  | 2 => v = .int .i64 k
  | 3 => OwnI w base v (s.A.map (· + k))
  | 4 => v = .pointer (some ⟨bx, 1, none⟩)
  | 5 => v = .slice a2 n2 c2
  | 6 => v = .int .i64 k
  | 7 => OwnI w base v (s.B.map (· + k))
  | 8 => v = .pointer (some ⟨bx, 2, none⟩)
  | 9 => v = .int .i64 r
  | 10 => v = .pointer (some ⟨bx, 3, none⟩)
  | 11 => v = .int .i64 hd
  | 12 => True
  | 13 => True
  | 14 => True
  | _ => True
theorem GLaI.kept {base bx : Nat} {a1 : Option Addr} {n1 c1 : Nat} {a2 : Option Addr} {n2 c2 : Nat} {r hd k : Int} {s : Sg} (i : Nat) (v : Value) (w w' : World) (h : Keep w w') (q : GLaI base bx a1 n1 c1 a2 n2 c2 r hd k s i v w) : GLaI base bx a1 n1 c1 a2 n2 c2 r hd k s i v w' := by
  unfold GLaI at q ⊢
  split at q <;> first | exact q | exact h.1 _ _ _ q | exact (by obtain ⟨n, e1, e2, e3⟩ := q; exact ⟨n, e1, e2, h.2 _ e3⟩)

def GLaS (base bx : Nat) (a1 : Option Addr) (n1 c1 : Nat) (a2 : Option Addr) (n2 c2 : Nat) (r hd k : Int) (s : Sg) (i : Nat) (v : Value) (w : World) : Prop :=
  match i with
  | 0 => v = .pointer (some ⟨bx, 0, none⟩)
  | 1 => v = .slice a1 n1 c1
  | 2 => v = .int .i64 k
  | 3 => OwnI w base v (s.A.map (· + k))
  | 4 => v = .pointer (some ⟨bx, 1, none⟩)
  | 5 => v = .slice a2 n2 c2
  | 6 => v = .int .i64 k
  | 7 => OwnI w base v (s.B.map (· + k))
  | 8 => v = .pointer (some ⟨bx, 2, none⟩)
  | 9 => v = .int .i64 r
  | 10 => v = .pointer (some ⟨bx, 3, none⟩)
  | 11 => v = .int .i64 hd
  | 12 => True
  | 13 => True
  | 14 => True
  | _ => True
theorem GLaS.kept {base bx : Nat} {a1 : Option Addr} {n1 c1 : Nat} {a2 : Option Addr} {n2 c2 : Nat} {r hd k : Int} {s : Sg} (i : Nat) (v : Value) (w w' : World) (h : Keep w w') (q : GLaS base bx a1 n1 c1 a2 n2 c2 r hd k s i v w) : GLaS base bx a1 n1 c1 a2 n2 c2 r hd k s i v w' := by
  unfold GLaS at q ⊢
  split at q <;> first | exact q | exact h.1 _ _ _ q | exact (by obtain ⟨n, e1, e2, e3⟩ := q; exact ⟨n, e1, e2, h.2 _ e3⟩)

set_option maxRecDepth 100000 in
set_option maxHeartbeats 4000000 in
theorem implTurn {w : World} {v : Value} {s : Sg} (h : SgV w v s) :
    Calls Try.prog 20 #[v] w (MadeSgB w (tuV s) (sgB s)) := by
  have hform := h.form
  obtain ⟨a1, n1, c1, a2, n2, c2, rfl, i1, i2⟩ := hform
  have hl := h.len
  obtain ⟨r, hr⟩ : ∃ r, r = s.run := ⟨_, rfl⟩
  obtain ⟨hd, hh⟩ : ∃ r, r = s.head := ⟨_, rfl⟩
  have SV := Lib.hid (fun (X : World) (b : Below w.heap.size w X) => implSingle (h.below b))
  rw [← hr, ← hh] at SV ⊢
  have ea := below_alloc w (.cells #[.slice a1 n1 c1, .slice a2 n2 c2, .int .i64 r, .int .i64 hd] 25)
  have pa := Quad.new w (.slice a1 n1 c1) (.slice a2 n2 c2) (.int .i64 r) (.int .i64 hd) 25
  obtain ⟨Wa, hWa⟩ : ∃ W, W = w.alloc (.cells #[.slice a1 n1 c1, .slice a2 n2 c2, .int .i64 r, .int .i64 hd] 25) := ⟨_, rfl⟩
  have sa : Wa.heap.size = w.heap.size + 1 := by rw [hWa]; exact Go.Deep.nblk_alloc _ _
  rw [← hWa] at ea pa
  have eb := below_alloc Wa (.cells #[.slice none 0 0, .slice none 0 0, .int .i64 0, .int .i64 0] 25)
  have pb := Quad.new Wa (.slice none 0 0) (.slice none 0 0) (.int .i64 0) (.int .i64 0) 25
  obtain ⟨W, hW⟩ : ∃ W, W = Wa.alloc (.cells #[.slice none 0 0, .slice none 0 0, .int .i64 0, .int .i64 0] 25) := ⟨_, rfl⟩
  rw [← hW] at eb pb
  have HW := Lib.hid (show (w.alloc (.cells #[.slice a1 n1 c1, .slice a2 n2 c2, .int .i64 r, .int .i64 hd] 25)).alloc (.cells #[.slice none 0 0, .slice none 0 0, .int .i64 0, .int .i64 0] 25) = W by rw [hW, hWa])
  have E := Lib.hid (ea.trans (eb.mono ea.size))
  rw [sa] at pb
  have PA := Lib.hid (pa.below eb)
  have PB := Lib.hid pb
  have I1 := Lib.hid i1
  have I2 := Lib.hid i2
  have HR := Lib.hid (And.intro hr hh)
  have HLN := Lib.hid hl
  have p0 := PA.out.cell0
  have p1 := PA.out.cell1
  have p2 := PA.out.cell2
  have p3 := PA.out.cell3
  obtain ⟨t, ht⟩ : ∃ t, t = sgB s := ⟨_, rfl⟩
  rw [← ht] at SV
  have HT := Lib.hid ht.symm
  clear ht h i1 i2 ea eb pa pb hW hWa sa hr hh hl
  go_enter Try.func20, Try.ntmps20
  go_upto_region 1 with fail
  rw [HW.out]
  go_wp2_with fail
  refine (SV.out _ E.out).mono ?_
  rintro e w2 ⟨rfl, b2⟩
  cases t
  · have HZ := Lib.hid (show tuV s = nilG by unfold tuV; rw [HT.out]; rfl)
    have QZ := Lib.hid (PB.out.below b2)
    have BZ := Lib.hid (E.out.trans (b2.mono E.out.size))
    clear b2 p0 p1 p2 p3
    have qz := QZ.out
    have z0 := qz.cell0
    have z1 := qz.cell1
    have z2 := qz.cell2
    have z3 := qz.cell3
    have zf := qz.frozen
    have qs := qz.stored (.slice none 0 0) (.slice none 0 0) (.int .i64 0) (.int .i64 0)
    have y0 := qs.cell0
    have y1 := qs.cell1
    have y2 := qs.cell2
    have y3 := qs.cell3
    have BE := Lib.hid (stored4 BZ.out (b := w.heap.size + 1) (Nat.le_succ _) (.slice none 0 0) (.slice none 0 0) (.int .i64 0) (.int .i64 0))
    clear qz qs
    go_wp2_with fail
    exact bodyPost_ret (v := .tuple #[.agg #[.slice none 0 0, .slice none 0 0, .int .i64 0, .int .i64 0], .bool false]) (by simp [results, Try.results20, go_sem, y0, y1, y2, y3]) rfl ⟨_, by rw [HT.out], by rw [HZ.out]; exact nil_sg _ _, BE.out⟩
  · have HZ := Lib.hid (show tuV s = tuG s by unfold tuV; rw [HT.out]; rfl)
    obtain ⟨k, hk⟩ : ∃ k : Int, k = 0 := ⟨_, rfl⟩
    clear hk
    obtain ⟨bx, hbx⟩ : ∃ x, x = w.heap.size := ⟨_, rfl⟩
    obtain ⟨rs, hrs⟩ : ∃ x, x = w.heap.size + 1 := ⟨_, rfl⟩
    obtain ⟨base, hbase⟩ : ∃ x, x = w2.heap.size := ⟨_, rfl⟩
    have BOX := Lib.hid (show Quad w2 bx (.slice a1 n1 c1) (.slice a2 n2 c2) (.int .i64 r) (.int .i64 hd) 25 by rw [hbx]; exact PA.out.below b2)
    have RES := Lib.hid (show Quad w2 rs (.slice none 0 0) (.slice none 0 0) (.int .i64 0) (.int .i64 0) 25 by rw [hrs]; exact PB.out.below b2)
    have BEL := Lib.hid (E.out.trans (b2.mono E.out.size))
    have HBX := Lib.hid (show base ≤ w2.drew.heap.size by rw [hbase]; exact Nat.le_refl _)
    have LO := Lib.hid (show bx < rs ∧ w.heap.size ≤ bx ∧ rs < base ∧ bx = w.heap.size ∧ rs = w.heap.size + 1 by have := RES.out.lt; omega)
    have CA := Lib.hid (fun (X : World) (b : Below w.heap.size w X) => cloneInts (I1.out.below b))
    have CB := Lib.hid (fun (X : World) (b : Below w.heap.size w X) => cloneInts (I2.out.below b))
    rw [← hrs, ← hbx]
    clear b2 p0 p1 p2 p3 hbx hrs hbase
    go_upto_region 3 with fail
    refine wp_region_goodsA (G := GTuI base bx a1 n1 c1 a2 n2 c2 r hd k s) (R := fun D a X => RU w bx rs base rs (.slice a1 n1 c1) (.slice a2 n2 c2) r hd [(2, 10, 0), (5, 13, 1)] 10 13 2 18 10 (fun _ => True) 11 D a X) (T := fun _ => Keep) (by kernel_rfl) (by kernel_rfl) ?start (fun _ i _ v X Y _ _ _ h => GTuI.kept i v X Y h) ⟨?s0, ?s1, ?s2, ?s3, ?s4, ?s5, ?s6, ?s7, ?s8, ?s9, ?s10, ?s11, ?s12, trivial⟩ ?hend
    case start =>
      intro D hD
      exact ⟨BOX.out.below ((Below.refl _ _).drew), ⟨_, _, _, _, RES.out.below ((Below.refl _ _).drew)⟩, BEL.out.drew, HBX.out, ⟨(fun p hp e => by rw [hD] at e; cases e), (fun p hp q hq hne e => by rw [hD] at e; cases e)⟩, fun _ => ⟨rs, _, _, _, _, rfl, Nat.le_refl _, RES.out.below ((Below.refl _ _).drew), fun q => by rw [hD] at q; cases q⟩, fun q => by rw [hD] at q; cases q⟩
    case s0 =>
      intro ac wc D D' hsz hDk hDk' hdo hcl hlD hR hrest hdep K hK
      have e0 : ac.tmps.getD 1 undef = .pointer (some ⟨bx, 0, none⟩) := hrest 1 (by kernel_rfl)
      have f0 := slot_of e0
      have HR := Lib.hid (show ∀ v, RU w bx rs base rs (.slice a1 n1 c1) (.slice a2 n2 c2) r hd [(2, 10, 0), (5, 13, 1)] 10 13 2 18 10 (fun _ => True) 11 D' (ac.put (some 8) v) wc from fun v => ⟨hR.box, hR.res, hR.bel, hR.hb, hR.tk.plain (fun p hp => hdo _ (by simp only [List.mem_cons, List.not_mem_nil, or_false] at hp; rcases hp with rfl | rfl <;> decide)) (fun p hp => by simp only [List.mem_cons, List.not_mem_nil, or_false] at hp; rcases hp with rfl | rfl <;> exact put_other (by decide)) (Nat.le_refl _), fun q => by have hq0 := hR.tg trivial; obtain ⟨n, x, y, z, u, e1, e2, e3, e4⟩ := hq0; exact ⟨n, x, y, z, u, (put_other (by decide)).trans e1, e2, e3, fun q2 => by rw [hdo 11 (by decide)] at q2; rw [put_other (by decide), put_other (by decide)]; exact e4 q2⟩, fun q => by rw [hdo 10 (by decide)] at q; rw [put_other (by decide), put_other (by decide), put_other (by decide)]; exact hR.bl q⟩)
      have HK := Lib.hid hK
      clear hdep hrest hR hK hsz
      go_simp
      exact HK.out _ _ rfl (HR.out _) (Keep.refl _)
    case s1 =>
      intro ac wc D D' hsz hDk hDk' hdo hcl hlD hR hrest hdep K hK
      have e0 : ac.tmps.getD 8 undef = .pointer (some ⟨bx, 1, none⟩) := hdep 0 (by kernel_rfl)
      have f0 := slot_of e0
      have c0 := hR.box.cell0
      have c1' := hR.box.cell1
      have c2' := hR.box.cell2
      have c3 := hR.box.cell3
      have HR := Lib.hid (show ∀ v, RU w bx rs base rs (.slice a1 n1 c1) (.slice a2 n2 c2) r hd [(2, 10, 0), (5, 13, 1)] 10 13 2 18 10 (fun _ => True) 11 D' (ac.put (some 9) v) wc from fun v => ⟨hR.box, hR.res, hR.bel, hR.hb, hR.tk.plain (fun p hp => hdo _ (by simp only [List.mem_cons, List.not_mem_nil, or_false] at hp; rcases hp with rfl | rfl <;> decide)) (fun p hp => by simp only [List.mem_cons, List.not_mem_nil, or_false] at hp; rcases hp with rfl | rfl <;> exact put_other (by decide)) (Nat.le_refl _), fun q => by have hq0 := hR.tg trivial; obtain ⟨n, x, y, z, u, e1, e2, e3, e4⟩ := hq0; exact ⟨n, x, y, z, u, (put_other (by decide)).trans e1, e2, e3, fun q2 => by rw [hdo 11 (by decide)] at q2; rw [put_other (by decide), put_other (by decide)]; exact e4 q2⟩, fun q => by rw [hdo 10 (by decide)] at q; rw [put_other (by decide), put_other (by decide), put_other (by decide)]; exact hR.bl q⟩)
      have HK := Lib.hid hK
      clear hdep hrest hR hK hsz
      go_simp
      exact HK.out _ _ rfl (HR.out _) (Keep.refl _)
    case s2 =>
      intro ac wc D D' hsz hDk hDk' hdo hcl hlD hR hrest hdep K hK
      have e0 : ac.tmps.getD 9 undef = .slice a2 n2 c2 := hdep 1 (by kernel_rfl)
      have f0 := slot_of e0
      have HL := Lib.hid (show D 11 = false from by
        cases hq : D 11 with
        | false => rfl
        | true =>
          have h10 := hcl 11 _ rfl hq 10 (by kernel_rfl)
          have h2 := hcl 10 _ rfl h10 2 (by kernel_rfl)
          rw [h2] at hDk; cases hDk)
      have HB := Lib.hid (show D 10 = false from by
        cases hq : D 10 with
        | false => rfl
        | true =>
          have h2 := hcl 10 _ rfl hq 2 (by kernel_rfl)
          rw [h2] at hDk; cases hDk)
      have HC := Lib.hid (CB.out _ hR.bel)
      have HS := Lib.hid (show ∀ v' w', OwnI w' wc.heap.size v' (s.B) → Below wc.heap.size wc w' → RU w bx rs base rs (.slice a1 n1 c1) (.slice a2 n2 c2) r hd [(2, 10, 0), (5, 13, 1)] 10 13 2 18 10 (fun _ => True) 11 D' (ac.put (some 10) v') w' from fun v' w' hv hbl => ⟨hR.box.below hbl, (by obtain ⟨x, y, z, u, q⟩ := hR.res; exact ⟨x, y, z, u, q.below hbl⟩), hR.bel.trans (hbl.mono hR.bel.size), Nat.le_trans hR.hb hbl.size, hR.tk.fresh (2, 10, 0) (by decide) (fun p hp hne => hdo _ hne) (fun p hp hne => by simp only [List.mem_cons, List.not_mem_nil, or_false] at hp; rcases hp with rfl | rfl <;> first | exact put_other (by decide) | exact absurd rfl hne) (hbl.size) (fun b hb => by rw [put_same (by rw [hsz]; exact (by decide : 10 < 19))] at hb; exact World.ownsRow.lt hv b hb), fun q => by have hq0 := hR.tg trivial; obtain ⟨n, x, y, z, u, e1, e2, e3, e4⟩ := hq0; exact ⟨n, x, y, z, u, (put_other (by decide)).trans e1, e2, e3.below hbl, fun q2 => by rw [hdo 11 (by decide)] at q2; rw [HL.out] at q2; cases q2⟩, fun q => by rw [hdo 10 (by decide)] at q; rw [HB.out] at q; cases q⟩)
      have hbw := Lib.hid hR.hb
      have HK := Lib.hid hK
      clear hdep hrest hR hK hsz
      go_simp
      refine HC.out.mono ?_
      rintro e w' ⟨v', rfl, hv, hbl⟩
      exact HK.out v' w' (hv.mono hbw.out) (HS.out v' w' hv hbl) (Keep.below hbl)
    case s3 =>
      intro ac wc D D' hsz hDk hDk' hdo hcl hlD hR hrest hdep K hK
      have e0 : ac.tmps.getD 1 undef = .pointer (some ⟨bx, 0, none⟩) := hrest 1 (by kernel_rfl)
      have f0 := slot_of e0
      have HR := Lib.hid (show ∀ v, RU w bx rs base rs (.slice a1 n1 c1) (.slice a2 n2 c2) r hd [(2, 10, 0), (5, 13, 1)] 10 13 2 18 10 (fun _ => True) 11 D' (ac.put (some 11) v) wc from fun v => ⟨hR.box, hR.res, hR.bel, hR.hb, hR.tk.plain (fun p hp => hdo _ (by simp only [List.mem_cons, List.not_mem_nil, or_false] at hp; rcases hp with rfl | rfl <;> decide)) (fun p hp => by simp only [List.mem_cons, List.not_mem_nil, or_false] at hp; rcases hp with rfl | rfl <;> exact put_other (by decide)) (Nat.le_refl _), fun q => by have hq0 := hR.tg trivial; obtain ⟨n, x, y, z, u, e1, e2, e3, e4⟩ := hq0; exact ⟨n, x, y, z, u, (put_other (by decide)).trans e1, e2, e3, fun q2 => by rw [hdo 11 (by decide)] at q2; rw [put_other (by decide), put_other (by decide)]; exact e4 q2⟩, fun q => by rw [hdo 10 (by decide)] at q; rw [put_other (by decide), put_other (by decide), put_other (by decide)]; exact hR.bl q⟩)
      have HK := Lib.hid hK
      clear hdep hrest hR hK hsz
      go_simp
      exact HK.out _ _ rfl (HR.out _) (Keep.refl _)
    case s4 =>
      intro ac wc D D' hsz hDk hDk' hdo hcl hlD hR hrest hdep K hK
      have e0 : ac.tmps.getD 11 undef = .pointer (some ⟨bx, 0, none⟩) := hdep 3 (by kernel_rfl)
      have f0 := slot_of e0
      have c0 := hR.box.cell0
      have c1' := hR.box.cell1
      have c2' := hR.box.cell2
      have c3 := hR.box.cell3
      have HR := Lib.hid (show ∀ v, RU w bx rs base rs (.slice a1 n1 c1) (.slice a2 n2 c2) r hd [(2, 10, 0), (5, 13, 1)] 10 13 2 18 10 (fun _ => True) 11 D' (ac.put (some 12) v) wc from fun v => ⟨hR.box, hR.res, hR.bel, hR.hb, hR.tk.plain (fun p hp => hdo _ (by simp only [List.mem_cons, List.not_mem_nil, or_false] at hp; rcases hp with rfl | rfl <;> decide)) (fun p hp => by simp only [List.mem_cons, List.not_mem_nil, or_false] at hp; rcases hp with rfl | rfl <;> exact put_other (by decide)) (Nat.le_refl _), fun q => by have hq0 := hR.tg trivial; obtain ⟨n, x, y, z, u, e1, e2, e3, e4⟩ := hq0; exact ⟨n, x, y, z, u, (put_other (by decide)).trans e1, e2, e3, fun q2 => by rw [hdo 11 (by decide)] at q2; rw [put_other (by decide), put_other (by decide)]; exact e4 q2⟩, fun q => by rw [hdo 10 (by decide)] at q; rw [put_other (by decide), put_other (by decide), put_other (by decide)]; exact hR.bl q⟩)
      have HK := Lib.hid hK
      clear hdep hrest hR hK hsz
      go_simp
      exact HK.out _ _ rfl (HR.out _) (Keep.refl _)
    case s5 =>
      intro ac wc D D' hsz hDk hDk' hdo hcl hlD hR hrest hdep K hK
      have e0 : ac.tmps.getD 12 undef = .slice a1 n1 c1 := hdep 4 (by kernel_rfl)
      have f0 := slot_of e0
      have HL := Lib.hid (show D 11 = false from by
        cases hq : D 11 with
        | false => rfl
        | true =>
          have h10 := hcl 11 _ rfl hq 10 (by kernel_rfl)
          have h5 := hcl 10 _ rfl h10 5 (by kernel_rfl)
          rw [h5] at hDk; cases hDk)
      have HB := Lib.hid (show D 10 = false from by
        cases hq : D 10 with
        | false => rfl
        | true =>
          have h5 := hcl 10 _ rfl hq 5 (by kernel_rfl)
          rw [h5] at hDk; cases hDk)
      have HC := Lib.hid (CA.out _ hR.bel)
      have HS := Lib.hid (show ∀ v' w', OwnI w' wc.heap.size v' (s.A) → Below wc.heap.size wc w' → RU w bx rs base rs (.slice a1 n1 c1) (.slice a2 n2 c2) r hd [(2, 10, 0), (5, 13, 1)] 10 13 2 18 10 (fun _ => True) 11 D' (ac.put (some 13) v') w' from fun v' w' hv hbl => ⟨hR.box.below hbl, (by obtain ⟨x, y, z, u, q⟩ := hR.res; exact ⟨x, y, z, u, q.below hbl⟩), hR.bel.trans (hbl.mono hR.bel.size), Nat.le_trans hR.hb hbl.size, hR.tk.fresh (5, 13, 1) (by decide) (fun p hp hne => hdo _ hne) (fun p hp hne => by simp only [List.mem_cons, List.not_mem_nil, or_false] at hp; rcases hp with rfl | rfl <;> first | exact put_other (by decide) | exact absurd rfl hne) (hbl.size) (fun b hb => by rw [put_same (by rw [hsz]; exact (by decide : 13 < 19))] at hb; exact World.ownsRow.lt hv b hb), fun q => by have hq0 := hR.tg trivial; obtain ⟨n, x, y, z, u, e1, e2, e3, e4⟩ := hq0; exact ⟨n, x, y, z, u, (put_other (by decide)).trans e1, e2, e3.below hbl, fun q2 => by rw [hdo 11 (by decide)] at q2; rw [HL.out] at q2; cases q2⟩, fun q => by rw [hdo 10 (by decide)] at q; rw [HB.out] at q; cases q⟩)
      have hbw := Lib.hid hR.hb
      have HK := Lib.hid hK
      clear hdep hrest hR hK hsz
      go_simp
      refine HC.out.mono ?_
      rintro e w' ⟨v', rfl, hv, hbl⟩
      exact HK.out v' w' (hv.mono hbw.out) (HS.out v' w' hv hbl) (Keep.below hbl)
    case s6 =>
      intro ac wc D D' hsz hDk hDk' hdo hcl hlD hR hrest hdep K hK
      have e0 : ac.tmps.getD 1 undef = .pointer (some ⟨bx, 0, none⟩) := hrest 1 (by kernel_rfl)
      have f0 := slot_of e0
      have HR := Lib.hid (show ∀ v, RU w bx rs base rs (.slice a1 n1 c1) (.slice a2 n2 c2) r hd [(2, 10, 0), (5, 13, 1)] 10 13 2 18 10 (fun _ => True) 11 D' (ac.put (some 14) v) wc from fun v => ⟨hR.box, hR.res, hR.bel, hR.hb, hR.tk.plain (fun p hp => hdo _ (by simp only [List.mem_cons, List.not_mem_nil, or_false] at hp; rcases hp with rfl | rfl <;> decide)) (fun p hp => by simp only [List.mem_cons, List.not_mem_nil, or_false] at hp; rcases hp with rfl | rfl <;> exact put_other (by decide)) (Nat.le_refl _), fun q => by have hq0 := hR.tg trivial; obtain ⟨n, x, y, z, u, e1, e2, e3, e4⟩ := hq0; exact ⟨n, x, y, z, u, (put_other (by decide)).trans e1, e2, e3, fun q2 => by rw [hdo 11 (by decide)] at q2; rw [put_other (by decide), put_other (by decide)]; exact e4 q2⟩, fun q => by rw [hdo 10 (by decide)] at q; rw [put_other (by decide), put_other (by decide), put_other (by decide)]; exact hR.bl q⟩)
      have HK := Lib.hid hK
      clear hdep hrest hR hK hsz
      go_simp
      exact HK.out _ _ rfl (HR.out _) (Keep.refl _)
    case s7 =>
      intro ac wc D D' hsz hDk hDk' hdo hcl hlD hR hrest hdep K hK
      have e0 : ac.tmps.getD 14 undef = .pointer (some ⟨bx, 2, none⟩) := hdep 6 (by kernel_rfl)
      have f0 := slot_of e0
      have c0 := hR.box.cell0
      have c1' := hR.box.cell1
      have c2' := hR.box.cell2
      have c3 := hR.box.cell3
      have HR := Lib.hid (show ∀ v, RU w bx rs base rs (.slice a1 n1 c1) (.slice a2 n2 c2) r hd [(2, 10, 0), (5, 13, 1)] 10 13 2 18 10 (fun _ => True) 11 D' (ac.put (some 15) v) wc from fun v => ⟨hR.box, hR.res, hR.bel, hR.hb, hR.tk.plain (fun p hp => hdo _ (by simp only [List.mem_cons, List.not_mem_nil, or_false] at hp; rcases hp with rfl | rfl <;> decide)) (fun p hp => by simp only [List.mem_cons, List.not_mem_nil, or_false] at hp; rcases hp with rfl | rfl <;> exact put_other (by decide)) (Nat.le_refl _), fun q => by have hq0 := hR.tg trivial; obtain ⟨n, x, y, z, u, e1, e2, e3, e4⟩ := hq0; exact ⟨n, x, y, z, u, (put_other (by decide)).trans e1, e2, e3, fun q2 => by rw [hdo 11 (by decide)] at q2; rw [put_other (by decide), put_other (by decide)]; exact e4 q2⟩, fun q => by rw [hdo 10 (by decide)] at q; rw [put_other (by decide), put_other (by decide), put_other (by decide)]; exact hR.bl q⟩)
      have HK := Lib.hid hK
      clear hdep hrest hR hK hsz
      go_simp
      exact HK.out _ _ rfl (HR.out _) (Keep.refl _)
    case s8 =>
      intro ac wc D D' hsz hDk hDk' hdo hcl hlD hR hrest hdep K hK
      have e0 : ac.tmps.getD 1 undef = .pointer (some ⟨bx, 0, none⟩) := hrest 1 (by kernel_rfl)
      have f0 := slot_of e0
      have HR := Lib.hid (show ∀ v, RU w bx rs base rs (.slice a1 n1 c1) (.slice a2 n2 c2) r hd [(2, 10, 0), (5, 13, 1)] 10 13 2 18 10 (fun _ => True) 11 D' (ac.put (some 16) v) wc from fun v => ⟨hR.box, hR.res, hR.bel, hR.hb, hR.tk.plain (fun p hp => hdo _ (by simp only [List.mem_cons, List.not_mem_nil, or_false] at hp; rcases hp with rfl | rfl <;> decide)) (fun p hp => by simp only [List.mem_cons, List.not_mem_nil, or_false] at hp; rcases hp with rfl | rfl <;> exact put_other (by decide)) (Nat.le_refl _), fun q => by have hq0 := hR.tg trivial; obtain ⟨n, x, y, z, u, e1, e2, e3, e4⟩ := hq0; exact ⟨n, x, y, z, u, (put_other (by decide)).trans e1, e2, e3, fun q2 => by rw [hdo 11 (by decide)] at q2; rw [put_other (by decide), put_other (by decide)]; exact e4 q2⟩, fun q => by rw [hdo 10 (by decide)] at q; rw [put_other (by decide), put_other (by decide), put_other (by decide)]; exact hR.bl q⟩)
      have HK := Lib.hid hK
      clear hdep hrest hR hK hsz
      go_simp
      exact HK.out _ _ rfl (HR.out _) (Keep.refl _)
    case s9 =>
      intro ac wc D D' hsz hDk hDk' hdo hcl hlD hR hrest hdep K hK
      have e0 : ac.tmps.getD 16 undef = .pointer (some ⟨bx, 3, none⟩) := hdep 8 (by kernel_rfl)
      have f0 := slot_of e0
      have c0 := hR.box.cell0
      have c1' := hR.box.cell1
      have c2' := hR.box.cell2
      have c3 := hR.box.cell3
      have HR := Lib.hid (show ∀ v, RU w bx rs base rs (.slice a1 n1 c1) (.slice a2 n2 c2) r hd [(2, 10, 0), (5, 13, 1)] 10 13 2 18 10 (fun _ => True) 11 D' (ac.put (some 17) v) wc from fun v => ⟨hR.box, hR.res, hR.bel, hR.hb, hR.tk.plain (fun p hp => hdo _ (by simp only [List.mem_cons, List.not_mem_nil, or_false] at hp; rcases hp with rfl | rfl <;> decide)) (fun p hp => by simp only [List.mem_cons, List.not_mem_nil, or_false] at hp; rcases hp with rfl | rfl <;> exact put_other (by decide)) (Nat.le_refl _), fun q => by have hq0 := hR.tg trivial; obtain ⟨n, x, y, z, u, e1, e2, e3, e4⟩ := hq0; exact ⟨n, x, y, z, u, (put_other (by decide)).trans e1, e2, e3, fun q2 => by rw [hdo 11 (by decide)] at q2; rw [put_other (by decide), put_other (by decide)]; exact e4 q2⟩, fun q => by rw [hdo 10 (by decide)] at q; rw [put_other (by decide), put_other (by decide), put_other (by decide)]; exact hR.bl q⟩)
      have HK := Lib.hid hK
      clear hdep hrest hR hK hsz
      go_simp
      exact HK.out _ _ rfl (HR.out _) (Keep.refl _)
    case s10 =>
      intro ac wc D D' hsz hDk hDk' hdo hcl hlD hR hrest hdep K hK
      have e0 : ac.tmps.getD 15 undef = .int .i64 r := hdep 7 (by kernel_rfl)
      have f0 := slot_of e0
      have e1 : ac.tmps.getD 17 undef = .int .i64 hd := hdep 9 (by kernel_rfl)
      have f1 := slot_of e1
      have g1 : OwnI wc base (ac.tmps.getD 10 undef) (s.B) := hdep 2 (by kernel_rfl)
      have g2 : OwnI wc base (ac.tmps.getD 13 undef) (s.A) := hdep 5 (by kernel_rfl)
      obtain ⟨x1, y1, z1, h1⟩ := own_is_slice g1
      obtain ⟨x2, y2, z2, h2⟩ := own_is_slice g2
      have h1' := slot_of h1
      have h2' := slot_of h2
      have HR := Lib.hid (show RU w bx rs base rs (.slice a1 n1 c1) (.slice a2 n2 c2) r hd [(2, 10, 0), (5, 13, 1)] 10 13 2 18 10 (fun _ => True) 11 D' (ac.put (some 18) (.agg #[.slice x1 y1 z1, .slice x2 y2 z2, .int .i64 r, .int .i64 hd])) wc from ⟨hR.box, hR.res, hR.bel, hR.hb, hR.tk.plain (fun p hp => hdo _ (by simp only [List.mem_cons, List.not_mem_nil, or_false] at hp; rcases hp with rfl | rfl <;> decide)) (fun p hp => by simp only [List.mem_cons, List.not_mem_nil, or_false] at hp; rcases hp with rfl | rfl <;> exact put_other (by decide)) (Nat.le_refl _), fun q => by have hq0 := hR.tg trivial; obtain ⟨n, x, y, z, u, e1, e2, e3, e4⟩ := hq0; exact ⟨n, x, y, z, u, (put_other (by decide)).trans e1, e2, e3, fun q2 => by rw [hdo 11 (by decide)] at q2; rw [put_other (by decide), put_other (by decide)]; exact e4 q2⟩, fun _ => ⟨x1, y1, z1, x2, y2, z2, (put_other (by decide)).trans h1, (put_other (by decide)).trans h2, put_same (by rw [hsz]; exact (by decide : 18 < 19))⟩⟩)
      have HK := Lib.hid hK
      clear hdep hrest hR g1 g2 hK hsz
      go_simp
      exact HK.out _ _ trivial HR.out (Keep.refl _)
    case s11 =>
      intro ac wc D D' hsz hDk hDk' hdo hcl hlD hR hrest hdep K hK
      obtain ⟨n, x, y, z, u, e1, e2, e3, -⟩ := hR.tg trivial
      obtain ⟨x1, y1, z1, x2, y2, z2, h1, h2, h3⟩ := hR.bl (hlD 10 (by kernel_rfl))
      have f1 := slot_of e1
      have f3 := slot_of h3
      have c0 := e3.cell0
      have c1' := e3.cell1
      have c2' := e3.cell2
      have c3 := e3.cell3
      have cf := e3.frozen
      have hbn : bx ≠ n := by have := LO.out; omega
      have HR := Lib.hid (show RU w bx rs base rs (.slice a1 n1 c1) (.slice a2 n2 c2) r hd [(2, 10, 0), (5, 13, 1)] 10 13 2 18 10 (fun _ => True) 11 D' (ac.put none undef) ((((wc.setCell ⟨n, 0, none⟩ (.slice x1 y1 z1)).setCell ⟨n, 1, none⟩ (.slice x2 y2 z2)).setCell ⟨n, 2, none⟩ (.int .i64 r)).setCell ⟨n, 3, none⟩ (.int .i64 hd)) from ⟨
          (((hR.box.other (a := ⟨n, 0, none⟩) hbn _).other (a := ⟨n, 1, none⟩) hbn _).other (a := ⟨n, 2, none⟩) hbn _).other (a := ⟨n, 3, none⟩) hbn _,
          (by
            obtain ⟨p1, p2, p3, p4, q⟩ := hR.res
            by_cases c : rs = n
            · subst c; exact ⟨_, _, _, _, q.stored _ _ _ _⟩
            · exact ⟨_, _, _, _, (((q.other (a := ⟨n, 0, none⟩) c _).other (a := ⟨n, 1, none⟩) c _).other (a := ⟨n, 2, none⟩) c _).other (a := ⟨n, 3, none⟩) c _⟩),
          stored4 hR.bel (by have := LO.out; omega) _ _ _ _, by have := hR.hb; simpa using this, hR.tk.plain (fun p hp => hdo _ (by simp only [List.mem_cons, List.not_mem_nil, or_false] at hp; rcases hp with rfl | rfl <;> decide)) (fun p hp => by simp only [List.mem_cons, List.not_mem_nil, or_false] at hp; rcases hp with rfl | rfl <;> exact put_none) (by simp),
          fun _ => ⟨n, _, _, _, _, put_none.trans e1, e2, e3.stored _ _ _ _, fun _ => ⟨by rw [put_none, h1], by rw [put_none, h2], rfl, rfl⟩⟩, fun q => by rw [hdo 10 (by decide)] at q; rw [put_none, put_none, put_none]; exact hR.bl q⟩)
      have HK := Lib.hid hK
      have HQ := Lib.hid e3
      clear hdep hrest hR hK e3 hsz
      go_simp
      exact HK.out undef _ trivial HR.out (Keep.put4 HQ.out _ _ _ _)
    case s12 =>
      intro ac wc D D' hsz hDk hDk' hdo hcl hlD hR hrest hdep K hK
      have HR := Lib.hid (show ∀ v, RU w bx rs base rs (.slice a1 n1 c1) (.slice a2 n2 c2) r hd [(2, 10, 0), (5, 13, 1)] 10 13 2 18 10 (fun _ => True) 11 D' (ac.put (some 3) v) wc from fun v => ⟨hR.box, hR.res, hR.bel, hR.hb, hR.tk.plain (fun p hp => hdo _ (by simp only [List.mem_cons, List.not_mem_nil, or_false] at hp; rcases hp with rfl | rfl <;> decide)) (fun p hp => by simp only [List.mem_cons, List.not_mem_nil, or_false] at hp; rcases hp with rfl | rfl <;> exact put_other (by decide)) (Nat.le_refl _), fun q => by have hq0 := hR.tg trivial; obtain ⟨n, x, y, z, u, e1, e2, e3, e4⟩ := hq0; exact ⟨n, x, y, z, u, (put_other (by decide)).trans e1, e2, e3, fun q2 => by rw [hdo 11 (by decide)] at q2; rw [put_other (by decide), put_other (by decide)]; exact e4 q2⟩, fun q => by rw [hdo 10 (by decide)] at q; rw [put_other (by decide), put_other (by decide), put_other (by decide)]; exact hR.bl q⟩)
      have HK := Lib.hid hK
      clear hdep hrest hR hK hsz
      go_simp
      exact HK.out _ _ rfl (HR.out _) (Keep.refl _)
    case hend =>
      rintro ⟨tm, df⟩ w' D hD hsz hdf hR hrest hgood
      have hdf' : df = [] := hdf
      subst hdf'
      have e3 : tm.getD 3 undef = .bool true := hgood 12 (by decide)
      have e2 : tm.getD 2 undef = .pointer (some ⟨rs, 0, none⟩) := hrest 2 (by kernel_rfl)
      obtain ⟨n, x, y, z, u, q1, q2, q3, q4⟩ := hR.tg trivial
      have q1 : tm.getD 2 undef = .pointer (some ⟨n, 0, none⟩) := q1
      rw [e2] at q1
      simp only [Value.pointer.injEq, Option.some.injEq, Addr.mk.injEq, and_true] at q1
      subst q1
      obtain ⟨rfl, rfl, rfl, rfl⟩ := q4 (hD 11 (by decide))
      have g1 : OwnI w' base (tm.getD 10 undef) (s.B) := hgood 2 (by decide)
      have g2 : OwnI w' base (tm.getD 13 undef) (s.A) := hgood 5 (by decide)
      have ap := hR.tk.ap (2, 10, 0) (by decide) (5, 13, 1) (by decide) (by decide) (hD _ (by decide)) (hD _ (by decide))
      have ap2 := hR.tk.ap (5, 13, 1) (by decide) (2, 10, 0) (by decide) (by decide) (hD _ (by decide)) (hD _ (by decide))
      have e2' : tm[2]?.getD undef = _ := slot_of (a := ⟨tm, []⟩) e2
      have e3' : tm[3]?.getD undef = _ := slot_of (a := ⟨tm, []⟩) e3
      have r0 := q3.cell0
      have r1 := q3.cell1
      have r2 := q3.cell2
      have r3 := q3.cell3
      have FIN := Lib.hid (show OwnSg w' w.heap.size (.agg #[tm.getD 10 undef, tm.getD 13 undef, .int .i64 r, .int .i64 hd]) (tuG s) from ⟨_, _, by rw [HR.out.1, HR.out.2]; rfl, g1.mono (by have := LO.out; omega), g2.mono (by have := LO.out; omega), ap, ap2⟩)
      have BF := Lib.hid hR.bel
      clear hR hgood g1 g2 ap ap2 q3 q4 hrest
      go_wp2_with fail
      exact bodyPost_ret (v := .tuple #[.agg #[tm.getD 10 undef, tm.getD 13 undef, .int .i64 r, .int .i64 hd], .bool true]) (by simp [results, Try.results20, go_sem, r0, r1, r2, r3, e2', e3']) rfl ⟨_, by rw [HT.out], by rw [HZ.out]; exact FIN.out, BF.out⟩

set_option maxRecDepth 100000 in
set_option maxHeartbeats 4000000 in
theorem specTurn {w : World} {v : Value} {s : Sg} (h : SgV w v s) :
    Calls Try.prog 21 #[v] w (MadeSgB w (tuV s) (sgB s)) := by
  have hform := h.form
  obtain ⟨a1, n1, c1, a2, n2, c2, rfl, i1, i2⟩ := hform
  have hl := h.len
  obtain ⟨r, hr⟩ : ∃ r, r = s.run := ⟨_, rfl⟩
  obtain ⟨hd, hh⟩ : ∃ r, r = s.head := ⟨_, rfl⟩
  have SV := Lib.hid (fun (X : World) (b : Below w.heap.size w X) => specSingle (h.below b))
  rw [← hr, ← hh] at SV ⊢
  have ea := below_alloc w (.cells #[.slice a1 n1 c1, .slice a2 n2 c2, .int .i64 r, .int .i64 hd] 25)
  have pa := Quad.new w (.slice a1 n1 c1) (.slice a2 n2 c2) (.int .i64 r) (.int .i64 hd) 25
  obtain ⟨Wa, hWa⟩ : ∃ W, W = w.alloc (.cells #[.slice a1 n1 c1, .slice a2 n2 c2, .int .i64 r, .int .i64 hd] 25) := ⟨_, rfl⟩
  have sa : Wa.heap.size = w.heap.size + 1 := by rw [hWa]; exact Go.Deep.nblk_alloc _ _
  rw [← hWa] at ea pa
  have eb := below_alloc Wa (.cells #[.slice none 0 0, .slice none 0 0, .int .i64 0, .int .i64 0] 25)
  have pb := Quad.new Wa (.slice none 0 0) (.slice none 0 0) (.int .i64 0) (.int .i64 0) 25
  obtain ⟨W, hW⟩ : ∃ W, W = Wa.alloc (.cells #[.slice none 0 0, .slice none 0 0, .int .i64 0, .int .i64 0] 25) := ⟨_, rfl⟩
  rw [← hW] at eb pb
  have HW := Lib.hid (show (w.alloc (.cells #[.slice a1 n1 c1, .slice a2 n2 c2, .int .i64 r, .int .i64 hd] 25)).alloc (.cells #[.slice none 0 0, .slice none 0 0, .int .i64 0, .int .i64 0] 25) = W by rw [hW, hWa])
  have E := Lib.hid (ea.trans (eb.mono ea.size))
  rw [sa] at pb
  have PA := Lib.hid (pa.below eb)
  have PB := Lib.hid pb
  have I1 := Lib.hid i1
  have I2 := Lib.hid i2
  have HR := Lib.hid (And.intro hr hh)
  have HLN := Lib.hid hl
  have p0 := PA.out.cell0
  have p1 := PA.out.cell1
  have p2 := PA.out.cell2
  have p3 := PA.out.cell3
  obtain ⟨t, ht⟩ : ∃ t, t = sgB s := ⟨_, rfl⟩
  rw [← ht] at SV
  have HT := Lib.hid ht.symm
  clear ht h i1 i2 ea eb pa pb hW hWa sa hr hh hl
  go_enter Try.func21, Try.ntmps21
  go_upto_region 1 with fail
  rw [HW.out]
  go_wp2_with fail
  refine (SV.out _ E.out).mono ?_
  rintro e w2 ⟨rfl, b2⟩
  cases t
  · have HZ := Lib.hid (show tuV s = nilG by unfold tuV; rw [HT.out]; rfl)
    have QZ := Lib.hid (PB.out.below b2)
    have BZ := Lib.hid (E.out.trans (b2.mono E.out.size))
    clear b2 p0 p1 p2 p3
    have qz := QZ.out
    have z0 := qz.cell0
    have z1 := qz.cell1
    have z2 := qz.cell2
    have z3 := qz.cell3
    have zf := qz.frozen
    have qs := qz.stored (.slice none 0 0) (.slice none 0 0) (.int .i64 0) (.int .i64 0)
    have y0 := qs.cell0
    have y1 := qs.cell1
    have y2 := qs.cell2
    have y3 := qs.cell3
    have BE := Lib.hid (stored4 BZ.out (b := w.heap.size + 1) (Nat.le_succ _) (.slice none 0 0) (.slice none 0 0) (.int .i64 0) (.int .i64 0))
    clear qz qs
    go_wp2_with fail
    exact bodyPost_ret (v := .tuple #[.agg #[.slice none 0 0, .slice none 0 0, .int .i64 0, .int .i64 0], .bool false]) (by simp [results, Try.results21, go_sem, y0, y1, y2, y3]) rfl ⟨_, by rw [HT.out], by rw [HZ.out]; exact nil_sg _ _, BE.out⟩
  · have HZ := Lib.hid (show tuV s = tuG s by unfold tuV; rw [HT.out]; rfl)
    obtain ⟨k, hk⟩ : ∃ k : Int, k = 0 := ⟨_, rfl⟩
    clear hk
    obtain ⟨bx, hbx⟩ : ∃ x, x = w.heap.size := ⟨_, rfl⟩
    obtain ⟨rs, hrs⟩ : ∃ x, x = w.heap.size + 1 := ⟨_, rfl⟩
    obtain ⟨base, hbase⟩ : ∃ x, x = w2.heap.size := ⟨_, rfl⟩
    have BOX := Lib.hid (show Quad w2 bx (.slice a1 n1 c1) (.slice a2 n2 c2) (.int .i64 r) (.int .i64 hd) 25 by rw [hbx]; exact PA.out.below b2)
    have RES := Lib.hid (show Quad w2 rs (.slice none 0 0) (.slice none 0 0) (.int .i64 0) (.int .i64 0) 25 by rw [hrs]; exact PB.out.below b2)
    have BEL := Lib.hid (E.out.trans (b2.mono E.out.size))
    have HBX := Lib.hid (show base ≤ w2.drew.heap.size by rw [hbase]; exact Nat.le_refl _)
    have LO := Lib.hid (show bx < rs ∧ w.heap.size ≤ bx ∧ rs < base ∧ bx = w.heap.size ∧ rs = w.heap.size + 1 by have := RES.out.lt; omega)
    have CA := Lib.hid (fun (X : World) (b : Below w.heap.size w X) => I1.out.below b)
    have CB := Lib.hid (fun (X : World) (b : Below w.heap.size w X) => I2.out.below b)
    rw [← hrs, ← hbx]
    clear b2 p0 p1 p2 p3 hbx hrs hbase
    go_upto_region 3 with fail
    refine wp_region_goodsA (G := GTuS base bx a1 n1 c1 a2 n2 c2 r hd k s) (R := fun D a X => RU w bx rs base rs (.slice a1 n1 c1) (.slice a2 n2 c2) r hd [(0, 8, 0), (3, 11, 0), (4, 12, 1), (7, 15, 1)] 11 15 2 20 12 (fun _ => True) 13 D a X) (T := fun _ => Keep) (by kernel_rfl) (by kernel_rfl) ?start (fun _ i _ v X Y _ _ _ h => GTuS.kept i v X Y h) ⟨?s0, ?s1, ?s2, ?s3, ?s4, ?s5, ?s6, ?s7, ?s8, ?s9, ?s10, ?s11, ?s12, ?s13, ?s14, trivial⟩ ?hend
    case start =>
      intro D hD
      exact ⟨BOX.out.below ((Below.refl _ _).drew), ⟨_, _, _, _, RES.out.below ((Below.refl _ _).drew)⟩, BEL.out.drew, HBX.out, ⟨(fun p hp e => by rw [hD] at e; cases e), (fun p hp q hq hne e => by rw [hD] at e; cases e)⟩, fun _ => ⟨rs, _, _, _, _, rfl, Nat.le_refl _, RES.out.below ((Below.refl _ _).drew), fun q => by rw [hD] at q; cases q⟩, fun q => by rw [hD] at q; cases q⟩
    case s0 =>
      intro ac wc D D' hsz hDk hDk' hdo hcl hlD hR hrest hdep K hK
      have HR := Lib.hid (show RU w bx rs base rs (.slice a1 n1 c1) (.slice a2 n2 c2) r hd [(0, 8, 0), (3, 11, 0), (4, 12, 1), (7, 15, 1)] 11 15 2 20 12 (fun _ => True) 13 D' (ac.put (some 8) (.slice (some ⟨wc.heap.size, 0, none⟩) 0 0)) (wc.alloc (.cells #[] 3)) from ⟨hR.box.alloc _, (by obtain ⟨x, y, z, u, q⟩ := hR.res; exact ⟨x, y, z, u, q.alloc _⟩), hR.bel.alloc hR.bel.size _, Nat.le_trans hR.hb (below_alloc _ _).size, hR.tk.fresh (0, 8, 0) (by decide) (fun p hp hne => hdo _ hne) (fun p hp hne => by simp only [List.mem_cons, List.not_mem_nil, or_false] at hp; rcases hp with rfl | rfl | rfl | rfl <;> first | exact put_other (by decide) | exact absurd rfl hne) ((below_alloc _ _).size) (fun b hb => by rw [put_same (by rw [hsz]; exact (by decide : 8 < 21))] at hb; simp only [Value.ownBlock, Option.some.injEq] at hb; subst hb; exact ⟨Nat.le_refl _, by simp⟩), fun q => by have hq0 := hR.tg trivial; obtain ⟨n, x, y, z, u, e1, e2, e3, e4⟩ := hq0; exact ⟨n, x, y, z, u, (put_other (by decide)).trans e1, e2, e3.alloc _, fun q2 => by rw [hdo 13 (by decide)] at q2; rw [put_other (by decide), put_other (by decide)]; exact e4 q2⟩, fun q => by rw [hdo 12 (by decide)] at q; rw [put_other (by decide), put_other (by decide), put_other (by decide)]; exact hR.bl q⟩)
      have HBW := Lib.hid hR.hb
      have HK := Lib.hid hK
      clear hdep hrest hR hK hsz
      go_simp
      exact HK.out _ _ ⟨_, rfl, HBW.out, Go.Deep.blk_alloc_new _ _⟩ HR.out (Keep.alloc _ _)
    case s1 =>
      intro ac wc D D' hsz hDk hDk' hdo hcl hlD hR hrest hdep K hK
      have e0 : ac.tmps.getD 1 undef = .pointer (some ⟨bx, 0, none⟩) := hrest 1 (by kernel_rfl)
      have f0 := slot_of e0
      have HR := Lib.hid (show ∀ v, RU w bx rs base rs (.slice a1 n1 c1) (.slice a2 n2 c2) r hd [(0, 8, 0), (3, 11, 0), (4, 12, 1), (7, 15, 1)] 11 15 2 20 12 (fun _ => True) 13 D' (ac.put (some 9) v) wc from fun v => ⟨hR.box, hR.res, hR.bel, hR.hb, hR.tk.plain (fun p hp => hdo _ (by simp only [List.mem_cons, List.not_mem_nil, or_false] at hp; rcases hp with rfl | rfl | rfl | rfl <;> decide)) (fun p hp => by simp only [List.mem_cons, List.not_mem_nil, or_false] at hp; rcases hp with rfl | rfl | rfl | rfl <;> exact put_other (by decide)) (Nat.le_refl _), fun q => by have hq0 := hR.tg trivial; obtain ⟨n, x, y, z, u, e1, e2, e3, e4⟩ := hq0; exact ⟨n, x, y, z, u, (put_other (by decide)).trans e1, e2, e3, fun q2 => by rw [hdo 13 (by decide)] at q2; rw [put_other (by decide), put_other (by decide)]; exact e4 q2⟩, fun q => by rw [hdo 12 (by decide)] at q; rw [put_other (by decide), put_other (by decide), put_other (by decide)]; exact hR.bl q⟩)
      have HK := Lib.hid hK
      clear hdep hrest hR hK hsz
      go_simp
      exact HK.out _ _ rfl (HR.out _) (Keep.refl _)
    case s2 =>
      intro ac wc D D' hsz hDk hDk' hdo hcl hlD hR hrest hdep K hK
      have e0 : ac.tmps.getD 9 undef = .pointer (some ⟨bx, 1, none⟩) := hdep 1 (by kernel_rfl)
      have f0 := slot_of e0
      have c0 := hR.box.cell0
      have c1' := hR.box.cell1
      have c2' := hR.box.cell2
      have c3 := hR.box.cell3
      have HR := Lib.hid (show ∀ v, RU w bx rs base rs (.slice a1 n1 c1) (.slice a2 n2 c2) r hd [(0, 8, 0), (3, 11, 0), (4, 12, 1), (7, 15, 1)] 11 15 2 20 12 (fun _ => True) 13 D' (ac.put (some 10) v) wc from fun v => ⟨hR.box, hR.res, hR.bel, hR.hb, hR.tk.plain (fun p hp => hdo _ (by simp only [List.mem_cons, List.not_mem_nil, or_false] at hp; rcases hp with rfl | rfl | rfl | rfl <;> decide)) (fun p hp => by simp only [List.mem_cons, List.not_mem_nil, or_false] at hp; rcases hp with rfl | rfl | rfl | rfl <;> exact put_other (by decide)) (Nat.le_refl _), fun q => by have hq0 := hR.tg trivial; obtain ⟨n, x, y, z, u, e1, e2, e3, e4⟩ := hq0; exact ⟨n, x, y, z, u, (put_other (by decide)).trans e1, e2, e3, fun q2 => by rw [hdo 13 (by decide)] at q2; rw [put_other (by decide), put_other (by decide)]; exact e4 q2⟩, fun q => by rw [hdo 12 (by decide)] at q; rw [put_other (by decide), put_other (by decide), put_other (by decide)]; exact hR.bl q⟩)
      have HK := Lib.hid hK
      clear hdep hrest hR hK hsz
      go_simp
      exact HK.out _ _ rfl (HR.out _) (Keep.refl _)
    case s3 =>
      intro ac wc D D' hsz hDk hDk' hdo hcl hlD hR hrest hdep K hK
      have e0 : ac.tmps.getD 10 undef = .slice a2 n2 c2 := hdep 2 (by kernel_rfl)
      have f0 := slot_of e0
      have HL := Lib.hid (show D 13 = false from by
        cases hq : D 13 with
        | false => rfl
        | true =>
          have h12 := hcl 13 _ rfl hq 12 (by kernel_rfl)
          have h3 := hcl 12 _ rfl h12 3 (by kernel_rfl)
          rw [h3] at hDk; cases hDk)
      have HB := Lib.hid (show D 12 = false from by
        cases hq : D 12 with
        | false => rfl
        | true =>
          have h3 := hcl 12 _ rfl hq 3 (by kernel_rfl)
          rw [h3] at hDk; cases hDk)
      obtain ⟨n, e9, hn, hn2⟩ : ∃ n, ac.tmps.getD 8 undef = .slice (some ⟨n, 0, none⟩) 0 0 ∧ base ≤ n ∧ wc.heap[n]? = some (.cells #[] 3 (0, 0)) := hdep 0 (by kernel_rfl)
      have f9 := slot_of e9
      obtain ⟨v', w', hr, hv, hbl, hwh⟩ := run_copyI2 (X := wc) (base := base) (N := n) (CB.out _ hR.bel) hn2 hn hR.hb 23
      have HR := Lib.hid (show RU w bx rs base rs (.slice a1 n1 c1) (.slice a2 n2 c2) r hd [(0, 8, 0), (3, 11, 0), (4, 12, 1), (7, 15, 1)] 11 15 2 20 12 (fun _ => True) 13 D' (ac.put (some 11) v') w' from ⟨hR.box.below hbl, (by obtain ⟨x, y, z, u, q⟩ := hR.res; exact ⟨x, y, z, u, q.below hbl⟩), hR.bel.trans (hbl.mono hR.bel.size), Nat.le_trans hR.hb hbl.size, (by
          rcases hwh with ⟨rfl, rfl⟩ | hfr
          · exact hR.tk.heir (3, 11, 0) (0, 8, 0) (by decide) rfl (hlD 0 (by kernel_rfl)) (by decide) (fun p hp hne => hdo _ hne) (fun p hp hne => by simp only [List.mem_cons, List.not_mem_nil, or_false] at hp; rcases hp with rfl | rfl | rfl | rfl <;> first | exact put_other (by decide) | exact absurd rfl hne) (by rw [put_same (by rw [hsz]; exact (by decide : 11 < 21)), e9])
          · exact hR.tk.fresh (3, 11, 0) (by decide) (fun p hp hne => hdo _ hne) (fun p hp hne => by simp only [List.mem_cons, List.not_mem_nil, or_false] at hp; rcases hp with rfl | rfl | rfl | rfl <;> first | exact put_other (by decide) | exact absurd rfl hne) (hbl.size) (fun b hb => by rw [put_same (by rw [hsz]; exact (by decide : 11 < 21))] at hb; exact hfr b hb)), fun q => by have hq0 := hR.tg trivial; obtain ⟨n, x, y, z, u, e1, e2, e3, e4⟩ := hq0; exact ⟨n, x, y, z, u, (put_other (by decide)).trans e1, e2, e3.below hbl, fun q2 => by rw [hdo 13 (by decide)] at q2; rw [HL.out] at q2; cases q2⟩, fun q => by rw [hdo 12 (by decide)] at q; rw [HB.out] at q; cases q⟩)
      have HK := Lib.hid (hK v' w' hv HR.out (Keep.below hbl))
      exact wp_append_run (.tmp 8) (.tmp 10) rfl (by simp [Act.eval, f9]) (by simp [Act.eval, f0]) hr HK.out
    case s4 =>
      intro ac wc D D' hsz hDk hDk' hdo hcl hlD hR hrest hdep K hK
      have HR := Lib.hid (show RU w bx rs base rs (.slice a1 n1 c1) (.slice a2 n2 c2) r hd [(0, 8, 0), (3, 11, 0), (4, 12, 1), (7, 15, 1)] 11 15 2 20 12 (fun _ => True) 13 D' (ac.put (some 12) (.slice (some ⟨wc.heap.size, 0, none⟩) 0 0)) (wc.alloc (.cells #[] 3)) from ⟨hR.box.alloc _, (by obtain ⟨x, y, z, u, q⟩ := hR.res; exact ⟨x, y, z, u, q.alloc _⟩), hR.bel.alloc hR.bel.size _, Nat.le_trans hR.hb (below_alloc _ _).size, hR.tk.fresh (4, 12, 1) (by decide) (fun p hp hne => hdo _ hne) (fun p hp hne => by simp only [List.mem_cons, List.not_mem_nil, or_false] at hp; rcases hp with rfl | rfl | rfl | rfl <;> first | exact put_other (by decide) | exact absurd rfl hne) ((below_alloc _ _).size) (fun b hb => by rw [put_same (by rw [hsz]; exact (by decide : 12 < 21))] at hb; simp only [Value.ownBlock, Option.some.injEq] at hb; subst hb; exact ⟨Nat.le_refl _, by simp⟩), fun q => by have hq0 := hR.tg trivial; obtain ⟨n, x, y, z, u, e1, e2, e3, e4⟩ := hq0; exact ⟨n, x, y, z, u, (put_other (by decide)).trans e1, e2, e3.alloc _, fun q2 => by rw [hdo 13 (by decide)] at q2; rw [put_other (by decide), put_other (by decide)]; exact e4 q2⟩, fun q => by rw [hdo 12 (by decide)] at q; rw [put_other (by decide), put_other (by decide), put_other (by decide)]; exact hR.bl q⟩)
      have HBW := Lib.hid hR.hb
      have HK := Lib.hid hK
      clear hdep hrest hR hK hsz
      go_simp
      exact HK.out _ _ ⟨_, rfl, HBW.out, Go.Deep.blk_alloc_new _ _⟩ HR.out (Keep.alloc _ _)
    case s5 =>
      intro ac wc D D' hsz hDk hDk' hdo hcl hlD hR hrest hdep K hK
      have e0 : ac.tmps.getD 1 undef = .pointer (some ⟨bx, 0, none⟩) := hrest 1 (by kernel_rfl)
      have f0 := slot_of e0
      have HR := Lib.hid (show ∀ v, RU w bx rs base rs (.slice a1 n1 c1) (.slice a2 n2 c2) r hd [(0, 8, 0), (3, 11, 0), (4, 12, 1), (7, 15, 1)] 11 15 2 20 12 (fun _ => True) 13 D' (ac.put (some 13) v) wc from fun v => ⟨hR.box, hR.res, hR.bel, hR.hb, hR.tk.plain (fun p hp => hdo _ (by simp only [List.mem_cons, List.not_mem_nil, or_false] at hp; rcases hp with rfl | rfl | rfl | rfl <;> decide)) (fun p hp => by simp only [List.mem_cons, List.not_mem_nil, or_false] at hp; rcases hp with rfl | rfl | rfl | rfl <;> exact put_other (by decide)) (Nat.le_refl _), fun q => by have hq0 := hR.tg trivial; obtain ⟨n, x, y, z, u, e1, e2, e3, e4⟩ := hq0; exact ⟨n, x, y, z, u, (put_other (by decide)).trans e1, e2, e3, fun q2 => by rw [hdo 13 (by decide)] at q2; rw [put_other (by decide), put_other (by decide)]; exact e4 q2⟩, fun q => by rw [hdo 12 (by decide)] at q; rw [put_other (by decide), put_other (by decide), put_other (by decide)]; exact hR.bl q⟩)
      have HK := Lib.hid hK
      clear hdep hrest hR hK hsz
      go_simp
      exact HK.out _ _ rfl (HR.out _) (Keep.refl _)
    case s6 =>
      intro ac wc D D' hsz hDk hDk' hdo hcl hlD hR hrest hdep K hK
      have e0 : ac.tmps.getD 13 undef = .pointer (some ⟨bx, 0, none⟩) := hdep 5 (by kernel_rfl)
      have f0 := slot_of e0
      have c0 := hR.box.cell0
      have c1' := hR.box.cell1
      have c2' := hR.box.cell2
      have c3 := hR.box.cell3
      have HR := Lib.hid (show ∀ v, RU w bx rs base rs (.slice a1 n1 c1) (.slice a2 n2 c2) r hd [(0, 8, 0), (3, 11, 0), (4, 12, 1), (7, 15, 1)] 11 15 2 20 12 (fun _ => True) 13 D' (ac.put (some 14) v) wc from fun v => ⟨hR.box, hR.res, hR.bel, hR.hb, hR.tk.plain (fun p hp => hdo _ (by simp only [List.mem_cons, List.not_mem_nil, or_false] at hp; rcases hp with rfl | rfl | rfl | rfl <;> decide)) (fun p hp => by simp only [List.mem_cons, List.not_mem_nil, or_false] at hp; rcases hp with rfl | rfl | rfl | rfl <;> exact put_other (by decide)) (Nat.le_refl _), fun q => by have hq0 := hR.tg trivial; obtain ⟨n, x, y, z, u, e1, e2, e3, e4⟩ := hq0; exact ⟨n, x, y, z, u, (put_other (by decide)).trans e1, e2, e3, fun q2 => by rw [hdo 13 (by decide)] at q2; rw [put_other (by decide), put_other (by decide)]; exact e4 q2⟩, fun q => by rw [hdo 12 (by decide)] at q; rw [put_other (by decide), put_other (by decide), put_other (by decide)]; exact hR.bl q⟩)
      have HK := Lib.hid hK
      clear hdep hrest hR hK hsz
      go_simp
      exact HK.out _ _ rfl (HR.out _) (Keep.refl _)
    case s7 =>
      intro ac wc D D' hsz hDk hDk' hdo hcl hlD hR hrest hdep K hK
      have e0 : ac.tmps.getD 14 undef = .slice a1 n1 c1 := hdep 6 (by kernel_rfl)
      have f0 := slot_of e0
      have HL := Lib.hid (show D 13 = false from by
        cases hq : D 13 with
        | false => rfl
        | true =>
          have h12 := hcl 13 _ rfl hq 12 (by kernel_rfl)
          have h7 := hcl 12 _ rfl h12 7 (by kernel_rfl)
          rw [h7] at hDk; cases hDk)
      have HB := Lib.hid (show D 12 = false from by
        cases hq : D 12 with
        | false => rfl
        | true =>
          have h7 := hcl 12 _ rfl hq 7 (by kernel_rfl)
          rw [h7] at hDk; cases hDk)
      obtain ⟨n, e9, hn, hn2⟩ : ∃ n, ac.tmps.getD 12 undef = .slice (some ⟨n, 0, none⟩) 0 0 ∧ base ≤ n ∧ wc.heap[n]? = some (.cells #[] 3 (0, 0)) := hdep 4 (by kernel_rfl)
      have f9 := slot_of e9
      obtain ⟨v', w', hr, hv, hbl, hwh⟩ := run_copyI2 (X := wc) (base := base) (N := n) (CA.out _ hR.bel) hn2 hn hR.hb 23
      have HR := Lib.hid (show RU w bx rs base rs (.slice a1 n1 c1) (.slice a2 n2 c2) r hd [(0, 8, 0), (3, 11, 0), (4, 12, 1), (7, 15, 1)] 11 15 2 20 12 (fun _ => True) 13 D' (ac.put (some 15) v') w' from ⟨hR.box.below hbl, (by obtain ⟨x, y, z, u, q⟩ := hR.res; exact ⟨x, y, z, u, q.below hbl⟩), hR.bel.trans (hbl.mono hR.bel.size), Nat.le_trans hR.hb hbl.size, (by
          rcases hwh with ⟨rfl, rfl⟩ | hfr
          · exact hR.tk.heir (7, 15, 1) (4, 12, 1) (by decide) rfl (hlD 4 (by kernel_rfl)) (by decide) (fun p hp hne => hdo _ hne) (fun p hp hne => by simp only [List.mem_cons, List.not_mem_nil, or_false] at hp; rcases hp with rfl | rfl | rfl | rfl <;> first | exact put_other (by decide) | exact absurd rfl hne) (by rw [put_same (by rw [hsz]; exact (by decide : 15 < 21)), e9])
          · exact hR.tk.fresh (7, 15, 1) (by decide) (fun p hp hne => hdo _ hne) (fun p hp hne => by simp only [List.mem_cons, List.not_mem_nil, or_false] at hp; rcases hp with rfl | rfl | rfl | rfl <;> first | exact put_other (by decide) | exact absurd rfl hne) (hbl.size) (fun b hb => by rw [put_same (by rw [hsz]; exact (by decide : 15 < 21))] at hb; exact hfr b hb)), fun q => by have hq0 := hR.tg trivial; obtain ⟨n, x, y, z, u, e1, e2, e3, e4⟩ := hq0; exact ⟨n, x, y, z, u, (put_other (by decide)).trans e1, e2, e3.below hbl, fun q2 => by rw [hdo 13 (by decide)] at q2; rw [HL.out] at q2; cases q2⟩, fun q => by rw [hdo 12 (by decide)] at q; rw [HB.out] at q; cases q⟩)
      have HK := Lib.hid (hK v' w' hv HR.out (Keep.below hbl))
      exact wp_append_run (.tmp 12) (.tmp 14) rfl (by simp [Act.eval, f9]) (by simp [Act.eval, f0]) hr HK.out
    case s8 =>
      intro ac wc D D' hsz hDk hDk' hdo hcl hlD hR hrest hdep K hK
      have e0 : ac.tmps.getD 1 undef = .pointer (some ⟨bx, 0, none⟩) := hrest 1 (by kernel_rfl)
      have f0 := slot_of e0
      have HR := Lib.hid (show ∀ v, RU w bx rs base rs (.slice a1 n1 c1) (.slice a2 n2 c2) r hd [(0, 8, 0), (3, 11, 0), (4, 12, 1), (7, 15, 1)] 11 15 2 20 12 (fun _ => True) 13 D' (ac.put (some 16) v) wc from fun v => ⟨hR.box, hR.res, hR.bel, hR.hb, hR.tk.plain (fun p hp => hdo _ (by simp only [List.mem_cons, List.not_mem_nil, or_false] at hp; rcases hp with rfl | rfl | rfl | rfl <;> decide)) (fun p hp => by simp only [List.mem_cons, List.not_mem_nil, or_false] at hp; rcases hp with rfl | rfl | rfl | rfl <;> exact put_other (by decide)) (Nat.le_refl _), fun q => by have hq0 := hR.tg trivial; obtain ⟨n, x, y, z, u, e1, e2, e3, e4⟩ := hq0; exact ⟨n, x, y, z, u, (put_other (by decide)).trans e1, e2, e3, fun q2 => by rw [hdo 13 (by decide)] at q2; rw [put_other (by decide), put_other (by decide)]; exact e4 q2⟩, fun q => by rw [hdo 12 (by decide)] at q; rw [put_other (by decide), put_other (by decide), put_other (by decide)]; exact hR.bl q⟩)
      have HK := Lib.hid hK
      clear hdep hrest hR hK hsz
      go_simp
      exact HK.out _ _ rfl (HR.out _) (Keep.refl _)
    case s9 =>
      intro ac wc D D' hsz hDk hDk' hdo hcl hlD hR hrest hdep K hK
      have e0 : ac.tmps.getD 16 undef = .pointer (some ⟨bx, 2, none⟩) := hdep 8 (by kernel_rfl)
      have f0 := slot_of e0
      have c0 := hR.box.cell0
      have c1' := hR.box.cell1
      have c2' := hR.box.cell2
      have c3 := hR.box.cell3
      have HR := Lib.hid (show ∀ v, RU w bx rs base rs (.slice a1 n1 c1) (.slice a2 n2 c2) r hd [(0, 8, 0), (3, 11, 0), (4, 12, 1), (7, 15, 1)] 11 15 2 20 12 (fun _ => True) 13 D' (ac.put (some 17) v) wc from fun v => ⟨hR.box, hR.res, hR.bel, hR.hb, hR.tk.plain (fun p hp => hdo _ (by simp only [List.mem_cons, List.not_mem_nil, or_false] at hp; rcases hp with rfl | rfl | rfl | rfl <;> decide)) (fun p hp => by simp only [List.mem_cons, List.not_mem_nil, or_false] at hp; rcases hp with rfl | rfl | rfl | rfl <;> exact put_other (by decide)) (Nat.le_refl _), fun q => by have hq0 := hR.tg trivial; obtain ⟨n, x, y, z, u, e1, e2, e3, e4⟩ := hq0; exact ⟨n, x, y, z, u, (put_other (by decide)).trans e1, e2, e3, fun q2 => by rw [hdo 13 (by decide)] at q2; rw [put_other (by decide), put_other (by decide)]; exact e4 q2⟩, fun q => by rw [hdo 12 (by decide)] at q; rw [put_other (by decide), put_other (by decide), put_other (by decide)]; exact hR.bl q⟩)
      have HK := Lib.hid hK
      clear hdep hrest hR hK hsz
      go_simp
      exact HK.out _ _ rfl (HR.out _) (Keep.refl _)
    case s10 =>
      intro ac wc D D' hsz hDk hDk' hdo hcl hlD hR hrest hdep K hK
      have e0 : ac.tmps.getD 1 undef = .pointer (some ⟨bx, 0, none⟩) := hrest 1 (by kernel_rfl)
      have f0 := slot_of e0
      have HR := Lib.hid (show ∀ v, RU w bx rs base rs (.slice a1 n1 c1) (.slice a2 n2 c2) r hd [(0, 8, 0), (3, 11, 0), (4, 12, 1), (7, 15, 1)] 11 15 2 20 12 (fun _ => True) 13 D' (ac.put (some 18) v) wc from fun v => ⟨hR.box, hR.res, hR.bel, hR.hb, hR.tk.plain (fun p hp => hdo _ (by simp only [List.mem_cons, List.not_mem_nil, or_false] at hp; rcases hp with rfl | rfl | rfl | rfl <;> decide)) (fun p hp => by simp only [List.mem_cons, List.not_mem_nil, or_false] at hp; rcases hp with rfl | rfl | rfl | rfl <;> exact put_other (by decide)) (Nat.le_refl _), fun q => by have hq0 := hR.tg trivial; obtain ⟨n, x, y, z, u, e1, e2, e3, e4⟩ := hq0; exact ⟨n, x, y, z, u, (put_other (by decide)).trans e1, e2, e3, fun q2 => by rw [hdo 13 (by decide)] at q2; rw [put_other (by decide), put_other (by decide)]; exact e4 q2⟩, fun q => by rw [hdo 12 (by decide)] at q; rw [put_other (by decide), put_other (by decide), put_other (by decide)]; exact hR.bl q⟩)
      have HK := Lib.hid hK
      clear hdep hrest hR hK hsz
      go_simp
      exact HK.out _ _ rfl (HR.out _) (Keep.refl _)
    case s11 =>
      intro ac wc D D' hsz hDk hDk' hdo hcl hlD hR hrest hdep K hK
      have e0 : ac.tmps.getD 18 undef = .pointer (some ⟨bx, 3, none⟩) := hdep 10 (by kernel_rfl)
      have f0 := slot_of e0
      have c0 := hR.box.cell0
      have c1' := hR.box.cell1
      have c2' := hR.box.cell2
      have c3 := hR.box.cell3
      have HR := Lib.hid (show ∀ v, RU w bx rs base rs (.slice a1 n1 c1) (.slice a2 n2 c2) r hd [(0, 8, 0), (3, 11, 0), (4, 12, 1), (7, 15, 1)] 11 15 2 20 12 (fun _ => True) 13 D' (ac.put (some 19) v) wc from fun v => ⟨hR.box, hR.res, hR.bel, hR.hb, hR.tk.plain (fun p hp => hdo _ (by simp only [List.mem_cons, List.not_mem_nil, or_false] at hp; rcases hp with rfl | rfl | rfl | rfl <;> decide)) (fun p hp => by simp only [List.mem_cons, List.not_mem_nil, or_false] at hp; rcases hp with rfl | rfl | rfl | rfl <;> exact put_other (by decide)) (Nat.le_refl _), fun q => by have hq0 := hR.tg trivial; obtain ⟨n, x, y, z, u, e1, e2, e3, e4⟩ := hq0; exact ⟨n, x, y, z, u, (put_other (by decide)).trans e1, e2, e3, fun q2 => by rw [hdo 13 (by decide)] at q2; rw [put_other (by decide), put_other (by decide)]; exact e4 q2⟩, fun q => by rw [hdo 12 (by decide)] at q; rw [put_other (by decide), put_other (by decide), put_other (by decide)]; exact hR.bl q⟩)
      have HK := Lib.hid hK
      clear hdep hrest hR hK hsz
      go_simp
      exact HK.out _ _ rfl (HR.out _) (Keep.refl _)
    case s12 =>
      intro ac wc D D' hsz hDk hDk' hdo hcl hlD hR hrest hdep K hK
      have e0 : ac.tmps.getD 17 undef = .int .i64 r := hdep 9 (by kernel_rfl)
      have f0 := slot_of e0
      have e1 : ac.tmps.getD 19 undef = .int .i64 hd := hdep 11 (by kernel_rfl)
      have f1 := slot_of e1
      have g1 : OwnI wc base (ac.tmps.getD 11 undef) (s.B) := hdep 3 (by kernel_rfl)
      have g2 : OwnI wc base (ac.tmps.getD 15 undef) (s.A) := hdep 7 (by kernel_rfl)
      obtain ⟨x1, y1, z1, h1⟩ := own_is_slice g1
      obtain ⟨x2, y2, z2, h2⟩ := own_is_slice g2
      have h1' := slot_of h1
      have h2' := slot_of h2
      have HR := Lib.hid (show RU w bx rs base rs (.slice a1 n1 c1) (.slice a2 n2 c2) r hd [(0, 8, 0), (3, 11, 0), (4, 12, 1), (7, 15, 1)] 11 15 2 20 12 (fun _ => True) 13 D' (ac.put (some 20) (.agg #[.slice x1 y1 z1, .slice x2 y2 z2, .int .i64 r, .int .i64 hd])) wc from ⟨hR.box, hR.res, hR.bel, hR.hb, hR.tk.plain (fun p hp => hdo _ (by simp only [List.mem_cons, List.not_mem_nil, or_false] at hp; rcases hp with rfl | rfl | rfl | rfl <;> decide)) (fun p hp => by simp only [List.mem_cons, List.not_mem_nil, or_false] at hp; rcases hp with rfl | rfl | rfl | rfl <;> exact put_other (by decide)) (Nat.le_refl _), fun q => by have hq0 := hR.tg trivial; obtain ⟨n, x, y, z, u, e1, e2, e3, e4⟩ := hq0; exact ⟨n, x, y, z, u, (put_other (by decide)).trans e1, e2, e3, fun q2 => by rw [hdo 13 (by decide)] at q2; rw [put_other (by decide), put_other (by decide)]; exact e4 q2⟩, fun _ => ⟨x1, y1, z1, x2, y2, z2, (put_other (by decide)).trans h1, (put_other (by decide)).trans h2, put_same (by rw [hsz]; exact (by decide : 20 < 21))⟩⟩)
      have HK := Lib.hid hK
      clear hdep hrest hR g1 g2 hK hsz
      go_simp
      exact HK.out _ _ trivial HR.out (Keep.refl _)
    case s13 =>
      intro ac wc D D' hsz hDk hDk' hdo hcl hlD hR hrest hdep K hK
      obtain ⟨n, x, y, z, u, e1, e2, e3, -⟩ := hR.tg trivial
      obtain ⟨x1, y1, z1, x2, y2, z2, h1, h2, h3⟩ := hR.bl (hlD 12 (by kernel_rfl))
      have f1 := slot_of e1
      have f3 := slot_of h3
      have c0 := e3.cell0
      have c1' := e3.cell1
      have c2' := e3.cell2
      have c3 := e3.cell3
      have cf := e3.frozen
      have hbn : bx ≠ n := by have := LO.out; omega
      have HR := Lib.hid (show RU w bx rs base rs (.slice a1 n1 c1) (.slice a2 n2 c2) r hd [(0, 8, 0), (3, 11, 0), (4, 12, 1), (7, 15, 1)] 11 15 2 20 12 (fun _ => True) 13 D' (ac.put none undef) ((((wc.setCell ⟨n, 0, none⟩ (.slice x1 y1 z1)).setCell ⟨n, 1, none⟩ (.slice x2 y2 z2)).setCell ⟨n, 2, none⟩ (.int .i64 r)).setCell ⟨n, 3, none⟩ (.int .i64 hd)) from ⟨
          (((hR.box.other (a := ⟨n, 0, none⟩) hbn _).other (a := ⟨n, 1, none⟩) hbn _).other (a := ⟨n, 2, none⟩) hbn _).other (a := ⟨n, 3, none⟩) hbn _,
          (by
            obtain ⟨p1, p2, p3, p4, q⟩ := hR.res
            by_cases c : rs = n
            · subst c; exact ⟨_, _, _, _, q.stored _ _ _ _⟩
            · exact ⟨_, _, _, _, (((q.other (a := ⟨n, 0, none⟩) c _).other (a := ⟨n, 1, none⟩) c _).other (a := ⟨n, 2, none⟩) c _).other (a := ⟨n, 3, none⟩) c _⟩),
          stored4 hR.bel (by have := LO.out; omega) _ _ _ _, by have := hR.hb; simpa using this, hR.tk.plain (fun p hp => hdo _ (by simp only [List.mem_cons, List.not_mem_nil, or_false] at hp; rcases hp with rfl | rfl | rfl | rfl <;> decide)) (fun p hp => by simp only [List.mem_cons, List.not_mem_nil, or_false] at hp; rcases hp with rfl | rfl | rfl | rfl <;> exact put_none) (by simp),
          fun _ => ⟨n, _, _, _, _, put_none.trans e1, e2, e3.stored _ _ _ _, fun _ => ⟨by rw [put_none, h1], by rw [put_none, h2], rfl, rfl⟩⟩, fun q => by rw [hdo 12 (by decide)] at q; rw [put_none, put_none, put_none]; exact hR.bl q⟩)
      have HK := Lib.hid hK
      have HQ := Lib.hid e3
      clear hdep hrest hR hK e3 hsz
      go_simp
      exact HK.out undef _ trivial HR.out (Keep.put4 HQ.out _ _ _ _)
    case s14 =>
      intro ac wc D D' hsz hDk hDk' hdo hcl hlD hR hrest hdep K hK
      have HR := Lib.hid (show ∀ v, RU w bx rs base rs (.slice a1 n1 c1) (.slice a2 n2 c2) r hd [(0, 8, 0), (3, 11, 0), (4, 12, 1), (7, 15, 1)] 11 15 2 20 12 (fun _ => True) 13 D' (ac.put (some 3) v) wc from fun v => ⟨hR.box, hR.res, hR.bel, hR.hb, hR.tk.plain (fun p hp => hdo _ (by simp only [List.mem_cons, List.not_mem_nil, or_false] at hp; rcases hp with rfl | rfl | rfl | rfl <;> decide)) (fun p hp => by simp only [List.mem_cons, List.not_mem_nil, or_false] at hp; rcases hp with rfl | rfl | rfl | rfl <;> exact put_other (by decide)) (Nat.le_refl _), fun q => by have hq0 := hR.tg trivial; obtain ⟨n, x, y, z, u, e1, e2, e3, e4⟩ := hq0; exact ⟨n, x, y, z, u, (put_other (by decide)).trans e1, e2, e3, fun q2 => by rw [hdo 13 (by decide)] at q2; rw [put_other (by decide), put_other (by decide)]; exact e4 q2⟩, fun q => by rw [hdo 12 (by decide)] at q; rw [put_other (by decide), put_other (by decide), put_other (by decide)]; exact hR.bl q⟩)
      have HK := Lib.hid hK
      clear hdep hrest hR hK hsz
      go_simp
      exact HK.out _ _ rfl (HR.out _) (Keep.refl _)
    case hend =>
      rintro ⟨tm, df⟩ w' D hD hsz hdf hR hrest hgood
      have hdf' : df = [] := hdf
      subst hdf'
      have e3 : tm.getD 3 undef = .bool true := hgood 14 (by decide)
      have e2 : tm.getD 2 undef = .pointer (some ⟨rs, 0, none⟩) := hrest 2 (by kernel_rfl)
      obtain ⟨n, x, y, z, u, q1, q2, q3, q4⟩ := hR.tg trivial
      have q1 : tm.getD 2 undef = .pointer (some ⟨n, 0, none⟩) := q1
      rw [e2] at q1
      simp only [Value.pointer.injEq, Option.some.injEq, Addr.mk.injEq, and_true] at q1
      subst q1
      obtain ⟨rfl, rfl, rfl, rfl⟩ := q4 (hD 13 (by decide))
      have g1 : OwnI w' base (tm.getD 11 undef) (s.B) := hgood 3 (by decide)
      have g2 : OwnI w' base (tm.getD 15 undef) (s.A) := hgood 7 (by decide)
      have ap := hR.tk.ap (3, 11, 0) (by decide) (7, 15, 1) (by decide) (by decide) (hD _ (by decide)) (hD _ (by decide))
      have ap2 := hR.tk.ap (7, 15, 1) (by decide) (3, 11, 0) (by decide) (by decide) (hD _ (by decide)) (hD _ (by decide))
      have e2' : tm[2]?.getD undef = _ := slot_of (a := ⟨tm, []⟩) e2
      have e3' : tm[3]?.getD undef = _ := slot_of (a := ⟨tm, []⟩) e3
      have r0 := q3.cell0
      have r1 := q3.cell1
      have r2 := q3.cell2
      have r3 := q3.cell3
      have FIN := Lib.hid (show OwnSg w' w.heap.size (.agg #[tm.getD 11 undef, tm.getD 15 undef, .int .i64 r, .int .i64 hd]) (tuG s) from ⟨_, _, by rw [HR.out.1, HR.out.2]; rfl, g1.mono (by have := LO.out; omega), g2.mono (by have := LO.out; omega), ap, ap2⟩)
      have BF := Lib.hid hR.bel
      clear hR hgood g1 g2 ap ap2 q3 q4 hrest
      go_wp2_with fail
      exact bodyPost_ret (v := .tuple #[.agg #[tm.getD 11 undef, tm.getD 15 undef, .int .i64 r, .int .i64 hd], .bool true]) (by simp [results, Try.results21, go_sem, r0, r1, r2, r3, e2', e3']) rfl ⟨_, by rw [HT.out], by rw [HZ.out]; exact FIN.out, BF.out⟩

set_option maxRecDepth 100000 in
set_option maxHeartbeats 4000000 in
theorem implLater {w : World} {v : Value} {s : Sg} {k : Int} (h : SgV w v s) (hk64 : -9223372036854775808 ≤ k ∧ k ≤ 9223372036854775807) :
    Calls Try.prog 27 #[v, .int .i64 k] w (MadeSgB w (laV s k) (laB s k)) := by
  have SL := Lib.hid (fun (X : World) (u : Value) (j : SgV X u (laG s k)) => implSingle j)
  have hform := h.form
  obtain ⟨a1, n1, c1, a2, n2, c2, rfl, i1, i2⟩ := hform
  have hl := h.len
  obtain ⟨r, hr⟩ : ∃ r, r = s.run := ⟨_, rfl⟩
  obtain ⟨hd, hh⟩ : ∃ r, r = s.head := ⟨_, rfl⟩
  have SV := Lib.hid (fun (X : World) (b : Below w.heap.size w X) => implSingle (h.below b))
  rw [← hr, ← hh] at SV ⊢
  have ea := below_alloc w (.cells #[.slice a1 n1 c1, .slice a2 n2 c2, .int .i64 r, .int .i64 hd] 25)
  have pa := Quad.new w (.slice a1 n1 c1) (.slice a2 n2 c2) (.int .i64 r) (.int .i64 hd) 25
  obtain ⟨Wa, hWa⟩ : ∃ W, W = w.alloc (.cells #[.slice a1 n1 c1, .slice a2 n2 c2, .int .i64 r, .int .i64 hd] 25) := ⟨_, rfl⟩
  have sa : Wa.heap.size = w.heap.size + 1 := by rw [hWa]; exact Go.Deep.nblk_alloc _ _
  rw [← hWa] at ea pa
  have eb := below_alloc Wa (.cells #[.slice none 0 0, .slice none 0 0, .int .i64 0, .int .i64 0] 25)
  have pb := Quad.new Wa (.slice none 0 0) (.slice none 0 0) (.int .i64 0) (.int .i64 0) 25
  obtain ⟨W, hW⟩ : ∃ W, W = Wa.alloc (.cells #[.slice none 0 0, .slice none 0 0, .int .i64 0, .int .i64 0] 25) := ⟨_, rfl⟩
  rw [← hW] at eb pb
  have HW := Lib.hid (show (w.alloc (.cells #[.slice a1 n1 c1, .slice a2 n2 c2, .int .i64 r, .int .i64 hd] 25)).alloc (.cells #[.slice none 0 0, .slice none 0 0, .int .i64 0, .int .i64 0] 25) = W by rw [hW, hWa])
  have E := Lib.hid (ea.trans (eb.mono ea.size))
  rw [sa] at pb
  have PA := Lib.hid (pa.below eb)
  have PB := Lib.hid pb
  have I1 := Lib.hid i1
  have I2 := Lib.hid i2
  have HR := Lib.hid (And.intro hr hh)
  have HLN := Lib.hid hl
  have p0 := PA.out.cell0
  have p1 := PA.out.cell1
  have p2 := PA.out.cell2
  have p3 := PA.out.cell3
  have LZ := Lib.hid (fun (q : laB s k = false) => show laV s k = nilG by unfold laV; rw [q]; rfl)
  have QZ0 := Lib.hid (fun (X : World) (b : Below W.heap.size W X) => And.intro (PB.out.below b) (E.out.trans (b.mono E.out.size)))
  clear h i1 i2 ea eb pa pb hW hWa sa hr hh hl
  by_cases hin : -2000 ≤ k ∧ k ≤ 2000
  · have hk1 := hin.1
    have hk2 := hin.2
    obtain ⟨t, ht⟩ : ∃ t, t = sgB s := ⟨_, rfl⟩
    rw [← ht] at SV
    have HT := Lib.hid ht.symm
    have HIN := Lib.hid hin
    clear ht hin
    have e1 : decide (k < -2000) = false := decide_eq_false (by omega)
    have e2 : decide (2000 < k) = false := decide_eq_false (by omega)
    go_enter Try.func27, Try.ntmps27
    go_upto_region 1 with fail
    rw [HW.out]
    go_wp2_with fail
    refine (SV.out _ E.out).mono ?_
    rintro e w2 ⟨rfl, b2⟩
    cases t
    · have HB := Lib.hid (show laB s k = false by unfold laB; rw [HT.out]; simp)
      have HZ := Lib.hid (LZ.out HB.out)
      have QZ := Lib.hid (QZ0.out _ b2).1
      have BZ := Lib.hid (QZ0.out _ b2).2
      clear b2 p0 p1 p2 p3
      have qz := QZ.out
      have z0 := qz.cell0
      have z1 := qz.cell1
      have z2 := qz.cell2
      have z3 := qz.cell3
      have zf := qz.frozen
      have qs := qz.stored (.slice none 0 0) (.slice none 0 0) (.int .i64 0) (.int .i64 0)
      have y0 := qs.cell0
      have y1 := qs.cell1
      have y2 := qs.cell2
      have y3 := qs.cell3
      have BE := Lib.hid (stored4 BZ.out (b := w.heap.size + 1) (Nat.le_succ _) (.slice none 0 0) (.slice none 0 0) (.int .i64 0) (.int .i64 0))
      clear qz qs
      go_wp2_with fail
      exact bodyPost_ret (v := .tuple #[.agg #[.slice none 0 0, .slice none 0 0, .int .i64 0, .int .i64 0], .bool false]) (by simp [results, Try.results27, go_sem, y0, y1, y2, y3]) rfl ⟨_, by rw [HB.out], by rw [HZ.out]; exact nil_sg _ _, BE.out⟩
    · have SGO := Lib.hid (sgB_of HT.out)
      obtain ⟨bx, hbx⟩ : ∃ x, x = w.heap.size := ⟨_, rfl⟩
      obtain ⟨rs, hrs⟩ : ∃ x, x = w.heap.size + 1 := ⟨_, rfl⟩
      obtain ⟨base, hbase⟩ : ∃ x, x = w2.heap.size := ⟨_, rfl⟩
      have BOX := Lib.hid (show Quad w2 bx (.slice a1 n1 c1) (.slice a2 n2 c2) (.int .i64 r) (.int .i64 hd) 25 by rw [hbx]; exact PA.out.below b2)
      have RES := Lib.hid (show Quad w2 rs (.slice none 0 0) (.slice none 0 0) (.int .i64 0) (.int .i64 0) 25 by rw [hrs]; exact PB.out.below b2)
      have BEL := Lib.hid (E.out.trans (b2.mono E.out.size))
      have HBX := Lib.hid (show base ≤ w2.drew.heap.size by rw [hbase]; exact Nat.le_refl _)
      have LO := Lib.hid (show bx < rs ∧ w.heap.size ≤ bx ∧ rs < base ∧ bx = w.heap.size ∧ rs = w.heap.size + 1 by have := RES.out.lt; omega)
      have CA := Lib.hid (fun (X : World) (b : Below w.heap.size w X) => implTimes (I1.out.below b) SGO.out.lenA (fun i hi => qB_val SGO.out.a hi) HIN.out.1 HIN.out.2)
      have CB := Lib.hid (fun (X : World) (b : Below w.heap.size w X) => implTimes (I2.out.below b) SGO.out.lenB (fun i hi => qB_val SGO.out.b hi) HIN.out.1 HIN.out.2)
      rw [← hrs, ← hbx]
      clear b2 p0 p1 p2 p3 hbx hrs hbase
      go_upto_region 3 with fail
      refine wp_region_goodsA (G := GLaI base bx a1 n1 c1 a2 n2 c2 r hd k s) (R := fun D a X => RU w bx rs base base (.slice a1 n1 c1) (.slice a2 n2 c2) r hd [(3, 22, 0), (7, 26, 1)] 22 26 6 31 12 (fun D => D 13 = true) 14 D a X) (T := fun _ => Keep) (by kernel_rfl) (by kernel_rfl) ?start (fun _ i _ v X Y _ _ _ h => GLaI.kept i v X Y h) ⟨?s0, ?s1, ?s2, ?s3, ?s4, ?s5, ?s6, ?s7, ?s8, ?s9, ?s10, ?s11, ?s12, ?s13, ?s14, trivial⟩ ?hend
      case start =>
        intro D hD
        exact ⟨BOX.out.below ((Below.refl _ _).drew), ⟨_, _, _, _, RES.out.below ((Below.refl _ _).drew)⟩, BEL.out.drew, HBX.out, ⟨(fun p hp e => by rw [hD] at e; cases e), (fun p hp q hq hne e => by rw [hD] at e; cases e)⟩, (fun q => by simp only [hD] at q; cases q), fun q => by rw [hD] at q; cases q⟩
      case s0 =>
        intro ac wc D D' hsz hDk hDk' hdo hcl hlD hR hrest hdep K hK
        have e0 : ac.tmps.getD 2 undef = .pointer (some ⟨bx, 0, none⟩) := hrest 2 (by kernel_rfl)
        have f0 := slot_of e0
        have HR := Lib.hid (show ∀ v, RU w bx rs base base (.slice a1 n1 c1) (.slice a2 n2 c2) r hd [(3, 22, 0), (7, 26, 1)] 22 26 6 31 12 (fun D => D 13 = true) 14 D' (ac.put (some 19) v) wc from fun v => ⟨hR.box, hR.res, hR.bel, hR.hb, hR.tk.plain (fun p hp => hdo _ (by simp only [List.mem_cons, List.not_mem_nil, or_false] at hp; rcases hp with rfl | rfl <;> decide)) (fun p hp => by simp only [List.mem_cons, List.not_mem_nil, or_false] at hp; rcases hp with rfl | rfl <;> exact put_other (by decide)) (Nat.le_refl _), fun q => by rw [hdo 13 (by decide)] at q; have hq0 := hR.tg q; obtain ⟨n, x, y, z, u, e1, e2, e3, e4⟩ := hq0; exact ⟨n, x, y, z, u, (put_other (by decide)).trans e1, e2, e3, fun q2 => by rw [hdo 14 (by decide)] at q2; rw [put_other (by decide), put_other (by decide)]; exact e4 q2⟩, fun q => by rw [hdo 12 (by decide)] at q; rw [put_other (by decide), put_other (by decide), put_other (by decide)]; exact hR.bl q⟩)
        have HK := Lib.hid hK
        clear hdep hrest hR hK hsz
        go_simp
        exact HK.out _ _ rfl (HR.out _) (Keep.refl _)
      case s1 =>
        intro ac wc D D' hsz hDk hDk' hdo hcl hlD hR hrest hdep K hK
        have e0 : ac.tmps.getD 19 undef = .pointer (some ⟨bx, 0, none⟩) := hdep 0 (by kernel_rfl)
        have f0 := slot_of e0
        have c0 := hR.box.cell0
        have c1' := hR.box.cell1
        have c2' := hR.box.cell2
        have c3 := hR.box.cell3
        have HR := Lib.hid (show ∀ v, RU w bx rs base base (.slice a1 n1 c1) (.slice a2 n2 c2) r hd [(3, 22, 0), (7, 26, 1)] 22 26 6 31 12 (fun D => D 13 = true) 14 D' (ac.put (some 20) v) wc from fun v => ⟨hR.box, hR.res, hR.bel, hR.hb, hR.tk.plain (fun p hp => hdo _ (by simp only [List.mem_cons, List.not_mem_nil, or_false] at hp; rcases hp with rfl | rfl <;> decide)) (fun p hp => by simp only [List.mem_cons, List.not_mem_nil, or_false] at hp; rcases hp with rfl | rfl <;> exact put_other (by decide)) (Nat.le_refl _), fun q => by rw [hdo 13 (by decide)] at q; have hq0 := hR.tg q; obtain ⟨n, x, y, z, u, e1, e2, e3, e4⟩ := hq0; exact ⟨n, x, y, z, u, (put_other (by decide)).trans e1, e2, e3, fun q2 => by rw [hdo 14 (by decide)] at q2; rw [put_other (by decide), put_other (by decide)]; exact e4 q2⟩, fun q => by rw [hdo 12 (by decide)] at q; rw [put_other (by decide), put_other (by decide), put_other (by decide)]; exact hR.bl q⟩)
        have HK := Lib.hid hK
        clear hdep hrest hR hK hsz
        go_simp
        exact HK.out _ _ rfl (HR.out _) (Keep.refl _)
      case s2 =>
        intro ac wc D D' hsz hDk hDk' hdo hcl hlD hR hrest hdep K hK
        have e0 : ac.tmps.getD 1 undef = .int .i64 k := hrest 1 (by kernel_rfl)
        have f0 := slot_of e0
        have HR := Lib.hid (show ∀ v, RU w bx rs base base (.slice a1 n1 c1) (.slice a2 n2 c2) r hd [(3, 22, 0), (7, 26, 1)] 22 26 6 31 12 (fun D => D 13 = true) 14 D' (ac.put (some 21) v) wc from fun v => ⟨hR.box, hR.res, hR.bel, hR.hb, hR.tk.plain (fun p hp => hdo _ (by simp only [List.mem_cons, List.not_mem_nil, or_false] at hp; rcases hp with rfl | rfl <;> decide)) (fun p hp => by simp only [List.mem_cons, List.not_mem_nil, or_false] at hp; rcases hp with rfl | rfl <;> exact put_other (by decide)) (Nat.le_refl _), fun q => by rw [hdo 13 (by decide)] at q; have hq0 := hR.tg q; obtain ⟨n, x, y, z, u, e1, e2, e3, e4⟩ := hq0; exact ⟨n, x, y, z, u, (put_other (by decide)).trans e1, e2, e3, fun q2 => by rw [hdo 14 (by decide)] at q2; rw [put_other (by decide), put_other (by decide)]; exact e4 q2⟩, fun q => by rw [hdo 12 (by decide)] at q; rw [put_other (by decide), put_other (by decide), put_other (by decide)]; exact hR.bl q⟩)
        have HK := Lib.hid hK
        clear hdep hrest hR hK hsz
        go_simp
        exact HK.out _ _ rfl (HR.out _) (Keep.refl _)
      case s3 =>
        intro ac wc D D' hsz hDk hDk' hdo hcl hlD hR hrest hdep K hK
        have e0 : ac.tmps.getD 20 undef = .slice a1 n1 c1 := hdep 1 (by kernel_rfl)
        have f0 := slot_of e0
        have e1 : ac.tmps.getD 21 undef = .int .i64 k := hdep 2 (by kernel_rfl)
        have f1 := slot_of e1
        have HL := Lib.hid (show D 14 = false from by
          cases hq : D 14 with
          | false => rfl
          | true =>
            have h12 := hcl 14 _ rfl hq 12 (by kernel_rfl)
            have h3 := hcl 12 _ rfl h12 3 (by kernel_rfl)
            rw [h3] at hDk; cases hDk)
        have HB := Lib.hid (show D 12 = false from by
          cases hq : D 12 with
          | false => rfl
          | true =>
            have h3 := hcl 12 _ rfl hq 3 (by kernel_rfl)
            rw [h3] at hDk; cases hDk)
        have HC := Lib.hid (CA.out _ hR.bel)
        have HS := Lib.hid (show ∀ v' w', OwnI w' wc.heap.size v' (s.A.map (· + k)) → Below wc.heap.size wc w' → RU w bx rs base base (.slice a1 n1 c1) (.slice a2 n2 c2) r hd [(3, 22, 0), (7, 26, 1)] 22 26 6 31 12 (fun D => D 13 = true) 14 D' (ac.put (some 22) v') w' from fun v' w' hv hbl => ⟨hR.box.below hbl, (by obtain ⟨x, y, z, u, q⟩ := hR.res; exact ⟨x, y, z, u, q.below hbl⟩), hR.bel.trans (hbl.mono hR.bel.size), Nat.le_trans hR.hb hbl.size, hR.tk.fresh (3, 22, 0) (by decide) (fun p hp hne => hdo _ hne) (fun p hp hne => by simp only [List.mem_cons, List.not_mem_nil, or_false] at hp; rcases hp with rfl | rfl <;> first | exact put_other (by decide) | exact absurd rfl hne) (hbl.size) (fun b hb => by rw [put_same (by rw [hsz]; exact (by decide : 22 < 37))] at hb; exact World.ownsRow.lt hv b hb), fun q => by rw [hdo 13 (by decide)] at q; have hq0 := hR.tg q; obtain ⟨n, x, y, z, u, e1, e2, e3, e4⟩ := hq0; exact ⟨n, x, y, z, u, (put_other (by decide)).trans e1, e2, e3.below hbl, fun q2 => by rw [hdo 14 (by decide)] at q2; rw [HL.out] at q2; cases q2⟩, fun q => by rw [hdo 12 (by decide)] at q; rw [HB.out] at q; cases q⟩)
        have hbw := Lib.hid hR.hb
        have HK := Lib.hid hK
        clear hdep hrest hR hK hsz
        go_simp
        refine HC.out.mono ?_
        rintro e w' ⟨v', rfl, hv, hbl⟩
        exact HK.out v' w' (hv.mono hbw.out) (HS.out v' w' hv hbl) (Keep.below hbl)
      case s4 =>
        intro ac wc D D' hsz hDk hDk' hdo hcl hlD hR hrest hdep K hK
        have e0 : ac.tmps.getD 2 undef = .pointer (some ⟨bx, 0, none⟩) := hrest 2 (by kernel_rfl)
        have f0 := slot_of e0
        have HR := Lib.hid (show ∀ v, RU w bx rs base base (.slice a1 n1 c1) (.slice a2 n2 c2) r hd [(3, 22, 0), (7, 26, 1)] 22 26 6 31 12 (fun D => D 13 = true) 14 D' (ac.put (some 23) v) wc from fun v => ⟨hR.box, hR.res, hR.bel, hR.hb, hR.tk.plain (fun p hp => hdo _ (by simp only [List.mem_cons, List.not_mem_nil, or_false] at hp; rcases hp with rfl | rfl <;> decide)) (fun p hp => by simp only [List.mem_cons, List.not_mem_nil, or_false] at hp; rcases hp with rfl | rfl <;> exact put_other (by decide)) (Nat.le_refl _), fun q => by rw [hdo 13 (by decide)] at q; have hq0 := hR.tg q; obtain ⟨n, x, y, z, u, e1, e2, e3, e4⟩ := hq0; exact ⟨n, x, y, z, u, (put_other (by decide)).trans e1, e2, e3, fun q2 => by rw [hdo 14 (by decide)] at q2; rw [put_other (by decide), put_other (by decide)]; exact e4 q2⟩, fun q => by rw [hdo 12 (by decide)] at q; rw [put_other (by decide), put_other (by decide), put_other (by decide)]; exact hR.bl q⟩)
        have HK := Lib.hid hK
        clear hdep hrest hR hK hsz
        go_simp
        exact HK.out _ _ rfl (HR.out _) (Keep.refl _)
      case s5 =>
        intro ac wc D D' hsz hDk hDk' hdo hcl hlD hR hrest hdep K hK
        have e0 : ac.tmps.getD 23 undef = .pointer (some ⟨bx, 1, none⟩) := hdep 4 (by kernel_rfl)
        have f0 := slot_of e0
        have c0 := hR.box.cell0
        have c1' := hR.box.cell1
        have c2' := hR.box.cell2
        have c3 := hR.box.cell3
        have HR := Lib.hid (show ∀ v, RU w bx rs base base (.slice a1 n1 c1) (.slice a2 n2 c2) r hd [(3, 22, 0), (7, 26, 1)] 22 26 6 31 12 (fun D => D 13 = true) 14 D' (ac.put (some 24) v) wc from fun v => ⟨hR.box, hR.res, hR.bel, hR.hb, hR.tk.plain (fun p hp => hdo _ (by simp only [List.mem_cons, List.not_mem_nil, or_false] at hp; rcases hp with rfl | rfl <;> decide)) (fun p hp => by simp only [List.mem_cons, List.not_mem_nil, or_false] at hp; rcases hp with rfl | rfl <;> exact put_other (by decide)) (Nat.le_refl _), fun q => by rw [hdo 13 (by decide)] at q; have hq0 := hR.tg q; obtain ⟨n, x, y, z, u, e1, e2, e3, e4⟩ := hq0; exact ⟨n, x, y, z, u, (put_other (by decide)).trans e1, e2, e3, fun q2 => by rw [hdo 14 (by decide)] at q2; rw [put_other (by decide), put_other (by decide)]; exact e4 q2⟩, fun q => by rw [hdo 12 (by decide)] at q; rw [put_other (by decide), put_other (by decide), put_other (by decide)]; exact hR.bl q⟩)
        have HK := Lib.hid hK
        clear hdep hrest hR hK hsz
        go_simp
        exact HK.out _ _ rfl (HR.out _) (Keep.refl _)
      case s6 =>
        intro ac wc D D' hsz hDk hDk' hdo hcl hlD hR hrest hdep K hK
        have e0 : ac.tmps.getD 1 undef = .int .i64 k := hrest 1 (by kernel_rfl)
        have f0 := slot_of e0
        have HR := Lib.hid (show ∀ v, RU w bx rs base base (.slice a1 n1 c1) (.slice a2 n2 c2) r hd [(3, 22, 0), (7, 26, 1)] 22 26 6 31 12 (fun D => D 13 = true) 14 D' (ac.put (some 25) v) wc from fun v => ⟨hR.box, hR.res, hR.bel, hR.hb, hR.tk.plain (fun p hp => hdo _ (by simp only [List.mem_cons, List.not_mem_nil, or_false] at hp; rcases hp with rfl | rfl <;> decide)) (fun p hp => by simp only [List.mem_cons, List.not_mem_nil, or_false] at hp; rcases hp with rfl | rfl <;> exact put_other (by decide)) (Nat.le_refl _), fun q => by rw [hdo 13 (by decide)] at q; have hq0 := hR.tg q; obtain ⟨n, x, y, z, u, e1, e2, e3, e4⟩ := hq0; exact ⟨n, x, y, z, u, (put_other (by decide)).trans e1, e2, e3, fun q2 => by rw [hdo 14 (by decide)] at q2; rw [put_other (by decide), put_other (by decide)]; exact e4 q2⟩, fun q => by rw [hdo 12 (by decide)] at q; rw [put_other (by decide), put_other (by decide), put_other (by decide)]; exact hR.bl q⟩)
        have HK := Lib.hid hK
        clear hdep hrest hR hK hsz
        go_simp
        exact HK.out _ _ rfl (HR.out _) (Keep.refl _)
      case s7 =>
        intro ac wc D D' hsz hDk hDk' hdo hcl hlD hR hrest hdep K hK
        have e0 : ac.tmps.getD 24 undef = .slice a2 n2 c2 := hdep 5 (by kernel_rfl)
        have f0 := slot_of e0
        have e1 : ac.tmps.getD 25 undef = .int .i64 k := hdep 6 (by kernel_rfl)
        have f1 := slot_of e1
        have HL := Lib.hid (show D 14 = false from by
          cases hq : D 14 with
          | false => rfl
          | true =>
            have h12 := hcl 14 _ rfl hq 12 (by kernel_rfl)
            have h7 := hcl 12 _ rfl h12 7 (by kernel_rfl)
            rw [h7] at hDk; cases hDk)
        have HB := Lib.hid (show D 12 = false from by
          cases hq : D 12 with
          | false => rfl
          | true =>
            have h7 := hcl 12 _ rfl hq 7 (by kernel_rfl)
            rw [h7] at hDk; cases hDk)
        have HC := Lib.hid (CB.out _ hR.bel)
        have HS := Lib.hid (show ∀ v' w', OwnI w' wc.heap.size v' (s.B.map (· + k)) → Below wc.heap.size wc w' → RU w bx rs base base (.slice a1 n1 c1) (.slice a2 n2 c2) r hd [(3, 22, 0), (7, 26, 1)] 22 26 6 31 12 (fun D => D 13 = true) 14 D' (ac.put (some 26) v') w' from fun v' w' hv hbl => ⟨hR.box.below hbl, (by obtain ⟨x, y, z, u, q⟩ := hR.res; exact ⟨x, y, z, u, q.below hbl⟩), hR.bel.trans (hbl.mono hR.bel.size), Nat.le_trans hR.hb hbl.size, hR.tk.fresh (7, 26, 1) (by decide) (fun p hp hne => hdo _ hne) (fun p hp hne => by simp only [List.mem_cons, List.not_mem_nil, or_false] at hp; rcases hp with rfl | rfl <;> first | exact put_other (by decide) | exact absurd rfl hne) (hbl.size) (fun b hb => by rw [put_same (by rw [hsz]; exact (by decide : 26 < 37))] at hb; exact World.ownsRow.lt hv b hb), fun q => by rw [hdo 13 (by decide)] at q; have hq0 := hR.tg q; obtain ⟨n, x, y, z, u, e1, e2, e3, e4⟩ := hq0; exact ⟨n, x, y, z, u, (put_other (by decide)).trans e1, e2, e3.below hbl, fun q2 => by rw [hdo 14 (by decide)] at q2; rw [HL.out] at q2; cases q2⟩, fun q => by rw [hdo 12 (by decide)] at q; rw [HB.out] at q; cases q⟩)
        have hbw := Lib.hid hR.hb
        have HK := Lib.hid hK
        clear hdep hrest hR hK hsz
        go_simp
        refine HC.out.mono ?_
        rintro e w' ⟨v', rfl, hv, hbl⟩
        exact HK.out v' w' (hv.mono hbw.out) (HS.out v' w' hv hbl) (Keep.below hbl)
      case s8 =>
        intro ac wc D D' hsz hDk hDk' hdo hcl hlD hR hrest hdep K hK
        have e0 : ac.tmps.getD 2 undef = .pointer (some ⟨bx, 0, none⟩) := hrest 2 (by kernel_rfl)
        have f0 := slot_of e0
        have HR := Lib.hid (show ∀ v, RU w bx rs base base (.slice a1 n1 c1) (.slice a2 n2 c2) r hd [(3, 22, 0), (7, 26, 1)] 22 26 6 31 12 (fun D => D 13 = true) 14 D' (ac.put (some 27) v) wc from fun v => ⟨hR.box, hR.res, hR.bel, hR.hb, hR.tk.plain (fun p hp => hdo _ (by simp only [List.mem_cons, List.not_mem_nil, or_false] at hp; rcases hp with rfl | rfl <;> decide)) (fun p hp => by simp only [List.mem_cons, List.not_mem_nil, or_false] at hp; rcases hp with rfl | rfl <;> exact put_other (by decide)) (Nat.le_refl _), fun q => by rw [hdo 13 (by decide)] at q; have hq0 := hR.tg q; obtain ⟨n, x, y, z, u, e1, e2, e3, e4⟩ := hq0; exact ⟨n, x, y, z, u, (put_other (by decide)).trans e1, e2, e3, fun q2 => by rw [hdo 14 (by decide)] at q2; rw [put_other (by decide), put_other (by decide)]; exact e4 q2⟩, fun q => by rw [hdo 12 (by decide)] at q; rw [put_other (by decide), put_other (by decide), put_other (by decide)]; exact hR.bl q⟩)
        have HK := Lib.hid hK
        clear hdep hrest hR hK hsz
        go_simp
        exact HK.out _ _ rfl (HR.out _) (Keep.refl _)
      case s9 =>
        intro ac wc D D' hsz hDk hDk' hdo hcl hlD hR hrest hdep K hK
        have e0 : ac.tmps.getD 27 undef = .pointer (some ⟨bx, 2, none⟩) := hdep 8 (by kernel_rfl)
        have f0 := slot_of e0
        have c0 := hR.box.cell0
        have c1' := hR.box.cell1
        have c2' := hR.box.cell2
        have c3 := hR.box.cell3
        have HR := Lib.hid (show ∀ v, RU w bx rs base base (.slice a1 n1 c1) (.slice a2 n2 c2) r hd [(3, 22, 0), (7, 26, 1)] 22 26 6 31 12 (fun D => D 13 = true) 14 D' (ac.put (some 28) v) wc from fun v => ⟨hR.box, hR.res, hR.bel, hR.hb, hR.tk.plain (fun p hp => hdo _ (by simp only [List.mem_cons, List.not_mem_nil, or_false] at hp; rcases hp with rfl | rfl <;> decide)) (fun p hp => by simp only [List.mem_cons, List.not_mem_nil, or_false] at hp; rcases hp with rfl | rfl <;> exact put_other (by decide)) (Nat.le_refl _), fun q => by rw [hdo 13 (by decide)] at q; have hq0 := hR.tg q; obtain ⟨n, x, y, z, u, e1, e2, e3, e4⟩ := hq0; exact ⟨n, x, y, z, u, (put_other (by decide)).trans e1, e2, e3, fun q2 => by rw [hdo 14 (by decide)] at q2; rw [put_other (by decide), put_other (by decide)]; exact e4 q2⟩, fun q => by rw [hdo 12 (by decide)] at q; rw [put_other (by decide), put_other (by decide), put_other (by decide)]; exact hR.bl q⟩)
        have HK := Lib.hid hK
        clear hdep hrest hR hK hsz
        go_simp
        exact HK.out _ _ rfl (HR.out _) (Keep.refl _)
      case s10 =>
        intro ac wc D D' hsz hDk hDk' hdo hcl hlD hR hrest hdep K hK
        have e0 : ac.tmps.getD 2 undef = .pointer (some ⟨bx, 0, none⟩) := hrest 2 (by kernel_rfl)
        have f0 := slot_of e0
        have HR := Lib.hid (show ∀ v, RU w bx rs base base (.slice a1 n1 c1) (.slice a2 n2 c2) r hd [(3, 22, 0), (7, 26, 1)] 22 26 6 31 12 (fun D => D 13 = true) 14 D' (ac.put (some 29) v) wc from fun v => ⟨hR.box, hR.res, hR.bel, hR.hb, hR.tk.plain (fun p hp => hdo _ (by simp only [List.mem_cons, List.not_mem_nil, or_false] at hp; rcases hp with rfl | rfl <;> decide)) (fun p hp => by simp only [List.mem_cons, List.not_mem_nil, or_false] at hp; rcases hp with rfl | rfl <;> exact put_other (by decide)) (Nat.le_refl _), fun q => by rw [hdo 13 (by decide)] at q; have hq0 := hR.tg q; obtain ⟨n, x, y, z, u, e1, e2, e3, e4⟩ := hq0; exact ⟨n, x, y, z, u, (put_other (by decide)).trans e1, e2, e3, fun q2 => by rw [hdo 14 (by decide)] at q2; rw [put_other (by decide), put_other (by decide)]; exact e4 q2⟩, fun q => by rw [hdo 12 (by decide)] at q; rw [put_other (by decide), put_other (by decide), put_other (by decide)]; exact hR.bl q⟩)
        have HK := Lib.hid hK
        clear hdep hrest hR hK hsz
        go_simp
        exact HK.out _ _ rfl (HR.out _) (Keep.refl _)
      case s11 =>
        intro ac wc D D' hsz hDk hDk' hdo hcl hlD hR hrest hdep K hK
        have e0 : ac.tmps.getD 29 undef = .pointer (some ⟨bx, 3, none⟩) := hdep 10 (by kernel_rfl)
        have f0 := slot_of e0
        have c0 := hR.box.cell0
        have c1' := hR.box.cell1
        have c2' := hR.box.cell2
        have c3 := hR.box.cell3
        have HR := Lib.hid (show ∀ v, RU w bx rs base base (.slice a1 n1 c1) (.slice a2 n2 c2) r hd [(3, 22, 0), (7, 26, 1)] 22 26 6 31 12 (fun D => D 13 = true) 14 D' (ac.put (some 30) v) wc from fun v => ⟨hR.box, hR.res, hR.bel, hR.hb, hR.tk.plain (fun p hp => hdo _ (by simp only [List.mem_cons, List.not_mem_nil, or_false] at hp; rcases hp with rfl | rfl <;> decide)) (fun p hp => by simp only [List.mem_cons, List.not_mem_nil, or_false] at hp; rcases hp with rfl | rfl <;> exact put_other (by decide)) (Nat.le_refl _), fun q => by rw [hdo 13 (by decide)] at q; have hq0 := hR.tg q; obtain ⟨n, x, y, z, u, e1, e2, e3, e4⟩ := hq0; exact ⟨n, x, y, z, u, (put_other (by decide)).trans e1, e2, e3, fun q2 => by rw [hdo 14 (by decide)] at q2; rw [put_other (by decide), put_other (by decide)]; exact e4 q2⟩, fun q => by rw [hdo 12 (by decide)] at q; rw [put_other (by decide), put_other (by decide), put_other (by decide)]; exact hR.bl q⟩)
        have HK := Lib.hid hK
        clear hdep hrest hR hK hsz
        go_simp
        exact HK.out _ _ rfl (HR.out _) (Keep.refl _)
      case s12 =>
        intro ac wc D D' hsz hDk hDk' hdo hcl hlD hR hrest hdep K hK
        have e0 : ac.tmps.getD 28 undef = .int .i64 r := hdep 9 (by kernel_rfl)
        have f0 := slot_of e0
        have e1 : ac.tmps.getD 30 undef = .int .i64 hd := hdep 11 (by kernel_rfl)
        have f1 := slot_of e1
        have g1 : OwnI wc base (ac.tmps.getD 22 undef) (s.A.map (· + k)) := hdep 3 (by kernel_rfl)
        have g2 : OwnI wc base (ac.tmps.getD 26 undef) (s.B.map (· + k)) := hdep 7 (by kernel_rfl)
        obtain ⟨x1, y1, z1, h1⟩ := own_is_slice g1
        obtain ⟨x2, y2, z2, h2⟩ := own_is_slice g2
        have h1' := slot_of h1
        have h2' := slot_of h2
        have HR := Lib.hid (show RU w bx rs base base (.slice a1 n1 c1) (.slice a2 n2 c2) r hd [(3, 22, 0), (7, 26, 1)] 22 26 6 31 12 (fun D => D 13 = true) 14 D' (ac.put (some 31) (.agg #[.slice x1 y1 z1, .slice x2 y2 z2, .int .i64 r, .int .i64 hd])) wc from ⟨hR.box, hR.res, hR.bel, hR.hb, hR.tk.plain (fun p hp => hdo _ (by simp only [List.mem_cons, List.not_mem_nil, or_false] at hp; rcases hp with rfl | rfl <;> decide)) (fun p hp => by simp only [List.mem_cons, List.not_mem_nil, or_false] at hp; rcases hp with rfl | rfl <;> exact put_other (by decide)) (Nat.le_refl _), fun q => by rw [hdo 13 (by decide)] at q; have hq0 := hR.tg q; obtain ⟨n, x, y, z, u, e1, e2, e3, e4⟩ := hq0; exact ⟨n, x, y, z, u, (put_other (by decide)).trans e1, e2, e3, fun q2 => by rw [hdo 14 (by decide)] at q2; rw [put_other (by decide), put_other (by decide)]; exact e4 q2⟩, fun _ => ⟨x1, y1, z1, x2, y2, z2, (put_other (by decide)).trans h1, (put_other (by decide)).trans h2, put_same (by rw [hsz]; exact (by decide : 31 < 37))⟩⟩)
        have HK := Lib.hid hK
        clear hdep hrest hR g1 g2 hK hsz
        go_simp
        exact HK.out _ _ trivial HR.out (Keep.refl _)
      case s13 =>
        intro ac wc D D' hsz hDk hDk' hdo hcl hlD hR hrest hdep K hK
        have HL := Lib.hid (show D 14 = false from by
          cases hq : D 14 with
          | false => rfl
          | true =>
            have h13 := hcl 14 _ rfl hq 13 (by kernel_rfl)
            rw [h13] at hDk; cases hDk)
        have HR := Lib.hid (show RU w bx rs base base (.slice a1 n1 c1) (.slice a2 n2 c2) r hd [(3, 22, 0), (7, 26, 1)] 22 26 6 31 12 (fun D => D 13 = true) 14 D' (ac.put (some 6) (.pointer (some ⟨wc.heap.size, 0, none⟩))) (wc.alloc (.cells #[.slice none 0 0, .slice none 0 0, .int .i64 0, .int .i64 0] 25)) from ⟨hR.box.alloc _, (by obtain ⟨x, y, z, u, q⟩ := hR.res; exact ⟨x, y, z, u, q.alloc _⟩), hR.bel.alloc hR.bel.size _, Nat.le_trans hR.hb (below_alloc _ _).size, hR.tk.plain (fun p hp => hdo _ (by simp only [List.mem_cons, List.not_mem_nil, or_false] at hp; rcases hp with rfl | rfl <;> decide)) (fun p hp => by simp only [List.mem_cons, List.not_mem_nil, or_false] at hp; rcases hp with rfl | rfl <;> exact put_other (by decide)) ((below_alloc _ _).size), fun _ => ⟨wc.heap.size, _, _, _, _, put_same (by rw [hsz]; exact (by decide : 6 < 37)), hR.hb, Quad.new _ _ _ _ _ _, fun q2 => by rw [hdo 14 (by decide), HL.out] at q2; cases q2⟩, fun q => by rw [hdo 12 (by decide)] at q; rw [put_other (by decide), put_other (by decide), put_other (by decide)]; exact hR.bl q⟩)
        have HK := Lib.hid hK
        clear hdep hrest hR hK hsz
        go_simp
        exact HK.out _ _ trivial HR.out (Keep.alloc _ _)
      case s14 =>
        intro ac wc D D' hsz hDk hDk' hdo hcl hlD hR hrest hdep K hK
        obtain ⟨n, x, y, z, u, e1, e2, e3, -⟩ := hR.tg (hlD 13 (by kernel_rfl))
        obtain ⟨x1, y1, z1, x2, y2, z2, h1, h2, h3⟩ := hR.bl (hlD 12 (by kernel_rfl))
        have f1 := slot_of e1
        have f3 := slot_of h3
        have c0 := e3.cell0
        have c1' := e3.cell1
        have c2' := e3.cell2
        have c3 := e3.cell3
        have cf := e3.frozen
        have hbn : bx ≠ n := by have := LO.out; omega
        have HR := Lib.hid (show RU w bx rs base base (.slice a1 n1 c1) (.slice a2 n2 c2) r hd [(3, 22, 0), (7, 26, 1)] 22 26 6 31 12 (fun D => D 13 = true) 14 D' (ac.put none undef) ((((wc.setCell ⟨n, 0, none⟩ (.slice x1 y1 z1)).setCell ⟨n, 1, none⟩ (.slice x2 y2 z2)).setCell ⟨n, 2, none⟩ (.int .i64 r)).setCell ⟨n, 3, none⟩ (.int .i64 hd)) from ⟨
            (((hR.box.other (a := ⟨n, 0, none⟩) hbn _).other (a := ⟨n, 1, none⟩) hbn _).other (a := ⟨n, 2, none⟩) hbn _).other (a := ⟨n, 3, none⟩) hbn _,
            (by
              obtain ⟨p1, p2, p3, p4, q⟩ := hR.res
              by_cases c : rs = n
              · subst c; exact ⟨_, _, _, _, q.stored _ _ _ _⟩
              · exact ⟨_, _, _, _, (((q.other (a := ⟨n, 0, none⟩) c _).other (a := ⟨n, 1, none⟩) c _).other (a := ⟨n, 2, none⟩) c _).other (a := ⟨n, 3, none⟩) c _⟩),
            stored4 hR.bel (by have := LO.out; omega) _ _ _ _, by have := hR.hb; simpa using this, hR.tk.plain (fun p hp => hdo _ (by simp only [List.mem_cons, List.not_mem_nil, or_false] at hp; rcases hp with rfl | rfl <;> decide)) (fun p hp => by simp only [List.mem_cons, List.not_mem_nil, or_false] at hp; rcases hp with rfl | rfl <;> exact put_none) (by simp),
            fun _ => ⟨n, _, _, _, _, put_none.trans e1, e2, e3.stored _ _ _ _, fun _ => ⟨by rw [put_none, h1], by rw [put_none, h2], rfl, rfl⟩⟩, fun q => by rw [hdo 12 (by decide)] at q; rw [put_none, put_none, put_none]; exact hR.bl q⟩)
        have HK := Lib.hid hK
        have HQ := Lib.hid e3
        clear hdep hrest hR hK e3 hsz
        go_simp
        exact HK.out undef _ trivial HR.out (Keep.put4 HQ.out _ _ _ _)
      case hend =>
        rintro ⟨tm, df⟩ w' D hD hsz hdf hR hrest hgood
        have hdf' : df = [] := hdf
        subst hdf'
        have e4 : tm.getD 4 undef = .pointer (some ⟨rs, 0, none⟩) := hrest 4 (by kernel_rfl)
        obtain ⟨n, x, y, z, u, q1, q2, q3, q4⟩ := hR.tg (hD 13 (by decide))
        have q1 : tm.getD 6 undef = .pointer (some ⟨n, 0, none⟩) := q1
        obtain ⟨rfl, rfl, rfl, rfl⟩ := q4 (hD 14 (by decide))
        have g1 : OwnI w' base (tm.getD 22 undef) (s.A.map (· + k)) := hgood 3 (by decide)
        have g2 : OwnI w' base (tm.getD 26 undef) (s.B.map (· + k)) := hgood 7 (by decide)
        have ap := hR.tk.ap (3, 22, 0) (by decide) (7, 26, 1) (by decide) (by decide) (hD _ (by decide)) (hD _ (by decide))
        have ap2 := hR.tk.ap (7, 26, 1) (by decide) (3, 22, 0) (by decide) (by decide) (hD _ (by decide)) (hD _ (by decide))
        have q3 : Quad w' n (tm.getD 22 undef) (tm.getD 26 undef) (.int .i64 r) (.int .i64 hd) 25 := q3
        have hbel := hR.bel
        have hres := hR.res
        clear hR hgood hrest q4 hD
        have htm := frame_of tm 37 hsz
        simp only [show List.range 37 = [0, 1, 2, 3, 4, 5, 6, 7, 8, 9, 10, 11, 12, 13, 14, 15, 16, 17, 18, 19, 20, 21, 22, 23, 24, 25, 26, 27, 28, 29, 30, 31, 32, 33, 34, 35, 36] from rfl, List.map] at htm
        generalize tm.getD 0 undef = x0 at *
        generalize tm.getD 1 undef = x1 at *
        generalize tm.getD 2 undef = x2 at *
        generalize tm.getD 3 undef = x3 at *
        generalize tm.getD 4 undef = x4 at *
        generalize tm.getD 5 undef = x5 at *
        generalize tm.getD 6 undef = x6 at *
        generalize tm.getD 7 undef = x7 at *
        generalize tm.getD 8 undef = x8 at *
        generalize tm.getD 9 undef = x9 at *
        generalize tm.getD 10 undef = x10 at *
        generalize tm.getD 11 undef = x11 at *
        generalize tm.getD 12 undef = x12 at *
        generalize tm.getD 13 undef = x13 at *
        generalize tm.getD 14 undef = x14 at *
        generalize tm.getD 15 undef = x15 at *
        generalize tm.getD 16 undef = x16 at *
        generalize tm.getD 17 undef = x17 at *
        generalize tm.getD 18 undef = x18 at *
        generalize tm.getD 19 undef = x19 at *
        generalize tm.getD 20 undef = x20 at *
        generalize tm.getD 21 undef = x21 at *
        generalize tm.getD 22 undef = x22 at *
        generalize tm.getD 23 undef = x23 at *
        generalize tm.getD 24 undef = x24 at *
        generalize tm.getD 25 undef = x25 at *
        generalize tm.getD 26 undef = x26 at *
        generalize tm.getD 27 undef = x27 at *
        generalize tm.getD 28 undef = x28 at *
        generalize tm.getD 29 undef = x29 at *
        generalize tm.getD 30 undef = x30 at *
        generalize tm.getD 31 undef = x31 at *
        generalize tm.getD 32 undef = x32 at *
        generalize tm.getD 33 undef = x33 at *
        generalize tm.getD 34 undef = x34 at *
        generalize tm.getD 35 undef = x35 at *
        generalize tm.getD 36 undef = x36 at *
        subst htm
        subst e4
        subst q1
        have FIN := Lib.hid (fun (X : World) (b : Below w'.heap.size w' X) => show OwnSg X base (.agg #[x22, x26, .int .i64 r, .int .i64 hd]) (laG s k) from ⟨_, _, by rw [HR.out.1, HR.out.2]; rfl, g1.below b, g2.below b, ap, ap2⟩)
        obtain ⟨a5, n5, c5, rfl⟩ := own_is_slice g1
        obtain ⟨a6, n6, c6, rfl⟩ := own_is_slice g2
        have SLV := Lib.hid (SL.out w' _ ((FIN.out w' (below_self _)).sgV (by have := SGO.out.lenA; simp [laG]; omega) (by have := SGO.out.lenB; simp [laG]; omega)))
        have HRG : (laG s k).run = r ∧ (laG s k).head = hd := ⟨HR.out.1.symm, HR.out.2.symm⟩
        obtain ⟨t2, ht2⟩ : ∃ t, t = sgB (laG s k) := ⟨_, rfl⟩
        rw [← ht2] at SLV
        have HT2 := Lib.hid ht2.symm
        have Q3 := Lib.hid q3
        have BF := Lib.hid hbel
        have RS2 := Lib.hid hres
        have d0 := q3.cell0
        have d1 := q3.cell1
        have d2 := q3.cell2
        have d3 := q3.cell3
        have NB := Lib.hid q2
        clear g1 g2 ap ap2 q3 hbel hres ht2 HRG q2
        go_wp2_with fail
        refine SLV.out.mono ?_
        rintro e w3 ⟨rfl, b3⟩
        obtain ⟨p1, p2, p3, p4, qr⟩ := RS2.out
        have qr := qr.below b3
        have Q4 := Lib.hid (Q3.out.below b3)
        have BG := Lib.hid (BF.out.trans (b3.mono BF.out.size))
        have FG := Lib.hid (FIN.out _ b3)
        have z0 := qr.cell0
        have z1 := qr.cell1
        have z2 := qr.cell2
        have z3 := qr.cell3
        have zf := qr.frozen
        clear d0 d1 d2 d3 b3
        cases t2
        · have qs := qr.stored (.slice none 0 0) (.slice none 0 0) (.int .i64 0) (.int .i64 0)
          have y0 := qs.cell0
          have y1 := qs.cell1
          have y2 := qs.cell2
          have y3 := qs.cell3
          have HB := Lib.hid (show laB s k = false by unfold laB; rw [HT2.out]; simp)
          have HZ := Lib.hid (LZ.out HB.out)
          have BE := Lib.hid (stored4 BG.out (b := rs) (by have := LO.out; omega) (.slice none 0 0) (.slice none 0 0) (.int .i64 0) (.int .i64 0))
          clear qr qs
          go_wp2_with fail
          exact bodyPost_ret (v := .tuple #[.agg #[.slice none 0 0, .slice none 0 0, .int .i64 0, .int .i64 0], .bool false]) (by simp [results, Try.results27, go_sem, y0, y1, y2, y3]) rfl ⟨_, by rw [HB.out], by rw [HZ.out]; exact nil_sg _ _, BE.out⟩
        · have c0 := Q4.out.cell0
          have c1' := Q4.out.cell1
          have c2' := Q4.out.cell2
          have c3 := Q4.out.cell3
          have qs := qr.stored (.slice a5 n5 c5) (.slice a6 n6 c6) (.int .i64 r) (.int .i64 hd)
          have y0 := qs.cell0
          have y1 := qs.cell1
          have y2 := qs.cell2
          have y3 := qs.cell3
          have HB := Lib.hid (show laB s k = true by unfold laB; rw [HT.out, HT2.out, decide_eq_true HIN.out]; rfl)
          have HZ := Lib.hid (show laV s k = laG s k by unfold laV; rw [HB.out]; rfl)
          have BE := Lib.hid (stored4 BG.out (b := rs) (by have := LO.out; omega) (.slice a5 n5 c5) (.slice a6 n6 c6) (.int .i64 r) (.int .i64 hd))
          have FE := Lib.hid (show OwnSg ((((w3.setCell ⟨rs, 0, none⟩ (.slice a5 n5 c5)).setCell ⟨rs, 1, none⟩ (.slice a6 n6 c6)).setCell ⟨rs, 2, none⟩ (.int .i64 r)).setCell ⟨rs, 3, none⟩ (.int .i64 hd)) w.heap.size (.agg #[.slice a5 n5 c5, .slice a6 n6 c6, .int .i64 r, .int .i64 hd]) (laG s k) from by
            obtain ⟨u1, u2, e, o1, o2, ap⟩ := FG.out
            have K := Keep.put4 qr (.slice a5 n5 c5) (.slice a6 n6 c6) (.int .i64 r) (.int .i64 hd)
            exact ⟨u1, u2, e, (K.1 _ _ _ o1).mono (by have := LO.out; omega), (K.1 _ _ _ o2).mono (by have := LO.out; omega), ap⟩)
          clear qr qs
          go_wp2_with fail
          exact bodyPost_ret (v := .tuple #[.agg #[.slice a5 n5 c5, .slice a6 n6 c6, .int .i64 r, .int .i64 hd], .bool true]) (by simp [results, Try.results27, go_sem, y0, y1, y2, y3]) rfl ⟨_, by rw [HB.out], by rw [HZ.out]; exact FE.out, BE.out⟩
  · have HB := Lib.hid (show laB s k = false by unfold laB; rw [decide_eq_false hin]; rfl)
    have HZ := Lib.hid (LZ.out HB.out)
    rcases Int.lt_or_le k (-2000) with hlo | hlo
    · have e1 : decide (k < -2000) = true := decide_eq_true hlo
      clear hlo
      have QZ := Lib.hid (QZ0.out _ (below_self _)).1
      have BZ := Lib.hid (QZ0.out _ (below_self _)).2
      go_enter Try.func27, Try.ntmps27
      go_upto_region 1 with fail
      rw [HW.out]
      clear hin hk64
      have qz := QZ.out
      have z0 := qz.cell0
      have z1 := qz.cell1
      have z2 := qz.cell2
      have z3 := qz.cell3
      have zf := qz.frozen
      have qs := qz.stored (.slice none 0 0) (.slice none 0 0) (.int .i64 0) (.int .i64 0)
      have y0 := qs.cell0
      have y1 := qs.cell1
      have y2 := qs.cell2
      have y3 := qs.cell3
      have BE := Lib.hid (stored4 BZ.out (b := w.heap.size + 1) (Nat.le_succ _) (.slice none 0 0) (.slice none 0 0) (.int .i64 0) (.int .i64 0))
      clear qz qs p0 p1 p2 p3
      go_wp2_with fail
      exact bodyPost_ret (v := .tuple #[.agg #[.slice none 0 0, .slice none 0 0, .int .i64 0, .int .i64 0], .bool false]) (by simp [results, Try.results27, go_sem, y0, y1, y2, y3]) rfl ⟨_, by rw [HB.out], by rw [HZ.out]; exact nil_sg _ _, BE.out⟩
    · have e1 : decide (k < -2000) = false := decide_eq_false (by omega)
      have e2 : decide (2000 < k) = true := decide_eq_true (by omega)
      clear hlo
      have QZ := Lib.hid (QZ0.out _ (below_self _)).1
      have BZ := Lib.hid (QZ0.out _ (below_self _)).2
      go_enter Try.func27, Try.ntmps27
      go_upto_region 1 with fail
      rw [HW.out]
      clear hin hk64
      have qz := QZ.out
      have z0 := qz.cell0
      have z1 := qz.cell1
      have z2 := qz.cell2
      have z3 := qz.cell3
      have zf := qz.frozen
      have qs := qz.stored (.slice none 0 0) (.slice none 0 0) (.int .i64 0) (.int .i64 0)
      have y0 := qs.cell0
      have y1 := qs.cell1
      have y2 := qs.cell2
      have y3 := qs.cell3
      have BE := Lib.hid (stored4 BZ.out (b := w.heap.size + 1) (Nat.le_succ _) (.slice none 0 0) (.slice none 0 0) (.int .i64 0) (.int .i64 0))
      clear qz qs p0 p1 p2 p3
      go_wp2_with fail
      exact bodyPost_ret (v := .tuple #[.agg #[.slice none 0 0, .slice none 0 0, .int .i64 0, .int .i64 0], .bool false]) (by simp [results, Try.results27, go_sem, y0, y1, y2, y3]) rfl ⟨_, by rw [HB.out], by rw [HZ.out]; exact nil_sg _ _, BE.out⟩

set_option maxRecDepth 100000 in
set_option maxHeartbeats 4000000 in
theorem specLater {w : World} {v : Value} {s : Sg} {k : Int} (h : SgV w v s) (hk64 : -9223372036854775808 ≤ k ∧ k ≤ 9223372036854775807) :
    Calls Try.prog 28 #[v, .int .i64 k] w (MadeSgB w (laV s k) (laB s k)) := by
  have SL := Lib.hid (fun (X : World) (u : Value) (j : SgV X u (laG s k)) => specSingle j)
  have hform := h.form
  obtain ⟨a1, n1, c1, a2, n2, c2, rfl, i1, i2⟩ := hform
  have hl := h.len
  obtain ⟨r, hr⟩ : ∃ r, r = s.run := ⟨_, rfl⟩
  obtain ⟨hd, hh⟩ : ∃ r, r = s.head := ⟨_, rfl⟩
  have SV := Lib.hid (fun (X : World) (b : Below w.heap.size w X) => specSingle (h.below b))
  rw [← hr, ← hh] at SV ⊢
  have ea := below_alloc w (.cells #[.slice a1 n1 c1, .slice a2 n2 c2, .int .i64 r, .int .i64 hd] 25)
  have pa := Quad.new w (.slice a1 n1 c1) (.slice a2 n2 c2) (.int .i64 r) (.int .i64 hd) 25
  obtain ⟨Wa, hWa⟩ : ∃ W, W = w.alloc (.cells #[.slice a1 n1 c1, .slice a2 n2 c2, .int .i64 r, .int .i64 hd] 25) := ⟨_, rfl⟩
  have sa : Wa.heap.size = w.heap.size + 1 := by rw [hWa]; exact Go.Deep.nblk_alloc _ _
  rw [← hWa] at ea pa
  have eb := below_alloc Wa (.cells #[.slice none 0 0, .slice none 0 0, .int .i64 0, .int .i64 0] 25)
  have pb := Quad.new Wa (.slice none 0 0) (.slice none 0 0) (.int .i64 0) (.int .i64 0) 25
  obtain ⟨W, hW⟩ : ∃ W, W = Wa.alloc (.cells #[.slice none 0 0, .slice none 0 0, .int .i64 0, .int .i64 0] 25) := ⟨_, rfl⟩
  rw [← hW] at eb pb
  have HW := Lib.hid (show (w.alloc (.cells #[.slice a1 n1 c1, .slice a2 n2 c2, .int .i64 r, .int .i64 hd] 25)).alloc (.cells #[.slice none 0 0, .slice none 0 0, .int .i64 0, .int .i64 0] 25) = W by rw [hW, hWa])
  have E := Lib.hid (ea.trans (eb.mono ea.size))
  rw [sa] at pb
  have PA := Lib.hid (pa.below eb)
  have PB := Lib.hid pb
  have I1 := Lib.hid i1
  have I2 := Lib.hid i2
  have HR := Lib.hid (And.intro hr hh)
  have HLN := Lib.hid hl
  have p0 := PA.out.cell0
  have p1 := PA.out.cell1
  have p2 := PA.out.cell2
  have p3 := PA.out.cell3
  have LZ := Lib.hid (fun (q : laB s k = false) => show laV s k = nilG by unfold laV; rw [q]; rfl)
  have QZ0 := Lib.hid (fun (X : World) (b : Below W.heap.size W X) => And.intro (PB.out.below b) (E.out.trans (b.mono E.out.size)))
  clear h i1 i2 ea eb pa pb hW hWa sa hr hh hl
  by_cases hin : -2000 ≤ k ∧ k ≤ 2000
  · have hk1 := hin.1
    have hk2 := hin.2
    obtain ⟨t, ht⟩ : ∃ t, t = sgB s := ⟨_, rfl⟩
    rw [← ht] at SV
    have HT := Lib.hid ht.symm
    have HIN := Lib.hid hin
    clear ht hin
    go_enter Try.func28, Try.ntmps28
    go_upto_region 1 with fail
    rw [HW.out]
    go_wp2_with fail
    refine (SV.out _ E.out).mono ?_
    rintro e w2 ⟨rfl, b2⟩
    cases t
    · have HB := Lib.hid (show laB s k = false by unfold laB; rw [HT.out]; simp)
      have HZ := Lib.hid (LZ.out HB.out)
      have QZ := Lib.hid (QZ0.out _ b2).1
      have BZ := Lib.hid (QZ0.out _ b2).2
      clear b2 p0 p1 p2 p3
      have qz := QZ.out
      have z0 := qz.cell0
      have z1 := qz.cell1
      have z2 := qz.cell2
      have z3 := qz.cell3
      have zf := qz.frozen
      have qs := qz.stored (.slice none 0 0) (.slice none 0 0) (.int .i64 0) (.int .i64 0)
      have y0 := qs.cell0
      have y1 := qs.cell1
      have y2 := qs.cell2
      have y3 := qs.cell3
      have BE := Lib.hid (stored4 BZ.out (b := w.heap.size + 1) (Nat.le_succ _) (.slice none 0 0) (.slice none 0 0) (.int .i64 0) (.int .i64 0))
      clear qz qs
      go_wp2_with fail
      exact bodyPost_ret (v := .tuple #[.agg #[.slice none 0 0, .slice none 0 0, .int .i64 0, .int .i64 0], .bool false]) (by simp [results, Try.results28, go_sem, y0, y1, y2, y3]) rfl ⟨_, by rw [HB.out], by rw [HZ.out]; exact nil_sg _ _, BE.out⟩
    · have SGO := Lib.hid (sgB_of HT.out)
      go_wp2_with fail
      refine (in_yes _ _ _ _ hk1 hk2).mono ?_
      rintro e wq ⟨rfl, rfl⟩
      obtain ⟨bx, hbx⟩ : ∃ x, x = w.heap.size := ⟨_, rfl⟩
      obtain ⟨rs, hrs⟩ : ∃ x, x = w.heap.size + 1 := ⟨_, rfl⟩
      obtain ⟨base, hbase⟩ : ∃ x, x = w2.heap.size := ⟨_, rfl⟩
      have BOX := Lib.hid (show Quad w2 bx (.slice a1 n1 c1) (.slice a2 n2 c2) (.int .i64 r) (.int .i64 hd) 25 by rw [hbx]; exact PA.out.below b2)
      have RES := Lib.hid (show Quad w2 rs (.slice none 0 0) (.slice none 0 0) (.int .i64 0) (.int .i64 0) 25 by rw [hrs]; exact PB.out.below b2)
      have BEL := Lib.hid (E.out.trans (b2.mono E.out.size))
      have HBX := Lib.hid (show base ≤ w2.drew.heap.size by rw [hbase]; exact Nat.le_refl _)
      have LO := Lib.hid (show bx < rs ∧ w.heap.size ≤ bx ∧ rs < base ∧ bx = w.heap.size ∧ rs = w.heap.size + 1 by have := RES.out.lt; omega)
      have CA := Lib.hid (fun (X : World) (b : Below w.heap.size w X) => specTimes (I1.out.below b) SGO.out.lenA (fun i hi => qB_val SGO.out.a hi) HIN.out.1 HIN.out.2)
      have CB := Lib.hid (fun (X : World) (b : Below w.heap.size w X) => specTimes (I2.out.below b) SGO.out.lenB (fun i hi => qB_val SGO.out.b hi) HIN.out.1 HIN.out.2)
      rw [← hrs, ← hbx]
      clear b2 p0 p1 p2 p3 hbx hrs hbase
      go_upto_region 3 with fail
      refine wp_region_goodsA (G := GLaS base bx a1 n1 c1 a2 n2 c2 r hd k s) (R := fun D a X => RU w bx rs base base (.slice a1 n1 c1) (.slice a2 n2 c2) r hd [(3, 19, 0), (7, 23, 1)] 19 23 6 28 12 (fun D => D 13 = true) 14 D a X) (T := fun _ => Keep) (by kernel_rfl) (by kernel_rfl) ?start (fun _ i _ v X Y _ _ _ h => GLaS.kept i v X Y h) ⟨?s0, ?s1, ?s2, ?s3, ?s4, ?s5, ?s6, ?s7, ?s8, ?s9, ?s10, ?s11, ?s12, ?s13, ?s14, trivial⟩ ?hend
      case start =>
        intro D hD
        exact ⟨BOX.out.below ((Below.refl _ _).drew), ⟨_, _, _, _, RES.out.below ((Below.refl _ _).drew)⟩, BEL.out.drew, HBX.out, ⟨(fun p hp e => by rw [hD] at e; cases e), (fun p hp q hq hne e => by rw [hD] at e; cases e)⟩, (fun q => by simp only [hD] at q; cases q), fun q => by rw [hD] at q; cases q⟩
      case s0 =>
        intro ac wc D D' hsz hDk hDk' hdo hcl hlD hR hrest hdep K hK
        have e0 : ac.tmps.getD 2 undef = .pointer (some ⟨bx, 0, none⟩) := hrest 2 (by kernel_rfl)
        have f0 := slot_of e0
        have HR := Lib.hid (show ∀ v, RU w bx rs base base (.slice a1 n1 c1) (.slice a2 n2 c2) r hd [(3, 19, 0), (7, 23, 1)] 19 23 6 28 12 (fun D => D 13 = true) 14 D' (ac.put (some 16) v) wc from fun v => ⟨hR.box, hR.res, hR.bel, hR.hb, hR.tk.plain (fun p hp => hdo _ (by simp only [List.mem_cons, List.not_mem_nil, or_false] at hp; rcases hp with rfl | rfl <;> decide)) (fun p hp => by simp only [List.mem_cons, List.not_mem_nil, or_false] at hp; rcases hp with rfl | rfl <;> exact put_other (by decide)) (Nat.le_refl _), fun q => by rw [hdo 13 (by decide)] at q; have hq0 := hR.tg q; obtain ⟨n, x, y, z, u, e1, e2, e3, e4⟩ := hq0; exact ⟨n, x, y, z, u, (put_other (by decide)).trans e1, e2, e3, fun q2 => by rw [hdo 14 (by decide)] at q2; rw [put_other (by decide), put_other (by decide)]; exact e4 q2⟩, fun q => by rw [hdo 12 (by decide)] at q; rw [put_other (by decide), put_other (by decide), put_other (by decide)]; exact hR.bl q⟩)
        have HK := Lib.hid hK
        clear hdep hrest hR hK hsz
        go_simp
        exact HK.out _ _ rfl (HR.out _) (Keep.refl _)
      case s1 =>
        intro ac wc D D' hsz hDk hDk' hdo hcl hlD hR hrest hdep K hK
        have e0 : ac.tmps.getD 16 undef = .pointer (some ⟨bx, 0, none⟩) := hdep 0 (by kernel_rfl)
        have f0 := slot_of e0
        have c0 := hR.box.cell0
        have c1' := hR.box.cell1
        have c2' := hR.box.cell2
        have c3 := hR.box.cell3
        have HR := Lib.hid (show ∀ v, RU w bx rs base base (.slice a1 n1 c1) (.slice a2 n2 c2) r hd [(3, 19, 0), (7, 23, 1)] 19 23 6 28 12 (fun D => D 13 = true) 14 D' (ac.put (some 17) v) wc from fun v => ⟨hR.box, hR.res, hR.bel, hR.hb, hR.tk.plain (fun p hp => hdo _ (by simp only [List.mem_cons, List.not_mem_nil, or_false] at hp; rcases hp with rfl | rfl <;> decide)) (fun p hp => by simp only [List.mem_cons, List.not_mem_nil, or_false] at hp; rcases hp with rfl | rfl <;> exact put_other (by decide)) (Nat.le_refl _), fun q => by rw [hdo 13 (by decide)] at q; have hq0 := hR.tg q; obtain ⟨n, x, y, z, u, e1, e2, e3, e4⟩ := hq0; exact ⟨n, x, y, z, u, (put_other (by decide)).trans e1, e2, e3, fun q2 => by rw [hdo 14 (by decide)] at q2; rw [put_other (by decide), put_other (by decide)]; exact e4 q2⟩, fun q => by rw [hdo 12 (by decide)] at q; rw [put_other (by decide), put_other (by decide), put_other (by decide)]; exact hR.bl q⟩)
        have HK := Lib.hid hK
        clear hdep hrest hR hK hsz
        go_simp
        exact HK.out _ _ rfl (HR.out _) (Keep.refl _)
      case s2 =>
        intro ac wc D D' hsz hDk hDk' hdo hcl hlD hR hrest hdep K hK
        have e0 : ac.tmps.getD 1 undef = .int .i64 k := hrest 1 (by kernel_rfl)
        have f0 := slot_of e0
        have HR := Lib.hid (show ∀ v, RU w bx rs base base (.slice a1 n1 c1) (.slice a2 n2 c2) r hd [(3, 19, 0), (7, 23, 1)] 19 23 6 28 12 (fun D => D 13 = true) 14 D' (ac.put (some 18) v) wc from fun v => ⟨hR.box, hR.res, hR.bel, hR.hb, hR.tk.plain (fun p hp => hdo _ (by simp only [List.mem_cons, List.not_mem_nil, or_false] at hp; rcases hp with rfl | rfl <;> decide)) (fun p hp => by simp only [List.mem_cons, List.not_mem_nil, or_false] at hp; rcases hp with rfl | rfl <;> exact put_other (by decide)) (Nat.le_refl _), fun q => by rw [hdo 13 (by decide)] at q; have hq0 := hR.tg q; obtain ⟨n, x, y, z, u, e1, e2, e3, e4⟩ := hq0; exact ⟨n, x, y, z, u, (put_other (by decide)).trans e1, e2, e3, fun q2 => by rw [hdo 14 (by decide)] at q2; rw [put_other (by decide), put_other (by decide)]; exact e4 q2⟩, fun q => by rw [hdo 12 (by decide)] at q; rw [put_other (by decide), put_other (by decide), put_other (by decide)]; exact hR.bl q⟩)
        have HK := Lib.hid hK
        clear hdep hrest hR hK hsz
        go_simp
        exact HK.out _ _ rfl (HR.out _) (Keep.refl _)
      case s3 =>
        intro ac wc D D' hsz hDk hDk' hdo hcl hlD hR hrest hdep K hK
        have e0 : ac.tmps.getD 17 undef = .slice a1 n1 c1 := hdep 1 (by kernel_rfl)
        have f0 := slot_of e0
        have e1 : ac.tmps.getD 18 undef = .int .i64 k := hdep 2 (by kernel_rfl)
        have f1 := slot_of e1
        have HL := Lib.hid (show D 14 = false from by
          cases hq : D 14 with
          | false => rfl
          | true =>
            have h12 := hcl 14 _ rfl hq 12 (by kernel_rfl)
            have h3 := hcl 12 _ rfl h12 3 (by kernel_rfl)
            rw [h3] at hDk; cases hDk)
        have HB := Lib.hid (show D 12 = false from by
          cases hq : D 12 with
          | false => rfl
          | true =>
            have h3 := hcl 12 _ rfl hq 3 (by kernel_rfl)
            rw [h3] at hDk; cases hDk)
        have HC := Lib.hid (CA.out _ hR.bel)
        have HS := Lib.hid (show ∀ v' w', OwnI w' wc.heap.size v' (s.A.map (· + k)) → Below wc.heap.size wc w' → RU w bx rs base base (.slice a1 n1 c1) (.slice a2 n2 c2) r hd [(3, 19, 0), (7, 23, 1)] 19 23 6 28 12 (fun D => D 13 = true) 14 D' (ac.put (some 19) v') w' from fun v' w' hv hbl => ⟨hR.box.below hbl, (by obtain ⟨x, y, z, u, q⟩ := hR.res; exact ⟨x, y, z, u, q.below hbl⟩), hR.bel.trans (hbl.mono hR.bel.size), Nat.le_trans hR.hb hbl.size, hR.tk.fresh (3, 19, 0) (by decide) (fun p hp hne => hdo _ hne) (fun p hp hne => by simp only [List.mem_cons, List.not_mem_nil, or_false] at hp; rcases hp with rfl | rfl <;> first | exact put_other (by decide) | exact absurd rfl hne) (hbl.size) (fun b hb => by rw [put_same (by rw [hsz]; exact (by decide : 19 < 34))] at hb; exact World.ownsRow.lt hv b hb), fun q => by rw [hdo 13 (by decide)] at q; have hq0 := hR.tg q; obtain ⟨n, x, y, z, u, e1, e2, e3, e4⟩ := hq0; exact ⟨n, x, y, z, u, (put_other (by decide)).trans e1, e2, e3.below hbl, fun q2 => by rw [hdo 14 (by decide)] at q2; rw [HL.out] at q2; cases q2⟩, fun q => by rw [hdo 12 (by decide)] at q; rw [HB.out] at q; cases q⟩)
        have hbw := Lib.hid hR.hb
        have HK := Lib.hid hK
        clear hdep hrest hR hK hsz
        go_simp
        refine HC.out.mono ?_
        rintro e w' ⟨v', rfl, hv, hbl⟩
        exact HK.out v' w' (hv.mono hbw.out) (HS.out v' w' hv hbl) (Keep.below hbl)
      case s4 =>
        intro ac wc D D' hsz hDk hDk' hdo hcl hlD hR hrest hdep K hK
        have e0 : ac.tmps.getD 2 undef = .pointer (some ⟨bx, 0, none⟩) := hrest 2 (by kernel_rfl)
        have f0 := slot_of e0
        have HR := Lib.hid (show ∀ v, RU w bx rs base base (.slice a1 n1 c1) (.slice a2 n2 c2) r hd [(3, 19, 0), (7, 23, 1)] 19 23 6 28 12 (fun D => D 13 = true) 14 D' (ac.put (some 20) v) wc from fun v => ⟨hR.box, hR.res, hR.bel, hR.hb, hR.tk.plain (fun p hp => hdo _ (by simp only [List.mem_cons, List.not_mem_nil, or_false] at hp; rcases hp with rfl | rfl <;> decide)) (fun p hp => by simp only [List.mem_cons, List.not_mem_nil, or_false] at hp; rcases hp with rfl | rfl <;> exact put_other (by decide)) (Nat.le_refl _), fun q => by rw [hdo 13 (by decide)] at q; have hq0 := hR.tg q; obtain ⟨n, x, y, z, u, e1, e2, e3, e4⟩ := hq0; exact ⟨n, x, y, z, u, (put_other (by decide)).trans e1, e2, e3, fun q2 => by rw [hdo 14 (by decide)] at q2; rw [put_other (by decide), put_other (by decide)]; exact e4 q2⟩, fun q => by rw [hdo 12 (by decide)] at q; rw [put_other (by decide), put_other (by decide), put_other (by decide)]; exact hR.bl q⟩)
        have HK := Lib.hid hK
        clear hdep hrest hR hK hsz
        go_simp
        exact HK.out _ _ rfl (HR.out _) (Keep.refl _)
      case s5 =>
        intro ac wc D D' hsz hDk hDk' hdo hcl hlD hR hrest hdep K hK
        have e0 : ac.tmps.getD 20 undef = .pointer (some ⟨bx, 1, none⟩) := hdep 4 (by kernel_rfl)
        have f0 := slot_of e0
        have c0 := hR.box.cell0
        have c1' := hR.box.cell1
        have c2' := hR.box.cell2
        have c3 := hR.box.cell3
        have HR := Lib.hid (show ∀ v, RU w bx rs base base (.slice a1 n1 c1) (.slice a2 n2 c2) r hd [(3, 19, 0), (7, 23, 1)] 19 23 6 28 12 (fun D => D 13 = true) 14 D' (ac.put (some 21) v) wc from fun v => ⟨hR.box, hR.res, hR.bel, hR.hb, hR.tk.plain (fun p hp => hdo _ (by simp only [List.mem_cons, List.not_mem_nil, or_false] at hp; rcases hp with rfl | rfl <;> decide)) (fun p hp => by simp only [List.mem_cons, List.not_mem_nil, or_false] at hp; rcases hp with rfl | rfl <;> exact put_other (by decide)) (Nat.le_refl _), fun q => by rw [hdo 13 (by decide)] at q; have hq0 := hR.tg q; obtain ⟨n, x, y, z, u, e1, e2, e3, e4⟩ := hq0; exact ⟨n, x, y, z, u, (put_other (by decide)).trans e1, e2, e3, fun q2 => by rw [hdo 14 (by decide)] at q2; rw [put_other (by decide), put_other (by decide)]; exact e4 q2⟩, fun q => by rw [hdo 12 (by decide)] at q; rw [put_other (by decide), put_other (by decide), put_other (by decide)]; exact hR.bl q⟩)
        have HK := Lib.hid hK
        clear hdep hrest hR hK hsz
        go_simp
        exact HK.out _ _ rfl (HR.out _) (Keep.refl _)
      case s6 =>
        intro ac wc D D' hsz hDk hDk' hdo hcl hlD hR hrest hdep K hK
        have e0 : ac.tmps.getD 1 undef = .int .i64 k := hrest 1 (by kernel_rfl)
        have f0 := slot_of e0
        have HR := Lib.hid (show ∀ v, RU w bx rs base base (.slice a1 n1 c1) (.slice a2 n2 c2) r hd [(3, 19, 0), (7, 23, 1)] 19 23 6 28 12 (fun D => D 13 = true) 14 D' (ac.put (some 22) v) wc from fun v => ⟨hR.box, hR.res, hR.bel, hR.hb, hR.tk.plain (fun p hp => hdo _ (by simp only [List.mem_cons, List.not_mem_nil, or_false] at hp; rcases hp with rfl | rfl <;> decide)) (fun p hp => by simp only [List.mem_cons, List.not_mem_nil, or_false] at hp; rcases hp with rfl | rfl <;> exact put_other (by decide)) (Nat.le_refl _), fun q => by rw [hdo 13 (by decide)] at q; have hq0 := hR.tg q; obtain ⟨n, x, y, z, u, e1, e2, e3, e4⟩ := hq0; exact ⟨n, x, y, z, u, (put_other (by decide)).trans e1, e2, e3, fun q2 => by rw [hdo 14 (by decide)] at q2; rw [put_other (by decide), put_other (by decide)]; exact e4 q2⟩, fun q => by rw [hdo 12 (by decide)] at q; rw [put_other (by decide), put_other (by decide), put_other (by decide)]; exact hR.bl q⟩)
        have HK := Lib.hid hK
        clear hdep hrest hR hK hsz
        go_simp
        exact HK.out _ _ rfl (HR.out _) (Keep.refl _)
      case s7 =>
        intro ac wc D D' hsz hDk hDk' hdo hcl hlD hR hrest hdep K hK
        have e0 : ac.tmps.getD 21 undef = .slice a2 n2 c2 := hdep 5 (by kernel_rfl)
        have f0 := slot_of e0
        have e1 : ac.tmps.getD 22 undef = .int .i64 k := hdep 6 (by kernel_rfl)
        have f1 := slot_of e1
        have HL := Lib.hid (show D 14 = false from by
          cases hq : D 14 with
          | false => rfl
          | true =>
            have h12 := hcl 14 _ rfl hq 12 (by kernel_rfl)
            have h7 := hcl 12 _ rfl h12 7 (by kernel_rfl)
            rw [h7] at hDk; cases hDk)
        have HB := Lib.hid (show D 12 = false from by
          cases hq : D 12 with
          | false => rfl
          | true =>
            have h7 := hcl 12 _ rfl hq 7 (by kernel_rfl)
            rw [h7] at hDk; cases hDk)
        have HC := Lib.hid (CB.out _ hR.bel)
        have HS := Lib.hid (show ∀ v' w', OwnI w' wc.heap.size v' (s.B.map (· + k)) → Below wc.heap.size wc w' → RU w bx rs base base (.slice a1 n1 c1) (.slice a2 n2 c2) r hd [(3, 19, 0), (7, 23, 1)] 19 23 6 28 12 (fun D => D 13 = true) 14 D' (ac.put (some 23) v') w' from fun v' w' hv hbl => ⟨hR.box.below hbl, (by obtain ⟨x, y, z, u, q⟩ := hR.res; exact ⟨x, y, z, u, q.below hbl⟩), hR.bel.trans (hbl.mono hR.bel.size), Nat.le_trans hR.hb hbl.size, hR.tk.fresh (7, 23, 1) (by decide) (fun p hp hne => hdo _ hne) (fun p hp hne => by simp only [List.mem_cons, List.not_mem_nil, or_false] at hp; rcases hp with rfl | rfl <;> first | exact put_other (by decide) | exact absurd rfl hne) (hbl.size) (fun b hb => by rw [put_same (by rw [hsz]; exact (by decide : 23 < 34))] at hb; exact World.ownsRow.lt hv b hb), fun q => by rw [hdo 13 (by decide)] at q; have hq0 := hR.tg q; obtain ⟨n, x, y, z, u, e1, e2, e3, e4⟩ := hq0; exact ⟨n, x, y, z, u, (put_other (by decide)).trans e1, e2, e3.below hbl, fun q2 => by rw [hdo 14 (by decide)] at q2; rw [HL.out] at q2; cases q2⟩, fun q => by rw [hdo 12 (by decide)] at q; rw [HB.out] at q; cases q⟩)
        have hbw := Lib.hid hR.hb
        have HK := Lib.hid hK
        clear hdep hrest hR hK hsz
        go_simp
        refine HC.out.mono ?_
        rintro e w' ⟨v', rfl, hv, hbl⟩
        exact HK.out v' w' (hv.mono hbw.out) (HS.out v' w' hv hbl) (Keep.below hbl)
      case s8 =>
        intro ac wc D D' hsz hDk hDk' hdo hcl hlD hR hrest hdep K hK
        have e0 : ac.tmps.getD 2 undef = .pointer (some ⟨bx, 0, none⟩) := hrest 2 (by kernel_rfl)
        have f0 := slot_of e0
        have HR := Lib.hid (show ∀ v, RU w bx rs base base (.slice a1 n1 c1) (.slice a2 n2 c2) r hd [(3, 19, 0), (7, 23, 1)] 19 23 6 28 12 (fun D => D 13 = true) 14 D' (ac.put (some 24) v) wc from fun v => ⟨hR.box, hR.res, hR.bel, hR.hb, hR.tk.plain (fun p hp => hdo _ (by simp only [List.mem_cons, List.not_mem_nil, or_false] at hp; rcases hp with rfl | rfl <;> decide)) (fun p hp => by simp only [List.mem_cons, List.not_mem_nil, or_false] at hp; rcases hp with rfl | rfl <;> exact put_other (by decide)) (Nat.le_refl _), fun q => by rw [hdo 13 (by decide)] at q; have hq0 := hR.tg q; obtain ⟨n, x, y, z, u, e1, e2, e3, e4⟩ := hq0; exact ⟨n, x, y, z, u, (put_other (by decide)).trans e1, e2, e3, fun q2 => by rw [hdo 14 (by decide)] at q2; rw [put_other (by decide), put_other (by decide)]; exact e4 q2⟩, fun q => by rw [hdo 12 (by decide)] at q; rw [put_other (by decide), put_other (by decide), put_other (by decide)]; exact hR.bl q⟩)
        have HK := Lib.hid hK
        clear hdep hrest hR hK hsz
        go_simp
        exact HK.out _ _ rfl (HR.out _) (Keep.refl _)
      case s9 =>
        intro ac wc D D' hsz hDk hDk' hdo hcl hlD hR hrest hdep K hK
        have e0 : ac.tmps.getD 24 undef = .pointer (some ⟨bx, 2, none⟩) := hdep 8 (by kernel_rfl)
        have f0 := slot_of e0
        have c0 := hR.box.cell0
        have c1' := hR.box.cell1
        have c2' := hR.box.cell2
        have c3 := hR.box.cell3
        have HR := Lib.hid (show ∀ v, RU w bx rs base base (.slice a1 n1 c1) (.slice a2 n2 c2) r hd [(3, 19, 0), (7, 23, 1)] 19 23 6 28 12 (fun D => D 13 = true) 14 D' (ac.put (some 25) v) wc from fun v => ⟨hR.box, hR.res, hR.bel, hR.hb, hR.tk.plain (fun p hp => hdo _ (by simp only [List.mem_cons, List.not_mem_nil, or_false] at hp; rcases hp with rfl | rfl <;> decide)) (fun p hp => by simp only [List.mem_cons, List.not_mem_nil, or_false] at hp; rcases hp with rfl | rfl <;> exact put_other (by decide)) (Nat.le_refl _), fun q => by rw [hdo 13 (by decide)] at q; have hq0 := hR.tg q; obtain ⟨n, x, y, z, u, e1, e2, e3, e4⟩ := hq0; exact ⟨n, x, y, z, u, (put_other (by decide)).trans e1, e2, e3, fun q2 => by rw [hdo 14 (by decide)] at q2; rw [put_other (by decide), put_other (by decide)]; exact e4 q2⟩, fun q => by rw [hdo 12 (by decide)] at q; rw [put_other (by decide), put_other (by decide), put_other (by decide)]; exact hR.bl q⟩)
        have HK := Lib.hid hK
        clear hdep hrest hR hK hsz
        go_simp
        exact HK.out _ _ rfl (HR.out _) (Keep.refl _)
      case s10 =>
        intro ac wc D D' hsz hDk hDk' hdo hcl hlD hR hrest hdep K hK
        have e0 : ac.tmps.getD 2 undef = .pointer (some ⟨bx, 0, none⟩) := hrest 2 (by kernel_rfl)
        have f0 := slot_of e0
        have HR := Lib.hid (show ∀ v, RU w bx rs base base (.slice a1 n1 c1) (.slice a2 n2 c2) r hd [(3, 19, 0), (7, 23, 1)] 19 23 6 28 12 (fun D => D 13 = true) 14 D' (ac.put (some 26) v) wc from fun v => ⟨hR.box, hR.res, hR.bel, hR.hb, hR.tk.plain (fun p hp => hdo _ (by simp only [List.mem_cons, List.not_mem_nil, or_false] at hp; rcases hp with rfl | rfl <;> decide)) (fun p hp => by simp only [List.mem_cons, List.not_mem_nil, or_false] at hp; rcases hp with rfl | rfl <;> exact put_other (by decide)) (Nat.le_refl _), fun q => by rw [hdo 13 (by decide)] at q; have hq0 := hR.tg q; obtain ⟨n, x, y, z, u, e1, e2, e3, e4⟩ := hq0; exact ⟨n, x, y, z, u, (put_other (by decide)).trans e1, e2, e3, fun q2 => by rw [hdo 14 (by decide)] at q2; rw [put_other (by decide), put_other (by decide)]; exact e4 q2⟩, fun q => by rw [hdo 12 (by decide)] at q; rw [put_other (by decide), put_other (by decide), put_other (by decide)]; exact hR.bl q⟩)
        have HK := Lib.hid hK
        clear hdep hrest hR hK hsz
        go_simp
        exact HK.out _ _ rfl (HR.out _) (Keep.refl _)
      case s11 =>
        intro ac wc D D' hsz hDk hDk' hdo hcl hlD hR hrest hdep K hK
        have e0 : ac.tmps.getD 26 undef = .pointer (some ⟨bx, 3, none⟩) := hdep 10 (by kernel_rfl)
        have f0 := slot_of e0
        have c0 := hR.box.cell0
        have c1' := hR.box.cell1
        have c2' := hR.box.cell2
        have c3 := hR.box.cell3
        have HR := Lib.hid (show ∀ v, RU w bx rs base base (.slice a1 n1 c1) (.slice a2 n2 c2) r hd [(3, 19, 0), (7, 23, 1)] 19 23 6 28 12 (fun D => D 13 = true) 14 D' (ac.put (some 27) v) wc from fun v => ⟨hR.box, hR.res, hR.bel, hR.hb, hR.tk.plain (fun p hp => hdo _ (by simp only [List.mem_cons, List.not_mem_nil, or_false] at hp; rcases hp with rfl | rfl <;> decide)) (fun p hp => by simp only [List.mem_cons, List.not_mem_nil, or_false] at hp; rcases hp with rfl | rfl <;> exact put_other (by decide)) (Nat.le_refl _), fun q => by rw [hdo 13 (by decide)] at q; have hq0 := hR.tg q; obtain ⟨n, x, y, z, u, e1, e2, e3, e4⟩ := hq0; exact ⟨n, x, y, z, u, (put_other (by decide)).trans e1, e2, e3, fun q2 => by rw [hdo 14 (by decide)] at q2; rw [put_other (by decide), put_other (by decide)]; exact e4 q2⟩, fun q => by rw [hdo 12 (by decide)] at q; rw [put_other (by decide), put_other (by decide), put_other (by decide)]; exact hR.bl q⟩)
        have HK := Lib.hid hK
        clear hdep hrest hR hK hsz
        go_simp
        exact HK.out _ _ rfl (HR.out _) (Keep.refl _)
      case s12 =>
        intro ac wc D D' hsz hDk hDk' hdo hcl hlD hR hrest hdep K hK
        have e0 : ac.tmps.getD 25 undef = .int .i64 r := hdep 9 (by kernel_rfl)
        have f0 := slot_of e0
        have e1 : ac.tmps.getD 27 undef = .int .i64 hd := hdep 11 (by kernel_rfl)
        have f1 := slot_of e1
        have g1 : OwnI wc base (ac.tmps.getD 19 undef) (s.A.map (· + k)) := hdep 3 (by kernel_rfl)
        have g2 : OwnI wc base (ac.tmps.getD 23 undef) (s.B.map (· + k)) := hdep 7 (by kernel_rfl)
        obtain ⟨x1, y1, z1, h1⟩ := own_is_slice g1
        obtain ⟨x2, y2, z2, h2⟩ := own_is_slice g2
        have h1' := slot_of h1
        have h2' := slot_of h2
        have HR := Lib.hid (show RU w bx rs base base (.slice a1 n1 c1) (.slice a2 n2 c2) r hd [(3, 19, 0), (7, 23, 1)] 19 23 6 28 12 (fun D => D 13 = true) 14 D' (ac.put (some 28) (.agg #[.slice x1 y1 z1, .slice x2 y2 z2, .int .i64 r, .int .i64 hd])) wc from ⟨hR.box, hR.res, hR.bel, hR.hb, hR.tk.plain (fun p hp => hdo _ (by simp only [List.mem_cons, List.not_mem_nil, or_false] at hp; rcases hp with rfl | rfl <;> decide)) (fun p hp => by simp only [List.mem_cons, List.not_mem_nil, or_false] at hp; rcases hp with rfl | rfl <;> exact put_other (by decide)) (Nat.le_refl _), fun q => by rw [hdo 13 (by decide)] at q; have hq0 := hR.tg q; obtain ⟨n, x, y, z, u, e1, e2, e3, e4⟩ := hq0; exact ⟨n, x, y, z, u, (put_other (by decide)).trans e1, e2, e3, fun q2 => by rw [hdo 14 (by decide)] at q2; rw [put_other (by decide), put_other (by decide)]; exact e4 q2⟩, fun _ => ⟨x1, y1, z1, x2, y2, z2, (put_other (by decide)).trans h1, (put_other (by decide)).trans h2, put_same (by rw [hsz]; exact (by decide : 28 < 34))⟩⟩)
        have HK := Lib.hid hK
        clear hdep hrest hR g1 g2 hK hsz
        go_simp
        exact HK.out _ _ trivial HR.out (Keep.refl _)
      case s13 =>
        intro ac wc D D' hsz hDk hDk' hdo hcl hlD hR hrest hdep K hK
        have HL := Lib.hid (show D 14 = false from by
          cases hq : D 14 with
          | false => rfl
          | true =>
            have h13 := hcl 14 _ rfl hq 13 (by kernel_rfl)
            rw [h13] at hDk; cases hDk)
        have HR := Lib.hid (show RU w bx rs base base (.slice a1 n1 c1) (.slice a2 n2 c2) r hd [(3, 19, 0), (7, 23, 1)] 19 23 6 28 12 (fun D => D 13 = true) 14 D' (ac.put (some 6) (.pointer (some ⟨wc.heap.size, 0, none⟩))) (wc.alloc (.cells #[.slice none 0 0, .slice none 0 0, .int .i64 0, .int .i64 0] 25)) from ⟨hR.box.alloc _, (by obtain ⟨x, y, z, u, q⟩ := hR.res; exact ⟨x, y, z, u, q.alloc _⟩), hR.bel.alloc hR.bel.size _, Nat.le_trans hR.hb (below_alloc _ _).size, hR.tk.plain (fun p hp => hdo _ (by simp only [List.mem_cons, List.not_mem_nil, or_false] at hp; rcases hp with rfl | rfl <;> decide)) (fun p hp => by simp only [List.mem_cons, List.not_mem_nil, or_false] at hp; rcases hp with rfl | rfl <;> exact put_other (by decide)) ((below_alloc _ _).size), fun _ => ⟨wc.heap.size, _, _, _, _, put_same (by rw [hsz]; exact (by decide : 6 < 34)), hR.hb, Quad.new _ _ _ _ _ _, fun q2 => by rw [hdo 14 (by decide), HL.out] at q2; cases q2⟩, fun q => by rw [hdo 12 (by decide)] at q; rw [put_other (by decide), put_other (by decide), put_other (by decide)]; exact hR.bl q⟩)
        have HK := Lib.hid hK
        clear hdep hrest hR hK hsz
        go_simp
        exact HK.out _ _ trivial HR.out (Keep.alloc _ _)
      case s14 =>
        intro ac wc D D' hsz hDk hDk' hdo hcl hlD hR hrest hdep K hK
        obtain ⟨n, x, y, z, u, e1, e2, e3, -⟩ := hR.tg (hlD 13 (by kernel_rfl))
        obtain ⟨x1, y1, z1, x2, y2, z2, h1, h2, h3⟩ := hR.bl (hlD 12 (by kernel_rfl))
        have f1 := slot_of e1
        have f3 := slot_of h3
        have c0 := e3.cell0
        have c1' := e3.cell1
        have c2' := e3.cell2
        have c3 := e3.cell3
        have cf := e3.frozen
        have hbn : bx ≠ n := by have := LO.out; omega
        have HR := Lib.hid (show RU w bx rs base base (.slice a1 n1 c1) (.slice a2 n2 c2) r hd [(3, 19, 0), (7, 23, 1)] 19 23 6 28 12 (fun D => D 13 = true) 14 D' (ac.put none undef) ((((wc.setCell ⟨n, 0, none⟩ (.slice x1 y1 z1)).setCell ⟨n, 1, none⟩ (.slice x2 y2 z2)).setCell ⟨n, 2, none⟩ (.int .i64 r)).setCell ⟨n, 3, none⟩ (.int .i64 hd)) from ⟨
            (((hR.box.other (a := ⟨n, 0, none⟩) hbn _).other (a := ⟨n, 1, none⟩) hbn _).other (a := ⟨n, 2, none⟩) hbn _).other (a := ⟨n, 3, none⟩) hbn _,
            (by
              obtain ⟨p1, p2, p3, p4, q⟩ := hR.res
              by_cases c : rs = n
              · subst c; exact ⟨_, _, _, _, q.stored _ _ _ _⟩
              · exact ⟨_, _, _, _, (((q.other (a := ⟨n, 0, none⟩) c _).other (a := ⟨n, 1, none⟩) c _).other (a := ⟨n, 2, none⟩) c _).other (a := ⟨n, 3, none⟩) c _⟩),
            stored4 hR.bel (by have := LO.out; omega) _ _ _ _, by have := hR.hb; simpa using this, hR.tk.plain (fun p hp => hdo _ (by simp only [List.mem_cons, List.not_mem_nil, or_false] at hp; rcases hp with rfl | rfl <;> decide)) (fun p hp => by simp only [List.mem_cons, List.not_mem_nil, or_false] at hp; rcases hp with rfl | rfl <;> exact put_none) (by simp),
            fun _ => ⟨n, _, _, _, _, put_none.trans e1, e2, e3.stored _ _ _ _, fun _ => ⟨by rw [put_none, h1], by rw [put_none, h2], rfl, rfl⟩⟩, fun q => by rw [hdo 12 (by decide)] at q; rw [put_none, put_none, put_none]; exact hR.bl q⟩)
        have HK := Lib.hid hK
        have HQ := Lib.hid e3
        clear hdep hrest hR hK e3 hsz
        go_simp
        exact HK.out undef _ trivial HR.out (Keep.put4 HQ.out _ _ _ _)
      case hend =>
        rintro ⟨tm, df⟩ w' D hD hsz hdf hR hrest hgood
        have hdf' : df = [] := hdf
        subst hdf'
        have e4 : tm.getD 4 undef = .pointer (some ⟨rs, 0, none⟩) := hrest 4 (by kernel_rfl)
        obtain ⟨n, x, y, z, u, q1, q2, q3, q4⟩ := hR.tg (hD 13 (by decide))
        have q1 : tm.getD 6 undef = .pointer (some ⟨n, 0, none⟩) := q1
        obtain ⟨rfl, rfl, rfl, rfl⟩ := q4 (hD 14 (by decide))
        have g1 : OwnI w' base (tm.getD 19 undef) (s.A.map (· + k)) := hgood 3 (by decide)
        have g2 : OwnI w' base (tm.getD 23 undef) (s.B.map (· + k)) := hgood 7 (by decide)
        have ap := hR.tk.ap (3, 19, 0) (by decide) (7, 23, 1) (by decide) (by decide) (hD _ (by decide)) (hD _ (by decide))
        have ap2 := hR.tk.ap (7, 23, 1) (by decide) (3, 19, 0) (by decide) (by decide) (hD _ (by decide)) (hD _ (by decide))
        have q3 : Quad w' n (tm.getD 19 undef) (tm.getD 23 undef) (.int .i64 r) (.int .i64 hd) 25 := q3
        have hbel := hR.bel
        have hres := hR.res
        clear hR hgood hrest q4 hD
        have htm := frame_of tm 34 hsz
        simp only [show List.range 34 = [0, 1, 2, 3, 4, 5, 6, 7, 8, 9, 10, 11, 12, 13, 14, 15, 16, 17, 18, 19, 20, 21, 22, 23, 24, 25, 26, 27, 28, 29, 30, 31, 32, 33] from rfl, List.map] at htm
        generalize tm.getD 0 undef = x0 at *
        generalize tm.getD 1 undef = x1 at *
        generalize tm.getD 2 undef = x2 at *
        generalize tm.getD 3 undef = x3 at *
        generalize tm.getD 4 undef = x4 at *
        generalize tm.getD 5 undef = x5 at *
        generalize tm.getD 6 undef = x6 at *
        generalize tm.getD 7 undef = x7 at *
        generalize tm.getD 8 undef = x8 at *
        generalize tm.getD 9 undef = x9 at *
        generalize tm.getD 10 undef = x10 at *
        generalize tm.getD 11 undef = x11 at *
        generalize tm.getD 12 undef = x12 at *
        generalize tm.getD 13 undef = x13 at *
        generalize tm.getD 14 undef = x14 at *
        generalize tm.getD 15 undef = x15 at *
        generalize tm.getD 16 undef = x16 at *
        generalize tm.getD 17 undef = x17 at *
        generalize tm.getD 18 undef = x18 at *
        generalize tm.getD 19 undef = x19 at *
        generalize tm.getD 20 undef = x20 at *
        generalize tm.getD 21 undef = x21 at *
        generalize tm.getD 22 undef = x22 at *
        generalize tm.getD 23 undef = x23 at *
        generalize tm.getD 24 undef = x24 at *
        generalize tm.getD 25 undef = x25 at *
        generalize tm.getD 26 undef = x26 at *
        generalize tm.getD 27 undef = x27 at *
        generalize tm.getD 28 undef = x28 at *
        generalize tm.getD 29 undef = x29 at *
        generalize tm.getD 30 undef = x30 at *
        generalize tm.getD 31 undef = x31 at *
        generalize tm.getD 32 undef = x32 at *
        generalize tm.getD 33 undef = x33 at *
        subst htm
        subst e4
        subst q1
        have FIN := Lib.hid (fun (X : World) (b : Below w'.heap.size w' X) => show OwnSg X base (.agg #[x19, x23, .int .i64 r, .int .i64 hd]) (laG s k) from ⟨_, _, by rw [HR.out.1, HR.out.2]; rfl, g1.below b, g2.below b, ap, ap2⟩)
        obtain ⟨a5, n5, c5, rfl⟩ := own_is_slice g1
        obtain ⟨a6, n6, c6, rfl⟩ := own_is_slice g2
        have SLV := Lib.hid (SL.out w' _ ((FIN.out w' (below_self _)).sgV (by have := SGO.out.lenA; simp [laG]; omega) (by have := SGO.out.lenB; simp [laG]; omega)))
        have HRG : (laG s k).run = r ∧ (laG s k).head = hd := ⟨HR.out.1.symm, HR.out.2.symm⟩
        obtain ⟨t2, ht2⟩ : ∃ t, t = sgB (laG s k) := ⟨_, rfl⟩
        rw [← ht2] at SLV
        have HT2 := Lib.hid ht2.symm
        have Q3 := Lib.hid q3
        have BF := Lib.hid hbel
        have RS2 := Lib.hid hres
        have d0 := q3.cell0
        have d1 := q3.cell1
        have d2 := q3.cell2
        have d3 := q3.cell3
        have NB := Lib.hid q2
        clear g1 g2 ap ap2 q3 hbel hres ht2 HRG q2
        go_wp2_with fail
        refine SLV.out.mono ?_
        rintro e w3 ⟨rfl, b3⟩
        obtain ⟨p1, p2, p3, p4, qr⟩ := RS2.out
        have qr := qr.below b3
        have Q4 := Lib.hid (Q3.out.below b3)
        have BG := Lib.hid (BF.out.trans (b3.mono BF.out.size))
        have FG := Lib.hid (FIN.out _ b3)
        have z0 := qr.cell0
        have z1 := qr.cell1
        have z2 := qr.cell2
        have z3 := qr.cell3
        have zf := qr.frozen
        clear d0 d1 d2 d3 b3
        cases t2
        · have qs := qr.stored (.slice none 0 0) (.slice none 0 0) (.int .i64 0) (.int .i64 0)
          have y0 := qs.cell0
          have y1 := qs.cell1
          have y2 := qs.cell2
          have y3 := qs.cell3
          have HB := Lib.hid (show laB s k = false by unfold laB; rw [HT2.out]; simp)
          have HZ := Lib.hid (LZ.out HB.out)
          have BE := Lib.hid (stored4 BG.out (b := rs) (by have := LO.out; omega) (.slice none 0 0) (.slice none 0 0) (.int .i64 0) (.int .i64 0))
          clear qr qs
          go_wp2_with fail
          exact bodyPost_ret (v := .tuple #[.agg #[.slice none 0 0, .slice none 0 0, .int .i64 0, .int .i64 0], .bool false]) (by simp [results, Try.results28, go_sem, y0, y1, y2, y3]) rfl ⟨_, by rw [HB.out], by rw [HZ.out]; exact nil_sg _ _, BE.out⟩
        · have c0 := Q4.out.cell0
          have c1' := Q4.out.cell1
          have c2' := Q4.out.cell2
          have c3 := Q4.out.cell3
          have qs := qr.stored (.slice a5 n5 c5) (.slice a6 n6 c6) (.int .i64 r) (.int .i64 hd)
          have y0 := qs.cell0
          have y1 := qs.cell1
          have y2 := qs.cell2
          have y3 := qs.cell3
          have HB := Lib.hid (show laB s k = true by unfold laB; rw [HT.out, HT2.out, decide_eq_true HIN.out]; rfl)
          have HZ := Lib.hid (show laV s k = laG s k by unfold laV; rw [HB.out]; rfl)
          have BE := Lib.hid (stored4 BG.out (b := rs) (by have := LO.out; omega) (.slice a5 n5 c5) (.slice a6 n6 c6) (.int .i64 r) (.int .i64 hd))
          have FE := Lib.hid (show OwnSg ((((w3.setCell ⟨rs, 0, none⟩ (.slice a5 n5 c5)).setCell ⟨rs, 1, none⟩ (.slice a6 n6 c6)).setCell ⟨rs, 2, none⟩ (.int .i64 r)).setCell ⟨rs, 3, none⟩ (.int .i64 hd)) w.heap.size (.agg #[.slice a5 n5 c5, .slice a6 n6 c6, .int .i64 r, .int .i64 hd]) (laG s k) from by
            obtain ⟨u1, u2, e, o1, o2, ap⟩ := FG.out
            have K := Keep.put4 qr (.slice a5 n5 c5) (.slice a6 n6 c6) (.int .i64 r) (.int .i64 hd)
            exact ⟨u1, u2, e, (K.1 _ _ _ o1).mono (by have := LO.out; omega), (K.1 _ _ _ o2).mono (by have := LO.out; omega), ap⟩)
          clear qr qs
          go_wp2_with fail
          exact bodyPost_ret (v := .tuple #[.agg #[.slice a5 n5 c5, .slice a6 n6 c6, .int .i64 r, .int .i64 hd], .bool true]) (by simp [results, Try.results28, go_sem, y0, y1, y2, y3]) rfl ⟨_, by rw [HB.out], by rw [HZ.out]; exact FE.out, BE.out⟩
  · have HB := Lib.hid (show laB s k = false by unfold laB; rw [decide_eq_false hin]; rfl)
    have HZ := Lib.hid (LZ.out HB.out)
    have hout : k < -2000 ∨ 2000 < k := by omega
    obtain ⟨t, ht⟩ : ∃ t, t = sgB s := ⟨_, rfl⟩
    rw [← ht] at SV
    clear ht hin hk64
    go_enter Try.func28, Try.ntmps28
    go_upto_region 1 with fail
    rw [HW.out]
    go_wp2_with fail
    refine (SV.out _ E.out).mono ?_
    rintro e w2 ⟨rfl, b2⟩
    have QZ := Lib.hid (QZ0.out _ b2).1
    have BZ := Lib.hid (QZ0.out _ b2).2
    clear b2 p0 p1 p2 p3
    have HO := Lib.hid hout
    clear hout
    cases t
    · have qz := QZ.out
      have z0 := qz.cell0
      have z1 := qz.cell1
      have z2 := qz.cell2
      have z3 := qz.cell3
      have zf := qz.frozen
      have qs := qz.stored (.slice none 0 0) (.slice none 0 0) (.int .i64 0) (.int .i64 0)
      have y0 := qs.cell0
      have y1 := qs.cell1
      have y2 := qs.cell2
      have y3 := qs.cell3
      have BE := Lib.hid (stored4 BZ.out (b := w.heap.size + 1) (Nat.le_succ _) (.slice none 0 0) (.slice none 0 0) (.int .i64 0) (.int .i64 0))
      clear qz qs
      go_wp2_with fail
      exact bodyPost_ret (v := .tuple #[.agg #[.slice none 0 0, .slice none 0 0, .int .i64 0, .int .i64 0], .bool false]) (by simp [results, Try.results28, go_sem, y0, y1, y2, y3]) rfl ⟨_, by rw [HB.out], by rw [HZ.out]; exact nil_sg _ _, BE.out⟩
    · go_wp2_with fail
      refine (in_no _ _ _ _ HO.out).mono ?_
      rintro e wq ⟨rfl, rfl⟩
      have qz := QZ.out
      have z0 := qz.cell0
      have z1 := qz.cell1
      have z2 := qz.cell2
      have z3 := qz.cell3
      have zf := qz.frozen
      have qs := qz.stored (.slice none 0 0) (.slice none 0 0) (.int .i64 0) (.int .i64 0)
      have y0 := qs.cell0
      have y1 := qs.cell1
      have y2 := qs.cell2
      have y3 := qs.cell3
      have BE := Lib.hid (stored4 BZ.out (b := w.heap.size + 1) (Nat.le_succ _) (.slice none 0 0) (.slice none 0 0) (.int .i64 0) (.int .i64 0))
      clear qz qs
      go_wp2_with fail
      exact bodyPost_ret (v := .tuple #[.agg #[.slice none 0 0, .slice none 0 0, .int .i64 0, .int .i64 0], .bool false]) (by simp [results, Try.results28, go_sem, y0, y1, y2, y3]) rfl ⟨_, by rw [HB.out], by rw [HZ.out]; exact nil_sg _ _, BE.out⟩


end Go.Proofs.Ytlcmkocbpnekhaa
