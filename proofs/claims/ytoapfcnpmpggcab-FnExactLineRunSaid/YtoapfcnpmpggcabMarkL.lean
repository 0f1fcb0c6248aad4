/-
  A line that is marked, and whose marks are looked at; what stays as it was. For at most 1048576 blocks and as many trains.
-/
import Derived.Test.YtoapfcnpmpggcabMarkB
namespace Go.Proofs.Ytoapfcnpmpggcab
open Go.RowKit Go.Sort

/-- A line's lists lie in blocks from lo up to hi. -/
def LnIn (v : Value) (lo hi : Nat) : Prop := ∃ u1 u2, v = .agg #[u1, u2] ∧ (∀ b, u1.ownBlock = some b → lo ≤ b ∧ b < hi) ∧ ∀ b, u2.ownBlock = some b → lo ≤ b ∧ b < hi
theorem OwnLine.isIn {w : World} {base : Nat} {v : Value} {l : Ln} (h : OwnLine w base v l) : LnIn v base w.heap.size := by
  obtain ⟨u1, u2, rfl, h1, h2, _⟩ := h
  exact ⟨u1, u2, rfl, Ow.under h1, h2.under⟩
theorem LnIn.both {v : Value} {lo hi : Nat} {u1 u2 : Value} (h : LnIn v lo hi) (e : v = .agg #[u1, u2]) : (∀ b, u1.ownBlock = some b → lo ≤ b ∧ b < hi) ∧ ∀ b, u2.ownBlock = some b → lo ≤ b ∧ b < hi := by
  obtain ⟨_, _, e', k1, k2⟩ := h
  rw [e] at e'
  simp only [Value.agg.injEq, Array.mk.injEq, List.cons.injEq, and_true] at e'
  obtain ⟨rfl, rfl⟩ := e'
  exact ⟨k1, k2⟩
theorem OwnLine.keptIn {w w' : World} {base lo hi a b : Nat} {v : Value} {l : Ln} (h : OwnLine w base v l) (g : GrownIn w w' lo hi) (hin : LnIn v a b) (ho : b ≤ lo ∨ hi ≤ a) : OwnLine w' base v l := by
  obtain ⟨u1, u2, rfl, h1, h2, h3⟩ := h
  obtain ⟨k1, k2⟩ := hin.both rfl
  exact ⟨u1, u2, rfl, Ow.keptIn h1 g (fun c e => by have := k1 c e; omega), h2.keptIn g (fun c e => by have := k2 c e; omega), h3⟩
theorem OwnLine.form {w : World} {base : Nat} {v : Value} {l : Ln} (h : OwnLine w base v l) : ∃ a n c a' n' c', v = .agg #[.slice a n c, .slice a' n' c'] := by
  obtain ⟨u1, u2, rfl, h1, h2, _⟩ := h
  obtain ⟨a, c, rfl⟩ := Ow.slice h1
  obtain ⟨a', n', c', rfl⟩ := own_is_slice h2
  exact ⟨_, _, _, _, _, _, rfl⟩
/-- A line that has been marked from k on. -/
def MkLine (w : World) (base : Nat) (v : Value) (k : Int) (n m : Nat) : Prop :=
  ∃ u1 u2, v = .agg #[u1, u2] ∧ Ow w base 69 3 u1 n (mkF k) ∧ OwnI w base u2 (marks (k + n * 3) m)
theorem MkLine.below {w w' : World} {base : Nat} {v : Value} {k : Int} {n m : Nat} (h : MkLine w base v k n m) (hb : Below w.heap.size w w') : MkLine w' base v k n m := by
  obtain ⟨u1, u2, rfl, h1, h2⟩ := h
  exact ⟨u1, u2, rfl, Ow.below h1 hb, h2.below hb⟩

set_option maxHeartbeats 1000000 in
theorem markLine {w : World} {base lo hi : Nat} {v : Value} {l : Ln} {k : Int} (h : OwnLine w base v l) (hin : LnIn v lo hi) (l1 : l.1.length ≤ 1048576) (l2 : l.2.length ≤ 1048576) (hk0 : 0 ≤ k) (hk : k ≤ 1099511627776) :
    Calls Try.prog 22 #[v, .int .i64 k] w fun e w' => e = .returned (.int .i64 (k + l.1.length * 3 + l.2.length)) ∧ MkLine w' base v k l.1.length l.2.length ∧ GrownIn w w' lo hi := by
  obtain ⟨bs, ts⟩ := l
  obtain ⟨u1, u2, rfl, h1, h2, h3, h4⟩ := h
  obtain ⟨k1, k2⟩ := hin.both rfl
  simp only at l1 l2 h1 h2 ⊢
  have ea := below_alloc w (.cells #[u1, u2] 30)
  have pa := Pair.new w u1 u2 30
  obtain ⟨W, hW⟩ : ∃ W, W = w.alloc (.cells #[u1, u2] 30) := ⟨_, rfl⟩
  rw [← hW] at ea pa
  have hl1 := Ow.under h1
  have E := Lib.hid ea
  have PA := Lib.hid pa
  have HW := Lib.hid hW.symm
  have H1 := Lib.hid (Ow.below h1 ea)
  have H2 := Lib.hid (h2.below ea)
  have AP := Lib.hid (And.intro h3 h4)
  have K := Lib.hid (And.intro k1 k2)
  have HL := Lib.hid hl1
  clear ea pa hW h1 h2 h3 h4 k1 k2 hl1
  go_enter Try.func22, Try.ntmps22
  go_wp2_with fail
  rw [HW.out]
  refine (markBlocks H1.out l1 hk0 hk).mono ?_
  rintro e w1 ⟨rfl, o1, g1⟩
  have c1 := (PA.out.of (g1.block _ PA.out.lt (fun e => by have := (HL.out _ e.symm).2; omega))).cell1
  have O1 := Lib.hid o1
  have G1 := Lib.hid g1
  have O2 := Lib.hid (H2.out.kept g1 AP.out.2)
  clear o1 g1
  go_wp2_with fail
  refine (markInts O2.out l2 (by omega) (by omega)).mono ?_
  rintro e w2 ⟨rfl, o2, g2⟩
  have O1' := Lib.hid (O1.out.kept g2 AP.out.1)
  have G2 := Lib.hid g2
  have O2' := Lib.hid o2
  clear o2 g2
  go_wp2_with fail
  go_ret
  exact ⟨rfl, ⟨u1, u2, rfl, O1'.out, O2'.out⟩, ((GrownIn.of_below E.out _ _).step G1.out K.out.1).step G2.out K.out.2⟩

set_option maxHeartbeats 1000000 in
theorem heldLine {w : World} {base : Nat} {v : Value} {k : Int} {n m : Nat} (h : MkLine w base v k n m) (l1 : n ≤ 1048576) (l2 : m ≤ 1048576) (hk0 : 0 ≤ k) (hk : k ≤ 1099511627776) :
    Calls Try.prog 23 #[v, .int .i64 k] w fun e w' => e = .returned (.int .i64 (k + n * 3 + m)) ∧ Below w.heap.size w w' := by
  obtain ⟨u1, u2, rfl, i1, i2⟩ := h
  have J1 := Lib.hid ((Ow.rd i1 l1).below (below_alloc w (.cells #[u1, u2] 30)))
  have J2 := Lib.hid ((i2.ints (by rw [marks_length]; exact l2)).below (below_alloc w (.cells #[u1, u2] 30)))
  have HM := Lib.hid (marks_held (k + (n : Int) * 3) m)
  have HL := Lib.hid (marks_length (k + (n : Int) * 3) m)
  obtain ⟨xs, hxs⟩ : ∃ xs, xs = marks (k + (n : Int) * 3) m := ⟨_, rfl⟩
  rw [← hxs] at J2 HM HL
  have t1 : decide (k + (n : Int) * 3 < 0) = false := by simp; omega
  have t2 : decide (k + (n : Int) * 3 + (m : Int) < 0) = false := by simp; omega
  have HH := Lib.hid (fun (W : World) (i : Ints W u2 xs) => heldInts i HM.out (by omega) (by omega))
  rw [HL.out] at HH
  clear i1 i2 hxs
  go_enter Try.func23, Try.ntmps23
  go_wp2_with fail
  refine (heldBlocks J1.out hk0 hk).mono ?_
  rintro e w' ⟨rfl, rfl⟩
  go_wp2_with fail
  refine (HH.out _ J2.out).mono ?_
  rintro e w' ⟨rfl, rfl⟩
  go_wp2_with fail
  go_ret
  exact ⟨rfl, below_alloc _ _⟩

end Go.Proofs.Ytoapfcnpmpggcab
