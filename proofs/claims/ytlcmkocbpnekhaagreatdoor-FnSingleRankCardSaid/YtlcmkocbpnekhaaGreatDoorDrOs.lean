/-
  Drawn single lines with an order, as the laws ask for them. For codes of at most 1048576 bytes.
-/
import Derived.Test.YtlcmkocbpnekhaaGreatDoorDrO
namespace Go.Proofs.YtlcmkocbpnekhaaGreatDoor
open Go.RowKit Go.Sort

/-- A call that hands back a drawn single line of its own and a text. -/
def MadeOr (w : World) (e : Ending) (w' : World) : Prop := ∃ (v : Value) (s : Sg) (S : ByteArray), e = .returned (.tuple #[v, .string S]) ∧ OwnSg w' w.heap.size v s ∧ SmallSg s ∧ S.size ≤ 100 ∧ Below w.heap.size w w'

set_option maxHeartbeats 2000000 in
theorem drawORank {w : World} {a : Option Addr} {len cap : Nat} {zs : List Int} (h : IsRowK .u8 w a len cap zs) (hl : len ≤ 1048576) :
    Calls Tryz.prog 4 #[.slice a len cap] w (MadeOr w) := by
  have q0 := Quad.new w (.slice none 0 0) (.slice none 0 0) (.int .i64 0) (.int .i64 0) 25
  have b0 := below_alloc w (.cells #[.slice none 0 0, .slice none 0 0, .int .i64 0, .int .i64 0] 25)
  obtain ⟨W0, hW0⟩ : ∃ X, X = w.alloc (.cells #[.slice none 0 0, .slice none 0 0, .int .i64 0, .int .i64 0] 25) := ⟨_, rfl⟩
  rw [← hW0] at q0 b0
  have OP := Lib.hid (openRd (w := W0) (h.below b0) hl)
  have HW := Lib.hid hW0.symm
  have B0 := Lib.hid b0
  have Q0 := Lib.hid q0
  clear hW0 q0 b0 h
  go_enter Tryz.func4, Tryz.ntmps4
  go_upto_region 1 with fail
  rw [HW.out]
  go_wp2_with (first
    | (go_at_call 12; refine OP.out.mono ?_; rintro e w1 ⟨g, rfl, hg, hr, b1⟩; have DS1 := Lib.hid (drawOrder hr (by omega)))
    | (go_at_call 11; refine DS1.out.mono ?_; rintro e w2 ⟨v, s, S, q, rfl, os, ss, hS, -, -, g2⟩; have Q2 := Lib.hid ((Q0.out.below b1).of (g2.block _ (Q0.out.below b1).lt (by have := Q0.out.lt; simp; omega))); have B2 := Lib.hid (below_grown2 (B0.out.trans (b1.mono B0.out.size)) (Nat.le_trans B0.out.size hg) g2 (Nat.le_trans B0.out.size b1.size)); have OS := Lib.hid os; have LW := Lib.hid (And.intro B0.out.size b1.size); have QL := Lib.hid Q0.out.lt; clear os g2 hr b1 hg; obtain ⟨a1, n1, c1, a2, n2, c2, rfl⟩ := OS.out.form; have k0 := Q2.out.cell0; have k1 := Q2.out.cell1; have k2 := Q2.out.cell2; have k3 := Q2.out.cell3; have kf := Q2.out.frozen))
  have QS := Q2.out.stored (.slice a1 n1 c1) (.slice a2 n2 c2) (.int .i64 s.run) (.int .i64 s.head)
  have r0 := QS.cell0
  have r1 := QS.cell1
  have r2 := QS.cell2
  have r3 := QS.cell3
  refine bodyPost_ret (v := .tuple #[.agg #[.slice a1 n1 c1, .slice a2 n2 c2, .int .i64 s.run, .int .i64 s.head], .string S]) (by simp [results, Tryz.results4, go_sem, r0, r1, r2, r3]) rfl ⟨_, s, S, rfl, ?_, ss, hS, stored4 B2.out (Nat.le_refl _) _ _ _ _⟩
  obtain ⟨u1, u2, e, o1, o2, ap⟩ := OS.out
  simp only [Value.agg.injEq, Array.mk.injEq, List.cons.injEq, and_true] at e
  obtain ⟨rfl, rfl⟩ := e
  have lo : ∀ i, (⟨w.heap.size, i, none⟩ : Addr).block < w1.heap.size := fun i => by have := LW.out.2; have := QL.out; simp only; omega
  have p1 := (((o1.setBelow (lo 0) (.slice a1 n1 c1)).setBelow (lo 1) (.slice a2 n2 c2)).setBelow (lo 2) (.int .i64 s.run)).setBelow (lo 3) (.int .i64 s.head)
  have p2 := (((o2.setBelow (lo 0) (.slice a1 n1 c1)).setBelow (lo 1) (.slice a2 n2 c2)).setBelow (lo 2) (.int .i64 s.run)).setBelow (lo 3) (.int .i64 s.head)
  exact ⟨_, _, rfl, p1.mono (by have := LW.out; omega), p2.mono (by have := LW.out; omega), ap⟩

end Go.Proofs.YtlcmkocbpnekhaaGreatDoor
