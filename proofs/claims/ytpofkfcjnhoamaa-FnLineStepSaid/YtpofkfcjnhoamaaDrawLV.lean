/-
  Drawn lines handed back. For codes of at most 1048576 bytes.
-/
import Derived.Test.YtpofkfcjnhoamaaDrawL
namespace Go.Proofs.Ytpofkfcjnhoamaa
open Go.RowKit Go.Sort

theorem IsRowK.below {k : IntKind} {w w' : World} {a : Option Addr} {n c : Nat} {z : List Int} (h : IsRowK k w a n c z) (hb : Below w.heap.size w w') : IsRowK k w' a n c z := by
  rcases h with h | ⟨x, rfl, h1, h2, h3, h4, h5⟩
  · exact .inl h
  · refine .inr ⟨x, rfl, h1, h2, h3, fun i hi => ?_, h5⟩
    have hx := World.block_lt_of_cell? w _ (h4 i hi)
    exact (hb.cell (p := x.add i) hx).trans (h4 i hi)
/-- A line handed back, of the call's own. -/
def MadeLn (w : World) (v : Value) (l : Ln) (w' : World) : Prop := OwnLine w' w.heap.size v l ∧ l.1.length ≤ 5 ∧ l.2.length ≤ 6 ∧ Below w.heap.size w w'
/-- A line stored into the result's box. -/
theorem line_ret {X : World} {lo base C : Nat} {x y u1 u2 : Value} {l : Ln} (o : OwnLine X base (.agg #[u1, u2]) l) (p : Pair X C x y 26) (hC : C < base) (hl : lo ≤ base) :
    Pair ((X.setCell ⟨C, 0, none⟩ u1).setCell ⟨C, 1, none⟩ u2) C u1 u2 26 ∧ OwnLine ((X.setCell ⟨C, 0, none⟩ u1).setCell ⟨C, 1, none⟩ u2) lo (.agg #[u1, u2]) l := by
  obtain ⟨v1, v2, e, o1, o2, ap⟩ := o
  simp only [Value.agg.injEq, Array.mk.injEq, List.cons.injEq, and_true] at e
  obtain ⟨rfl, rfl⟩ := e
  refine ⟨(p.set0 u1).set1 u2, u1, u2, rfl, ?_, ?_, ap⟩
  · exact Ow.mono (Ow.setBelow (Ow.setBelow o1 (a := ⟨C, 0, none⟩) hC u1) (a := ⟨C, 1, none⟩) hC u2) hl
  · exact ((o2.setBelow (a := ⟨C, 0, none⟩) hC u1).setBelow (a := ⟨C, 1, none⟩) hC u2).mono hl

set_option maxRecDepth 100000 in
set_option maxHeartbeats 1000000 in
theorem drawLineValid {w : World} {a : Option Addr} {len cap : Nat} {zs : List Int} (h : IsRowK .u8 w a len cap zs) (hl : len ≤ 1048576) :
    Calls Try.prog 9 #[.slice a len cap] w fun e w' => ∃ v l, e = .returned v ∧ MadeLn w v l w' := by
  have q0 := Pair.new w (.slice none 0 0) (.slice none 0 0) 26
  have b0 := below_alloc w (.cells #[.slice none 0 0, .slice none 0 0] 26)
  obtain ⟨W, hW⟩ : ∃ X, X = w.alloc (.cells #[.slice none 0 0, .slice none 0 0] 26) := ⟨_, rfl⟩
  rw [← hW] at q0 b0
  have OP := Lib.hid (openRd (w := W) (IsRowK.below h b0) hl)
  have HW := Lib.hid hW.symm
  have B0 := Lib.hid b0
  have Q0 := Lib.hid q0
  have QL := Lib.hid q0.lt
  clear hW q0 b0 h
  go_enter Try.func9, Try.ntmps9
  go_upto_region 1 with fail
  rw [HW.out]
  go_wp2_with (first
    | (go_at_call 39; refine OP.out.mono ?_; rintro e w1 ⟨g, rfl, hg, hr, b1⟩; have DL := Lib.hid (drawLine hr (by omega)))
    | (go_at_call 38; refine DL.out.mono ?_; rintro e w2 ⟨l, q, v, rfl, o, ⟨-, hl1⟩, hl2, -, -, k⟩; obtain ⟨a1, n1, c1, a2, n2, c2, rfl⟩ := own_form o; have P2 := Lib.hid ((Q0.out.below b1).kept k (fun c e => by have := QL.out; simp only [Option.some.injEq] at e; omega)); have k0 := P2.out.cell0; have k1 := P2.out.cell1; have f0 := P2.out.frozen 0; have f1 := P2.out.frozen 1))
  have E := line_ret (lo := w.heap.size) o P2.out (by have := QL.out; have := b1.size; omega) (by have := B0.out.size; have := b1.size; omega)
  have r0 := E.1.cell0
  have r1 := E.1.cell1
  have b2 := (B0.out.trans (b1.mono B0.out.size)).grown k (Nat.le_trans B0.out.size b1.size) (fun b e => by cases e; exact Nat.le_trans B0.out.size hg)
  refine bodyPost_ret (v := .agg #[.slice a1 n1 c1, .slice a2 n2 c2]) (by simp [results, Try.results9, go_sem, r0, r1]) rfl ⟨_, l, rfl, E.2, hl1, hl2, (b2.setCell (p := ⟨w.heap.size, 0, none⟩) (Nat.le_refl _) _).setCell (p := ⟨w.heap.size, 1, none⟩) (Nat.le_refl _) _⟩

end Go.Proofs.Ytpofkfcjnhoamaa
