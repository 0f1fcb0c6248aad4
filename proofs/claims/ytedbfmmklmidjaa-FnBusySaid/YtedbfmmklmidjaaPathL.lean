/-
  What the laws' helpers do with a path: sizes, a copy, a comparison, the marking and the look at the marks. For lists of at most 1048576 integers.
-/
import Derived.Test.YtedbfmmklmidjaaPathS
import Derived.Test.YtedbfmmklmidjaaSz
import Derived.Test.YtedbfmmklmidjaaResults
import Derived.Test.YtedbfmmklmidjaaGrown
namespace Go.Proofs.Ytedbfmmklmidjaa
open Go.RowKit Go.Sort

/-- The value v is a path of the call's own. -/
def OwnPath (w : World) (base : Nat) (v : Value) (p : List Int × List Int) : Prop :=
  ∃ u1 u2, v = .agg #[u1, u2] ∧ OwnI w base u1 p.1 ∧ OwnI w base u2 p.2 ∧ (u1.ownBlock = none ∨ u1.ownBlock ≠ u2.ownBlock) ∧ (u2.ownBlock = none ∨ u2.ownBlock ≠ u1.ownBlock)
theorem OwnPath.below {w w' : World} {base : Nat} {v : Value} {p : List Int × List Int} (h : OwnPath w base v p) (hb : Below w.heap.size w w') : OwnPath w' base v p := by
  obtain ⟨u1, u2, rfl, h1, h2, h3⟩ := h
  exact ⟨u1, u2, rfl, h1.below hb, h2.below hb, h3⟩
theorem OwnPath.mono {w : World} {base base' : Nat} {v : Value} {p : List Int × List Int} (h : OwnPath w base v p) (hb : base' ≤ base) : OwnPath w base' v p := by
  obtain ⟨u1, u2, rfl, h1, h2, h3⟩ := h
  exact ⟨u1, u2, rfl, h1.mono hb, h2.mono hb, h3⟩
theorem OwnPath.pathV {w : World} {base : Nat} {v : Value} {p : List Int × List Int} (h : OwnPath w base v p) (l1 : p.1.length ≤ 1048576) (l2 : p.2.length ≤ 1048576) : PathV w v p := by
  obtain ⟨u1, u2, rfl, h1, h2, h3⟩ := h
  exact ⟨u1, u2, rfl, h1.ints l1, h2.ints l2⟩
theorem OwnPath.agg {w : World} {base : Nat} {v : Value} {p : List Int × List Int} (h : OwnPath w base v p) : ∃ u1 u2, v = .agg #[u1, u2] := by
  obtain ⟨u1, u2, rfl, _⟩ := h
  exact ⟨u1, u2, rfl⟩
theorem PathV.form {w : World} {v : Value} {p : List Int × List Int} (h : PathV w v p) : ∃ a n c a' n' c', v = .agg #[.slice a n c, .slice a' n' c'] := by
  obtain ⟨u1, u2, rfl, ⟨a, c, rfl, _⟩, ⟨a', c', rfl, _⟩⟩ := h
  exact ⟨_, _, _, _, _, _, rfl⟩
theorem PathV.len {w : World} {v : Value} {p : List Int × List Int} (h : PathV w v p) : p.1.length ≤ 1048576 ∧ p.2.length ≤ 1048576 := by
  obtain ⟨u1, u2, rfl, h1, h2⟩ := h
  exact ⟨h1.len, h2.len⟩
/-- A call that hands back a new path, and writes nothing that was there. -/
def MadePath (w : World) (p : List Int × List Int) (e : Ending) (w' : World) : Prop :=
  ∃ v, e = .returned v ∧ OwnPath w' w.heap.size v p ∧ Below w.heap.size w w'

theorem own_is_slice {w : World} {base : Nat} {v : Value} {xs : List Int} (h : OwnI w base v xs) : ∃ a n c, v = .slice a n c := by
  rcases h.shape with ⟨rfl, _⟩ | ⟨g, c, rfl, _⟩
  · exact ⟨_, _, _, rfl⟩
  · exact ⟨_, _, _, rfl⟩

theorem OwnI.setBelow {w : World} {base : Nat} {v : Value} {xs : List Int} (h : OwnI w base v xs) {a : Addr} (ha : a.block < base) (u : Value) : OwnI (w.setCell a u) base v xs := ownsRow_setCell_below h ha u

set_option maxHeartbeats 1000000 in
theorem toPath {w : World} {v : Value} {p : List Int × List Int} (h : PathV w v p) : Calls Try.prog 64 #[v] w (MadePath w p) := by
  obtain ⟨xs, ys⟩ := p
  obtain ⟨u1, u2, rfl, i1, i2⟩ := h
  have I1 := Lib.hid i1
  have I2 := Lib.hid i2
  clear i1 i2
  have p0 := Pair.new w u1 u2 72
  have e0 := below_alloc w (.cells #[u1, u2] 72)
  obtain ⟨Wa, hWa⟩ : ∃ W, W = w.alloc (.cells #[u1, u2] 72) := ⟨_, rfl⟩
  have ea := below_alloc Wa (.cells #[.slice none 0 0, .slice none 0 0] 40)
  have pa := Pair.new Wa (.slice none 0 0) (.slice none 0 0) 40
  have sa : Wa.heap.size = w.heap.size + 1 := by rw [hWa]; exact Go.Deep.nblk_alloc _ _
  rw [← hWa] at p0 e0
  obtain ⟨Wb, hWb⟩ : ∃ W, W = Wa.alloc (.cells #[.slice none 0 0, .slice none 0 0] 40) := ⟨_, rfl⟩
  have eb := below_alloc Wb (.cells #[.slice none 0 0, .slice none 0 0] 40)
  have pb := Pair.new Wb (.slice none 0 0) (.slice none 0 0) 40
  have sb : Wb.heap.size = w.heap.size + 1 + 1 := by rw [hWb, ← sa]; exact Go.Deep.nblk_alloc _ _
  rw [← hWb] at pa ea
  obtain ⟨W, hW⟩ : ∃ W, W = Wb.alloc (.cells #[.slice none 0 0, .slice none 0 0] 40) := ⟨_, rfl⟩
  rw [← hW] at pb eb
  rw [sb] at pb
  rw [sa] at pa
  have hE : Below w.heap.size w W := (e0.trans (ea.mono e0.size)).trans (eb.mono (Nat.le_trans e0.size ea.size))
  have p0 := (p0.below ea).below eb
  have pa := pa.below eb
  have HW := Lib.hid (show (((w.alloc (Obj.cells #[u1, u2] 72)).alloc (Obj.cells #[Value.slice none 0 0, Value.slice none 0 0] 40)).alloc (Obj.cells #[Value.slice none 0 0, Value.slice none 0 0] 40)) = W by rw [hW, hWb, hWa])
  clear hW hWb hWa e0 ea eb sa sb
  have P0 := Lib.hid p0
  have PA := Lib.hid pa
  have PB := Lib.hid pb
  clear p0 pa pb
  go_enter Try.func64, Try.ntmps64
  go_wp2_with fail
  rw [HW.out]
  refine (toInts (I1.out.below hE)).mono ?_
  rintro e w1 ⟨v1, rfl, o1, b1⟩
  have PB1 := Lib.hid (PB.out.below b1)
  have PA1 := Lib.hid (PA.out.below b1)
  have P01 := Lib.hid (P0.out.below b1)
  obtain ⟨a1, n1, k1, rfl⟩ := own_is_slice o1
  have O1 := Lib.hid o1
  have B1 := Lib.hid (hE.trans (b1.mono hE.size))
  have c0 := PB1.out.cell0
  have c1 := P01.out.cell1
  have f0 := PB1.out.frozen 0
  have z1 : W.heap.size ≤ w1.heap.size := b1.size
  have L1 := PB1.out.lt
  have L0 := PB.out.lt
  clear o1 b1
  go_wp2_with fail
  have S1 : Below w.heap.size w (w1.setCell ⟨w.heap.size + 1 + 1, 0, none⟩ (.slice a1 n1 k1)) := B1.out.setCell (by simp only; omega) _
  have O1' := O1.out.setBelow (a := ⟨w.heap.size + 1 + 1, 0, none⟩) L0 (.slice a1 n1 k1)
  have PB2 := PB1.out.set0 (.slice a1 n1 k1)
  have PA2 := PA1.out.other (a := ⟨w.heap.size + 1 + 1, 0, none⟩) (by simp only; omega) (.slice a1 n1 k1)
  obtain ⟨V, hV⟩ : ∃ V, V = w1.setCell ⟨w.heap.size + 1 + 1, 0, none⟩ (.slice a1 n1 k1) := ⟨_, rfl⟩
  have hVs : V.heap.size = w1.heap.size := by rw [hV]; exact Go.Deep.nblk_setCell _ _ _
  rw [← hV] at S1 O1' PB2 PA2
  rw [← hV]
  refine (toInts (I2.out.below S1)).mono ?_
  rintro e w2 ⟨v2, rfl, o2, b2⟩
  obtain ⟨a2, n2, k2, rfl⟩ := own_is_slice o2
  have PB3 := PB2.below b2
  have PA3 := PA2.below b2
  have hap := apart O1' (Nat.le_refl _) o2
  have hap' := apart' O1' (Nat.le_refl _) o2
  have q0 := PB3.cell0
  have q1 := PB3.cell1
  have qf := PB3.frozen
  have r0 := PA3.cell0
  have r1 := PA3.cell1
  have rf := PA3.frozen
  have x1 := (((O1'.below b2).setBelow (a := ⟨w.heap.size + 1 + 1, 1, none⟩) L0 (.slice a2 n2 k2)).setBelow (a := ⟨w.heap.size + 1, 0, none⟩) (by simp only; omega) (.slice a1 n1 k1)).setBelow (a := ⟨w.heap.size + 1, 1, none⟩) (by simp only; omega) (.slice a2 n2 k2)
  have x2 := ((o2.setBelow (a := ⟨w.heap.size + 1 + 1, 1, none⟩) (by simp only; omega) (.slice a2 n2 k2)).setBelow (a := ⟨w.heap.size + 1, 0, none⟩) (by simp only; omega) (.slice a1 n1 k1)).setBelow (a := ⟨w.heap.size + 1, 1, none⟩) (by simp only; omega) (.slice a2 n2 k2)
  have S2 := (((S1.trans (b2.mono S1.size)).setCell (p := ⟨w.heap.size + 1 + 1, 1, none⟩) (by simp only; omega) (.slice a2 n2 k2)).setCell (p := ⟨w.heap.size + 1, 0, none⟩) (by simp only; omega) (.slice a1 n1 k1)).setCell (p := ⟨w.heap.size + 1, 1, none⟩) (by simp only; omega) (.slice a2 n2 k2)
  have X1 := Lib.hid (x1.mono (base' := w.heap.size) (by omega))
  have X2 := Lib.hid (x2.mono (base' := w.heap.size) (by omega))
  have S3 := Lib.hid S2
  have HAP := Lib.hid (And.intro hap hap')
  clear x1 x2 S2 hap hap' O1' o2 b2 PB2 PA2 PB3 PA3 S1 hV
  go_wp2_with fail
  refine bodyPost_ret (v := .agg #[.slice a1 n1 k1, .slice a2 n2 k2]) (by simp [results, Try.results64, go_sem, r0, r1]) rfl ⟨_, rfl, ⟨_, _, rfl, X1.out, X2.out, HAP.out.1, HAP.out.2⟩, S3.out⟩

/-- What the sizes of a path leave of a number. -/
def szOf (m : Int) (n1 n2 : Nat) : Int := if m < n1 then -1 else if m - n1 < n2 then -1 else m - n1 - n2

set_option maxHeartbeats 1000000 in
theorem szPath {w : World} {a1 a2 : Option Addr} {n1 c1 n2 c2 : Nat} {m : Int} (h1 : n1 ≤ maxLen) (h2 : n2 ≤ maxLen) (hm0 : 0 ≤ m) (hm1 : m ≤ 1048576) :
    Calls Try.prog 63 #[.agg #[.slice a1 n1 c1, .slice a2 n2 c2], .int .i64 m] w fun e w' => e = .returned (.int .i64 (szOf m n1 n2)) ∧ Below w.heap.size w w' := by
  by_cases q1 : m < (n1 : Int)
  · have HN := Lib.hid (show szOf m n1 n2 = -1 by unfold szOf; rw [if_pos q1])
    have S1 := Lib.hid (fun W : World => szInts (w := W) (a := a1) (cap := c1) h1 hm0 hm1)
    rw [if_pos q1] at S1
    clear q1
    go_enter Try.func63, Try.ntmps63
    go_wp2_with (go_at_call 95; refine (S1.out _).mono ?_; rintro e w' ⟨rfl, rfl⟩)
    go_ret
    exact ⟨ret_int HN.out.symm, below_alloc _ _⟩
  · have hm2 : 0 ≤ m - (n1 : Int) := by omega
    have S1 := Lib.hid (fun W : World => szInts (w := W) (a := a1) (cap := c1) h1 hm0 hm1)
    rw [if_neg q1] at S1
    have S2 := Lib.hid (fun W : World => szInts (w := W) (a := a2) (cap := c2) h2 hm2 (by omega))
    have hp1 : decide (m - (n1 : Int) < 0) = false := by simp; omega
    by_cases q2 : m - (n1 : Int) < (n2 : Int)
    · have HN := Lib.hid (show szOf m n1 n2 = -1 by unfold szOf; rw [if_neg q1, if_pos q2])
      rw [if_pos q2] at S2
      clear q1 q2
      obtain ⟨z, hz⟩ : ∃ z, z = m - (n1 : Int) := ⟨_, rfl⟩
      rw [← hz] at S1 S2 hp1
      clear hz hm2
      go_enter Try.func63, Try.ntmps63
      go_wp2_with fail
      refine (S1.out _).mono ?_
      rintro e w' ⟨rfl, rfl⟩
      go_wp2_with fail
      refine (S2.out _).mono ?_
      rintro e w' ⟨rfl, rfl⟩
      go_wp2_with fail
      go_ret
      exact ⟨ret_int HN.out.symm, below_alloc _ _⟩
    · have HN := Lib.hid (show szOf m n1 n2 = m - n1 - n2 by unfold szOf; rw [if_neg q1, if_neg q2])
      rw [if_neg q2] at S2
      have hp2 : decide (m - (n1 : Int) - (n2 : Int) < 0) = false := by simp; omega
      clear q1 q2
      obtain ⟨y, hy⟩ : ∃ y, y = m - (n1 : Int) - (n2 : Int) := ⟨_, rfl⟩
      rw [← hy] at S2 HN hp2
      clear hy
      obtain ⟨z, hz⟩ : ∃ z, z = m - (n1 : Int) := ⟨_, rfl⟩
      rw [← hz] at S1 S2 hp1
      clear hz hm2
      go_enter Try.func63, Try.ntmps63
      go_wp2_with fail
      refine (S1.out _).mono ?_
      rintro e w' ⟨rfl, rfl⟩
      go_wp2_with fail
      refine (S2.out _).mono ?_
      rintro e w' ⟨rfl, rfl⟩
      go_wp2_with fail
      go_ret
      exact ⟨ret_int HN.out.symm, below_alloc _ _⟩

set_option maxHeartbeats 1000000 in
theorem eqPaths2 {w : World} {u v : Value} {p : List Int × List Int} (h : PathV w u p) (h' : PathV w v p) :
    Calls Try.prog 66 #[u, v] w fun e w' => e = .returned (.bool true) ∧ Below w.heap.size w w' := by
  obtain ⟨u1, u2, rfl, i1, i2⟩ := h
  obtain ⟨v1, v2, rfl, j1, j2⟩ := h'
  have ea := below_alloc w (.cells #[u1, u2] 40)
  have pa := Pair.new w u1 u2 40
  obtain ⟨Wa, hWa⟩ : ∃ W, W = w.alloc (.cells #[u1, u2] 40) := ⟨_, rfl⟩
  have sa : Wa.heap.size = w.heap.size + 1 := by rw [hWa]; exact Go.Deep.nblk_alloc _ _
  rw [← hWa] at ea pa
  have eb := below_alloc Wa (.cells #[v1, v2] 40)
  have pb := Pair.new Wa v1 v2 40
  obtain ⟨W, hW⟩ : ∃ W, W = Wa.alloc (.cells #[v1, v2] 40) := ⟨_, rfl⟩
  rw [← hW] at eb pb
  rw [sa] at pb
  have E := Lib.hid (ea.trans (eb.mono ea.size))
  have PA := Lib.hid (pa.below eb)
  have PB := Lib.hid pb
  have HW := Lib.hid (show (w.alloc (.cells #[u1, u2] 40)).alloc (.cells #[v1, v2] 40) = W by rw [hW, hWa])
  have J1 := Lib.hid (And.intro (i1.below E.out) (j1.below E.out))
  have J2 := Lib.hid (And.intro (i2.below E.out) (j2.below E.out))
  clear ea eb pa pb sa hW hWa i1 i2 j1 j2
  go_enter Try.func66, Try.ntmps66
  go_wp2_with fail
  rw [HW.out]
  refine (eqInts J1.out.1 J1.out.2).mono ?_
  rintro e w1 ⟨rfl, b1⟩
  have c1 := (PA.out.below b1).cell1
  have c2 := (PB.out.below b1).cell1
  have B1 := Lib.hid b1
  clear b1
  go_wp2_with fail
  refine (eqInts (J2.out.1.below B1.out) (J2.out.2.below B1.out)).mono ?_
  rintro e w2 ⟨rfl, b2⟩
  go_wp2_with fail
  go_ret
  exact ⟨rfl, E.out.trans ((B1.out.trans (b2.mono B1.out.size)).mono E.out.size)⟩

/-- A path's lists lie in blocks from lo up to hi. -/
def PathIn (v : Value) (lo hi : Nat) : Prop := ∃ u1 u2, v = .agg #[u1, u2] ∧ (∀ b, u1.ownBlock = some b → lo ≤ b ∧ b < hi) ∧ ∀ b, u2.ownBlock = some b → lo ≤ b ∧ b < hi
theorem OwnPath.isIn {w : World} {base : Nat} {v : Value} {p : List Int × List Int} (h : OwnPath w base v p) : PathIn v base w.heap.size := by
  obtain ⟨u1, u2, rfl, h1, h2, _⟩ := h
  exact ⟨u1, u2, rfl, fun b e => World.ownsRow.lt h1 b e, fun b e => World.ownsRow.lt h2 b e⟩
theorem OwnPath.keptIn {w w' : World} {base lo hi a b : Nat} {v : Value} {p : List Int × List Int} (h : OwnPath w base v p) (g : GrownIn w w' lo hi) (hin : PathIn v a b) (ho : b ≤ lo ∨ hi ≤ a) : OwnPath w' base v p := by
  obtain ⟨u1, u2, rfl, h1, h2, h3⟩ := h
  obtain ⟨_, _, e, k1, k2⟩ := hin
  simp only [Value.agg.injEq, Array.mk.injEq, List.cons.injEq, and_true] at e
  obtain ⟨rfl, rfl⟩ := e
  exact ⟨u1, u2, rfl, h1.keptIn g (fun c e => by have := k1 c e; omega), h2.keptIn g (fun c e => by have := k2 c e; omega), h3⟩

end Go.Proofs.Ytedbfmmklmidjaa
