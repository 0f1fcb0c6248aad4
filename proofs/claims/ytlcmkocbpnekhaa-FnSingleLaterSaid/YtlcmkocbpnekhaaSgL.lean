/-
  What the laws' helpers do with a single line: sizes, a copy, a comparison, the marking and the look at the marks. For lists of at most 1048576 integers.
-/
import Derived.Test.YtlcmkocbpnekhaaSgP
import Derived.Test.YtlcmkocbpnekhaaQuad
import Derived.Test.YtlcmkocbpnekhaaOpenG
import Derived.Test.YtlcmkocbpnekhaaSz
import Derived.Test.YtlcmkocbpnekhaaResults
import Derived.Test.YtlcmkocbpnekhaaGrown
namespace Go.Proofs.Ytlcmkocbpnekhaa
open Go.RowKit Go.Sort

/-- The value v can be read in w as the single line s. -/
def SgV (w : World) (v : Value) (s : Sg) : Prop := ∃ u1 u2, v = .agg #[u1, u2, .int .i64 s.run, .int .i64 s.head] ∧ Ints w u1 s.A ∧ Ints w u2 s.B
theorem SgV.below {w w' : World} {v : Value} {s : Sg} (h : SgV w v s) (hb : Below w.heap.size w w') : SgV w' v s := by
  obtain ⟨u1, u2, rfl, h1, h2⟩ := h
  exact ⟨u1, u2, rfl, h1.below hb, h2.below hb⟩
theorem SgV.len {w : World} {v : Value} {s : Sg} (h : SgV w v s) : s.A.length ≤ 1048576 ∧ s.B.length ≤ 1048576 := by
  obtain ⟨u1, u2, rfl, h1, h2⟩ := h
  exact ⟨h1.len, h2.len⟩
theorem SgV.form {w : World} {v : Value} {s : Sg} (h : SgV w v s) : ∃ a n c a' n' c', v = .agg #[.slice a n c, .slice a' n' c', .int .i64 s.run, .int .i64 s.head] ∧ Ints w (.slice a n c) s.A ∧ Ints w (.slice a' n' c') s.B := by
  obtain ⟨u1, u2, rfl, i1, i2⟩ := h
  obtain ⟨a, c, rfl, q1⟩ := i1
  obtain ⟨a', c', rfl, q2⟩ := i2
  exact ⟨_, _, _, _, _, _, rfl, ⟨a, c, rfl, q1⟩, ⟨a', c', rfl, q2⟩⟩

/-- The value v is a single line of the call's own. -/
def OwnSg (w : World) (base : Nat) (v : Value) (s : Sg) : Prop :=
  ∃ u1 u2, v = .agg #[u1, u2, .int .i64 s.run, .int .i64 s.head] ∧ OwnI w base u1 s.A ∧ OwnI w base u2 s.B ∧ (u1.ownBlock = none ∨ u1.ownBlock ≠ u2.ownBlock) ∧ (u2.ownBlock = none ∨ u2.ownBlock ≠ u1.ownBlock)
theorem OwnSg.below {w w' : World} {base : Nat} {v : Value} {s : Sg} (h : OwnSg w base v s) (hb : Below w.heap.size w w') : OwnSg w' base v s := by
  obtain ⟨u1, u2, rfl, h1, h2, h3⟩ := h
  exact ⟨u1, u2, rfl, h1.below hb, h2.below hb, h3⟩
theorem OwnSg.mono {w : World} {base base' : Nat} {v : Value} {s : Sg} (h : OwnSg w base v s) (hb : base' ≤ base) : OwnSg w base' v s := by
  obtain ⟨u1, u2, rfl, h1, h2, h3⟩ := h
  exact ⟨u1, u2, rfl, h1.mono hb, h2.mono hb, h3⟩
theorem OwnSg.sgV {w : World} {base : Nat} {v : Value} {s : Sg} (h : OwnSg w base v s) (l1 : s.A.length ≤ 1048576) (l2 : s.B.length ≤ 1048576) : SgV w v s := by
  obtain ⟨u1, u2, rfl, h1, h2, h3⟩ := h
  exact ⟨u1, u2, rfl, h1.ints l1, h2.ints l2⟩
/-- A call that hands back a new single line, and writes nothing that was there. -/
def MadeSg (w : World) (s : Sg) (e : Ending) (w' : World) : Prop :=
  ∃ v, e = .returned v ∧ OwnSg w' w.heap.size v s ∧ Below w.heap.size w w'
theorem own_is_slice {w : World} {base : Nat} {v : Value} {xs : List Int} (h : OwnI w base v xs) : ∃ a n c, v = .slice a n c := by
  rcases h.shape with ⟨rfl, _⟩ | ⟨g, c, rfl, _⟩
  · exact ⟨_, _, _, rfl⟩
  · exact ⟨_, _, _, rfl⟩
theorem OwnSg.form {w : World} {base : Nat} {v : Value} {s : Sg} (h : OwnSg w base v s) : ∃ a n c a' n' c', v = .agg #[.slice a n c, .slice a' n' c', .int .i64 s.run, .int .i64 s.head] := by
  obtain ⟨u1, u2, rfl, h1, h2, _⟩ := h
  obtain ⟨a, n, c, rfl⟩ := own_is_slice h1
  obtain ⟨a', n', c', rfl⟩ := own_is_slice h2
  exact ⟨_, _, _, _, _, _, rfl⟩

theorem OwnI.setBelow {w : World} {base : Nat} {v : Value} {xs : List Int} (h : OwnI w base v xs) {a : Addr} (ha : a.block < base) (u : Value) : OwnI (w.setCell a u) base v xs := ownsRow_setCell_below h ha u

set_option maxHeartbeats 2000000 in
theorem toSingle {w : World} {v : Value} {s : Sg} (h : SgV w v s) : Calls Try.prog 34 #[v] w (MadeSg w s) := by
  obtain ⟨xs, ys, r, hd⟩ := s
  obtain ⟨u1, u2, rfl, i1, i2⟩ := h
  simp only at i1 i2 ⊢
  have I1 := Lib.hid i1
  have I2 := Lib.hid i2
  clear i1 i2
  have p0 := Quad.new w u1 u2 (.int .i64 r) (.int .i64 hd) 44
  have e0 := below_alloc w (.cells #[u1, u2, .int .i64 r, .int .i64 hd] 44)
  obtain ⟨Wa, hWa⟩ : ∃ W, W = w.alloc (.cells #[u1, u2, .int .i64 r, .int .i64 hd] 44) := ⟨_, rfl⟩
  have ea := below_alloc Wa (.cells #[.slice none 0 0, .slice none 0 0, .int .i64 0, .int .i64 0] 25)
  have pa := Quad.new Wa (.slice none 0 0) (.slice none 0 0) (.int .i64 0) (.int .i64 0) 25
  have sa : Wa.heap.size = w.heap.size + 1 := by rw [hWa]; exact Go.Deep.nblk_alloc _ _
  rw [← hWa] at p0 e0
  obtain ⟨Wb, hWb⟩ : ∃ W, W = Wa.alloc (.cells #[.slice none 0 0, .slice none 0 0, .int .i64 0, .int .i64 0] 25) := ⟨_, rfl⟩
  have eb := below_alloc Wb (.cells #[.slice none 0 0, .slice none 0 0, .int .i64 0, .int .i64 0] 25)
  have pb := Quad.new Wb (.slice none 0 0) (.slice none 0 0) (.int .i64 0) (.int .i64 0) 25
  have sb : Wb.heap.size = w.heap.size + 1 + 1 := by rw [hWb, ← sa]; exact Go.Deep.nblk_alloc _ _
  rw [← hWb] at pa ea
  obtain ⟨W, hW⟩ : ∃ W, W = Wb.alloc (.cells #[.slice none 0 0, .slice none 0 0, .int .i64 0, .int .i64 0] 25) := ⟨_, rfl⟩
  rw [← hW] at pb eb
  rw [sb] at pb
  rw [sa] at pa
  have hE : Below w.heap.size w W := (e0.trans (ea.mono e0.size)).trans (eb.mono (Nat.le_trans e0.size ea.size))
  have p0 := (p0.below ea).below eb
  have pa := pa.below eb
  have HW := Lib.hid (show (((w.alloc (Obj.cells #[u1, u2, .int .i64 r, .int .i64 hd] 44)).alloc (Obj.cells #[Value.slice none 0 0, Value.slice none 0 0, .int .i64 0, .int .i64 0] 25)).alloc (Obj.cells #[Value.slice none 0 0, Value.slice none 0 0, .int .i64 0, .int .i64 0] 25)) = W by rw [hW, hWb, hWa])
  clear hW hWb hWa e0 ea eb sa sb
  have P0 := Lib.hid p0
  have PA := Lib.hid pa
  have PB := Lib.hid pb
  clear p0 pa pb
  go_enter Try.func34, Try.ntmps34
  go_wp2_with fail
  rw [HW.out]
  refine (toInts (I1.out.below hE)).mono ?_
  rintro e w1 ⟨v1, rfl, o1, b1⟩
  have PB1 := Lib.hid (PB.out.below b1)
  have PA1 := Lib.hid (PA.out.below b1)
  have P01 := Lib.hid (P0.out.below b1)
  obtain ⟨a1, n1, k1, rfl⟩ := own_is_slice o1
  have O1 := Lib.hid o1
  have B1 := Lib.hid (hE.trans (b1.mono hE.size))
  have c0 := PB1.out.cell0
  have c1 := P01.out.cell1
  have f0 := PB1.out.frozen 0
  have z1 : W.heap.size ≤ w1.heap.size := b1.size
  have L1 := PB1.out.lt
  have L0 := PB.out.lt
  clear o1 b1
  go_wp2_with fail
  have S1 : Below w.heap.size w (w1.setCell ⟨w.heap.size + 1 + 1, 0, none⟩ (.slice a1 n1 k1)) := B1.out.setCell (by simp only; omega) _
  have O1' := O1.out.setBelow (a := ⟨w.heap.size + 1 + 1, 0, none⟩) L0 (.slice a1 n1 k1)
  have PB2 := PB1.out.set0 (.slice a1 n1 k1)
  have P02 := P01.out.other (a := ⟨w.heap.size + 1 + 1, 0, none⟩) (by simp only; omega) (.slice a1 n1 k1)
  have PA2 := PA1.out.other (a := ⟨w.heap.size + 1 + 1, 0, none⟩) (by simp only; omega) (.slice a1 n1 k1)
  obtain ⟨V, hV⟩ : ∃ V, V = w1.setCell ⟨w.heap.size + 1 + 1, 0, none⟩ (.slice a1 n1 k1) := ⟨_, rfl⟩
  have hVs : V.heap.size = w1.heap.size := by rw [hV]; exact Go.Deep.nblk_setCell _ _ _
  rw [← hV] at S1 O1' PB2 PA2 P02
  rw [← hV]
  refine (toInts (I2.out.below S1)).mono ?_
  rintro e w2 ⟨v2, rfl, o2, b2⟩
  obtain ⟨a2, n2, k2, rfl⟩ := own_is_slice o2
  have PB3 := PB2.below b2
  have PA3 := PA2.below b2
  have P03 := P02.below b2
  have hap := apart O1' (Nat.le_refl _) o2
  have hap' := apart' O1' (Nat.le_refl _) o2
  have q0 := PB3.cell0
  have q1 := PB3.cell1
  have q2 := PB3.cell2
  have q3 := PB3.cell3
  have qf := PB3.frozen
  have r0 := PA3.cell0
  have r1 := PA3.cell1
  have r2 := PA3.cell2
  have r3 := PA3.cell3
  have rf := PA3.frozen
  have t2 := P03.cell2
  have t3 := P03.cell3
  have b2s := b2.size
  have x1 := (((((((O1'.below b2).setBelow (a := ⟨w.heap.size + 1 + 1, 1, none⟩) L0 (.slice a2 n2 k2)).setBelow (a := ⟨w.heap.size + 1 + 1, 2, none⟩) L0 (.int .i64 r)).setBelow (a := ⟨w.heap.size + 1 + 1, 3, none⟩) L0 (.int .i64 hd)).setBelow (a := ⟨w.heap.size + 1, 0, none⟩) (by simp only; omega) (.slice a1 n1 k1)).setBelow (a := ⟨w.heap.size + 1, 1, none⟩) (by simp only; omega) (.slice a2 n2 k2)).setBelow (a := ⟨w.heap.size + 1, 2, none⟩) (by simp only; omega) (.int .i64 r)).setBelow (a := ⟨w.heap.size + 1, 3, none⟩) (by simp only; omega) (.int .i64 hd)
  have x2 := ((((((o2.setBelow (a := ⟨w.heap.size + 1 + 1, 1, none⟩) (by simp only; omega) (.slice a2 n2 k2)).setBelow (a := ⟨w.heap.size + 1 + 1, 2, none⟩) (by simp only; omega) (.int .i64 r)).setBelow (a := ⟨w.heap.size + 1 + 1, 3, none⟩) (by simp only; omega) (.int .i64 hd)).setBelow (a := ⟨w.heap.size + 1, 0, none⟩) (by simp only; omega) (.slice a1 n1 k1)).setBelow (a := ⟨w.heap.size + 1, 1, none⟩) (by simp only; omega) (.slice a2 n2 k2)).setBelow (a := ⟨w.heap.size + 1, 2, none⟩) (by simp only; omega) (.int .i64 r)).setBelow (a := ⟨w.heap.size + 1, 3, none⟩) (by simp only; omega) (.int .i64 hd)
  have S2 := stored4 ((((S1.trans (b2.mono S1.size)).setCell (p := ⟨w.heap.size + 1 + 1, 1, none⟩) (by simp only; omega) (.slice a2 n2 k2)).setCell (p := ⟨w.heap.size + 1 + 1, 2, none⟩) (by simp only; omega) (.int .i64 r)).setCell (p := ⟨w.heap.size + 1 + 1, 3, none⟩) (by simp only; omega) (.int .i64 hd)) (b := w.heap.size + 1) (by omega) (.slice a1 n1 k1) (.slice a2 n2 k2) (.int .i64 r) (.int .i64 hd)
  have X1 := Lib.hid (x1.mono (base' := w.heap.size) (by omega))
  have X2 := Lib.hid (x2.mono (base' := w.heap.size) (by omega))
  have S3 := Lib.hid S2
  have HAP := Lib.hid (And.intro hap hap')
  clear x1 x2 S2 hap hap' O1' o2 b2 PB2 PA2 PB3 PA3 S1 hV P02 P03
  go_wp2_with fail
  refine bodyPost_ret (v := .agg #[.slice a1 n1 k1, .slice a2 n2 k2, .int .i64 r, .int .i64 hd]) (by simp [results, Try.results34, go_sem, r0, r1, r2, r3]) rfl ⟨_, rfl, ⟨_, _, rfl, X1.out, X2.out, HAP.out.1, HAP.out.2⟩, S3.out⟩

/-- What the sizes of a single line leave of a number. -/
def szOf (m : Int) (n1 n2 : Nat) : Int := if m < n1 then -1 else if m - n1 < n2 then -1 else m - n1 - n2

set_option maxHeartbeats 1000000 in
theorem szSingle {w : World} {a1 a2 : Option Addr} {n1 c1 n2 c2 : Nat} {r hd m : Int} (h1 : n1 ≤ maxLen) (h2 : n2 ≤ maxLen) (hm0 : 0 ≤ m) (hm1 : m ≤ 1048576) :
    Calls Try.prog 33 #[.agg #[.slice a1 n1 c1, .slice a2 n2 c2, .int .i64 r, .int .i64 hd], .int .i64 m] w fun e w' => e = .returned (.int .i64 (szOf m n1 n2)) ∧ Below w.heap.size w w' := by
  by_cases q1 : m < (n1 : Int)
  · have HN := Lib.hid (show szOf m n1 n2 = -1 by unfold szOf; rw [if_pos q1])
    have S1 := Lib.hid (fun W : World => szInts (w := W) (a := a1) (cap := c1) h1 hm0 hm1)
    rw [if_pos q1] at S1
    clear q1
    go_enter Try.func33, Try.ntmps33
    go_wp2_with (go_at_call 61; refine (S1.out _).mono ?_; rintro e w' ⟨rfl, rfl⟩)
    go_ret
    exact ⟨ret_int HN.out.symm, below_alloc _ _⟩
  · have hm2 : 0 ≤ m - (n1 : Int) := by omega
    have S1 := Lib.hid (fun W : World => szInts (w := W) (a := a1) (cap := c1) h1 hm0 hm1)
    rw [if_neg q1] at S1
    have S2 := Lib.hid (fun W : World => szInts (w := W) (a := a2) (cap := c2) h2 hm2 (by omega))
    have hp1 : decide (m - (n1 : Int) < 0) = false := by simp; omega
    by_cases q2 : m - (n1 : Int) < (n2 : Int)
    · have HN := Lib.hid (show szOf m n1 n2 = -1 by unfold szOf; rw [if_neg q1, if_pos q2])
      rw [if_pos q2] at S2
      clear q1 q2
      obtain ⟨z, hz⟩ : ∃ z, z = m - (n1 : Int) := ⟨_, rfl⟩
      rw [← hz] at S1 S2 hp1
      clear hz hm2
      go_enter Try.func33, Try.ntmps33
      go_wp2_with fail
      refine (S1.out _).mono ?_
      rintro e w' ⟨rfl, rfl⟩
      go_wp2_with fail
      refine (S2.out _).mono ?_
      rintro e w' ⟨rfl, rfl⟩
      go_wp2_with fail
      go_ret
      exact ⟨ret_int HN.out.symm, below_alloc _ _⟩
    · have HN := Lib.hid (show szOf m n1 n2 = m - n1 - n2 by unfold szOf; rw [if_neg q1, if_neg q2])
      rw [if_neg q2] at S2
      have hp2 : decide (m - (n1 : Int) - (n2 : Int) < 0) = false := by simp; omega
      clear q1 q2
      obtain ⟨y, hy⟩ : ∃ y, y = m - (n1 : Int) - (n2 : Int) := ⟨_, rfl⟩
      rw [← hy] at S2 HN hp2
      clear hy
      obtain ⟨z, hz⟩ : ∃ z, z = m - (n1 : Int) := ⟨_, rfl⟩
      rw [← hz] at S1 S2 hp1
      clear hz hm2
      go_enter Try.func33, Try.ntmps33
      go_wp2_with fail
      refine (S1.out _).mono ?_
      rintro e w' ⟨rfl, rfl⟩
      go_wp2_with fail
      refine (S2.out _).mono ?_
      rintro e w' ⟨rfl, rfl⟩
      go_wp2_with fail
      go_ret
      exact ⟨ret_int HN.out.symm, below_alloc _ _⟩

/-- What the sizes of a single line that came in leave; where that is not negative the line can be read. -/
theorem szSingK {w : World} {v : Value} {m : Int} (h : IsSingK w v) (hm0 : 0 ≤ m) (hm1 : m ≤ 1048576) :
    Calls Try.prog 33 #[v, .int .i64 m] w fun e w' => ∃ n : Int, e = .returned (.int .i64 n) ∧ n ≤ m ∧ (0 ≤ n → ∃ s, SgV w v s ∧ fits64 s.run ∧ fits64 s.head) ∧ Below w.heap.size w w' := by
  obtain ⟨a1, a2, n1, c1, n2, c2, z1, z2, r, hd, rfl, r1, r2, f1, f2⟩ := h
  refine (szSingle (Nat.le_trans r1.le.1 r1.le.2) (Nat.le_trans r2.le.1 r2.le.2) hm0 hm1).mono ?_
  rintro e w' ⟨rfl, hb⟩
  refine ⟨_, rfl, ?_, fun hn => ?_, hb⟩
  · unfold szOf; split
    · omega
    · split <;> omega
  · unfold szOf at hn
    split at hn
    · omega
    · split at hn
      · omega
      · exact ⟨⟨z1.take n1, z2.take n2, r, hd⟩, ⟨_, _, rfl, ints_of_rowK r1 (by omega), ints_of_rowK r2 (by omega)⟩, f1, f2⟩

set_option maxHeartbeats 1000000 in
theorem eqSingles2 {w : World} {u v : Value} {s : Sg} (h : SgV w u s) (h' : SgV w v s) :
    Calls Try.prog 35 #[u, v] w fun e w' => e = .returned (.bool true) ∧ Below w.heap.size w w' := by
  obtain ⟨xs, ys, r, hd⟩ := s
  obtain ⟨u1, u2, rfl, i1, i2⟩ := h
  obtain ⟨v1, v2, rfl, j1, j2⟩ := h'
  simp only at i1 i2 j1 j2 ⊢
  have ea := below_alloc w (.cells #[u1, u2, .int .i64 r, .int .i64 hd] 25)
  have pa := Quad.new w u1 u2 (.int .i64 r) (.int .i64 hd) 25
  obtain ⟨Wa, hWa⟩ : ∃ W, W = w.alloc (.cells #[u1, u2, .int .i64 r, .int .i64 hd] 25) := ⟨_, rfl⟩
  have sa : Wa.heap.size = w.heap.size + 1 := by rw [hWa]; exact Go.Deep.nblk_alloc _ _
  rw [← hWa] at ea pa
  have eb := below_alloc Wa (.cells #[v1, v2, .int .i64 r, .int .i64 hd] 25)
  have pb := Quad.new Wa v1 v2 (.int .i64 r) (.int .i64 hd) 25
  obtain ⟨W, hW⟩ : ∃ W, W = Wa.alloc (.cells #[v1, v2, .int .i64 r, .int .i64 hd] 25) := ⟨_, rfl⟩
  rw [← hW] at eb pb
  rw [sa] at pb
  have E := Lib.hid (ea.trans (eb.mono ea.size))
  have PA := Lib.hid (pa.below eb)
  have PB := Lib.hid pb
  have HW := Lib.hid (show (w.alloc (.cells #[u1, u2, .int .i64 r, .int .i64 hd] 25)).alloc (.cells #[v1, v2, .int .i64 r, .int .i64 hd] 25) = W by rw [hW, hWa])
  have J1 := Lib.hid (And.intro (i1.below E.out) (j1.below E.out))
  have J2 := Lib.hid (And.intro (i2.below E.out) (j2.below E.out))
  have tr : (r != r) = false := by simp
  have th : (hd != hd) = false := by simp
  clear ea eb pa pb sa hW hWa i1 i2 j1 j2
  go_enter Try.func35, Try.ntmps35
  go_wp2_with fail
  rw [HW.out]
  refine (eqInts J1.out.1 J1.out.2).mono ?_
  rintro e w1 ⟨rfl, b1⟩
  have c1 := (PA.out.below b1).cell1
  have c2 := (PB.out.below b1).cell1
  have B1 := Lib.hid b1
  clear b1
  go_wp2_with fail
  refine (eqInts (J2.out.1.below B1.out) (J2.out.2.below B1.out)).mono ?_
  rintro e w2 ⟨rfl, b2⟩
  have d2 := ((PA.out.below B1.out).below b2).cell2
  have d3 := ((PA.out.below B1.out).below b2).cell3
  have g2 := ((PB.out.below B1.out).below b2).cell2
  have g3 := ((PB.out.below B1.out).below b2).cell3
  clear c1 c2
  go_wp2_with fail
  go_ret
  exact ⟨rfl, E.out.trans ((B1.out.trans (b2.mono B1.out.size)).mono E.out.size)⟩

/-- A single line's lists lie in blocks from lo up to hi. -/
def SgIn (v : Value) (lo hi : Nat) : Prop := ∃ u1 u2 u3 u4, v = .agg #[u1, u2, u3, u4] ∧ (∀ b, u1.ownBlock = some b → lo ≤ b ∧ b < hi) ∧ ∀ b, u2.ownBlock = some b → lo ≤ b ∧ b < hi
theorem OwnSg.isIn {w : World} {base : Nat} {v : Value} {s : Sg} (h : OwnSg w base v s) : SgIn v base w.heap.size := by
  obtain ⟨u1, u2, rfl, h1, h2, _⟩ := h
  exact ⟨u1, u2, _, _, rfl, fun b e => World.ownsRow.lt h1 b e, fun b e => World.ownsRow.lt h2 b e⟩
theorem OwnSg.keptIn {w w' : World} {base lo hi a b : Nat} {v : Value} {s : Sg} (h : OwnSg w base v s) (g : GrownIn w w' lo hi) (hin : SgIn v a b) (ho : b ≤ lo ∨ hi ≤ a) : OwnSg w' base v s := by
  obtain ⟨u1, u2, rfl, h1, h2, h3⟩ := h
  obtain ⟨_, _, _, _, e, k1, k2⟩ := hin
  simp only [Value.agg.injEq, Array.mk.injEq, List.cons.injEq, and_true] at e
  obtain ⟨rfl, rfl, rfl, rfl⟩ := e
  exact ⟨u1, u2, rfl, h1.keptIn g (fun c e => by have := k1 c e; omega), h2.keptIn g (fun c e => by have := k2 c e; omega), h3⟩

set_option maxHeartbeats 1000000 in
theorem markSingle {w : World} {base lo hi : Nat} {v : Value} {s : Sg} {k : Int} (h : OwnSg w base v s) (hin : SgIn v lo hi) (l1 : s.A.length ≤ 1048576) (l2 : s.B.length ≤ 1048576) (hk0 : 0 ≤ k) (hk : k ≤ 1099511627776) :
    Calls Try.prog 36 #[v, .int .i64 k] w fun e w' => e = .returned (.int .i64 (k + s.A.length + s.B.length)) ∧ OwnSg w' base v ⟨marks k s.A.length, marks (k + s.A.length) s.B.length, s.run, s.head⟩ ∧ GrownIn w w' lo hi := by
  obtain ⟨xs, ys, r, hd⟩ := s
  obtain ⟨u1, u2, rfl, h1, h2, h3, h4⟩ := h
  obtain ⟨_, _, _, _, e, k1, k2⟩ := hin
  simp only [Value.agg.injEq, Array.mk.injEq, List.cons.injEq, and_true] at e
  obtain ⟨rfl, rfl, rfl, rfl⟩ := e
  simp only at l1 l2 h1 h2 ⊢
  have ea := below_alloc w (.cells #[u1, u2, .int .i64 r, .int .i64 hd] 25)
  have pa := Quad.new w u1 u2 (.int .i64 r) (.int .i64 hd) 25
  obtain ⟨W, hW⟩ : ∃ W, W = w.alloc (.cells #[u1, u2, .int .i64 r, .int .i64 hd] 25) := ⟨_, rfl⟩
  rw [← hW] at ea pa
  have hl1 := World.ownsRow.lt h1
  have E := Lib.hid ea
  have PA := Lib.hid pa
  have HW := Lib.hid hW.symm
  have H1 := Lib.hid (h1.below ea)
  have H2 := Lib.hid (h2.below ea)
  have AP := Lib.hid (And.intro h3 h4)
  have K := Lib.hid (And.intro k1 k2)
  have HL := Lib.hid hl1
  clear ea pa hW h1 h2 h3 h4 k1 k2 hl1
  go_enter Try.func36, Try.ntmps36
  go_wp2_with fail
  rw [HW.out]
  refine (markInts H1.out l1 hk0 (by omega)).mono ?_
  rintro e w1 ⟨rfl, o1, g1⟩
  have c1 := (PA.out.of (g1.block _ PA.out.lt (fun e => by have := (HL.out _ e.symm).2; omega))).cell1
  have O1 := Lib.hid o1
  have G1 := Lib.hid g1
  have O2 := Lib.hid (H2.out.kept g1 AP.out.2)
  clear o1 g1
  go_wp2_with fail
  refine (markInts O2.out l2 (by omega) (by omega)).mono ?_
  rintro e w2 ⟨rfl, o2, g2⟩
  have O1' := Lib.hid (O1.out.kept g2 AP.out.1)
  have G2 := Lib.hid g2
  have O2' := Lib.hid o2
  clear o2 g2
  go_wp2_with fail
  go_ret
  exact ⟨rfl, ⟨u1, u2, rfl, O1'.out, O2'.out, AP.out.1, AP.out.2⟩, ((GrownIn.of_below E.out _ _).step G1.out K.out.1).step G2.out K.out.2⟩

set_option maxHeartbeats 1000000 in
theorem heldSingle {w : World} {v : Value} {s : Sg} {k : Int} (h : SgV w v s) (hm1 : ∀ i, i < s.A.length → s.A.getD i 0 = k + i) (hm2 : ∀ i, i < s.B.length → s.B.getD i 0 = k + s.A.length + i) (hk0 : 0 ≤ k) (hk : k ≤ 1099511627776) :
    Calls Try.prog 37 #[v, .int .i64 k] w fun e w' => e = .returned (.int .i64 (k + s.A.length + s.B.length)) ∧ Below w.heap.size w w' := by
  obtain ⟨xs, ys, r, hd⟩ := s
  obtain ⟨u1, u2, rfl, i1, i2⟩ := h
  simp only at hm1 hm2 i1 i2 ⊢
  have q1 := i1.len
  have q2 := i2.len
  have HM1 := Lib.hid hm1
  have HM2 := Lib.hid hm2
  have J1 := Lib.hid (i1.below (below_alloc w (.cells #[u1, u2, .int .i64 r, .int .i64 hd] 25)))
  have J2 := Lib.hid (i2.below (below_alloc w (.cells #[u1, u2, .int .i64 r, .int .i64 hd] 25)))
  have t1 : decide (k + (xs.length : Int) < 0) = false := by simp; omega
  have t2 : decide (k + (xs.length : Int) + (ys.length : Int) < 0) = false := by simp; omega
  clear hm1 hm2 i1 i2
  go_enter Try.func37, Try.ntmps37
  go_wp2_with fail
  refine (heldInts J1.out HM1.out hk0 (by omega)).mono ?_
  rintro e w' ⟨rfl, rfl⟩
  go_wp2_with fail
  refine (heldInts J2.out HM2.out (by omega) (by omega)).mono ?_
  rintro e w' ⟨rfl, rfl⟩
  go_wp2_with fail
  go_ret
  exact ⟨rfl, below_alloc _ _⟩

end Go.Proofs.Ytlcmkocbpnekhaa
