/-
  What the laws' helpers do with a line: sizes, a copy, a comparison. For at most 1048576 blocks and as many trains.
-/
import Derived.Test.YtpofkfcjnhoamaaLineL
namespace Go.Proofs.Ytpofkfcjnhoamaa
open Go.RowKit Go.Sort

set_option maxHeartbeats 1000000 in
theorem toLine {w : World} {v : Value} {l : Ln} (h : LineV w v l) : Calls Try.prog 32 #[v] w (MadeLine w l) := by
  obtain ⟨bs, ts⟩ := l
  obtain ⟨u1, u2, rfl, i1, i2⟩ := h
  have I1 := Lib.hid i1
  have I2 := Lib.hid i2
  clear i1 i2
  have p0 := Pair.new w u1 u2 57
  have e0 := below_alloc w (.cells #[u1, u2] 57)
  obtain ⟨Wa, hWa⟩ : ∃ W, W = w.alloc (.cells #[u1, u2] 57) := ⟨_, rfl⟩
  have ea := below_alloc Wa (.cells #[.slice none 0 0, .slice none 0 0] 26)
  have pa := Pair.new Wa (.slice none 0 0) (.slice none 0 0) 26
  have sa : Wa.heap.size = w.heap.size + 1 := by rw [hWa]; exact Go.Deep.nblk_alloc _ _
  rw [← hWa] at p0 e0
  obtain ⟨Wb, hWb⟩ : ∃ W, W = Wa.alloc (.cells #[.slice none 0 0, .slice none 0 0] 26) := ⟨_, rfl⟩
  have eb := below_alloc Wb (.cells #[.slice none 0 0, .slice none 0 0] 26)
  have pb := Pair.new Wb (.slice none 0 0) (.slice none 0 0) 26
  have sb : Wb.heap.size = w.heap.size + 1 + 1 := by rw [hWb, ← sa]; exact Go.Deep.nblk_alloc _ _
  rw [← hWb] at pa ea
  obtain ⟨W, hW⟩ : ∃ W, W = Wb.alloc (.cells #[.slice none 0 0, .slice none 0 0] 26) := ⟨_, rfl⟩
  rw [← hW] at pb eb
  rw [sb] at pb
  rw [sa] at pa
  have hE : Below w.heap.size w W := (e0.trans (ea.mono e0.size)).trans (eb.mono (Nat.le_trans e0.size ea.size))
  have p0 := (p0.below ea).below eb
  have pa := pa.below eb
  have HW := Lib.hid (show (((w.alloc (Obj.cells #[u1, u2] 57)).alloc (Obj.cells #[Value.slice none 0 0, Value.slice none 0 0] 26)).alloc (Obj.cells #[Value.slice none 0 0, Value.slice none 0 0] 26)) = W by rw [hW, hWb, hWa])
  clear hW hWb hWa e0 ea eb sa sb
  have P0 := Lib.hid p0
  have PA := Lib.hid pa
  have PB := Lib.hid pb
  clear p0 pa pb
  go_enter Try.func32, Try.ntmps32
  go_wp2_with fail
  rw [HW.out]
  refine (toBlocks (Rd.below I1.out hE)).mono ?_
  rintro e w1 ⟨v1, rfl, o1, b1⟩
  have PB1 := Lib.hid (PB.out.below b1)
  have PA1 := Lib.hid (PA.out.below b1)
  have P01 := Lib.hid (P0.out.below b1)
  obtain ⟨a1, k1, rfl⟩ := Ow.slice o1
  have O1 := Lib.hid o1
  have B1 := Lib.hid (hE.trans (b1.mono hE.size))
  have c0 := PB1.out.cell0
  have c1 := P01.out.cell1
  have f0 := PB1.out.frozen 0
  have z1 : W.heap.size ≤ w1.heap.size := b1.size
  have L1 := PB1.out.lt
  have L0 := PB.out.lt
  clear o1 b1
  go_wp2_with fail
  have S1 : Below w.heap.size w (w1.setCell ⟨w.heap.size + 1 + 1, 0, none⟩ (.slice a1 bs.length k1)) := B1.out.setCell (by simp only; omega) _
  have O1' := Ow.setBelow O1.out (a := ⟨w.heap.size + 1 + 1, 0, none⟩) L0 (.slice a1 bs.length k1)
  have PB2 := PB1.out.set0 (.slice a1 bs.length k1)
  have PA2 := PA1.out.other (a := ⟨w.heap.size + 1 + 1, 0, none⟩) (by simp only; omega) (.slice a1 bs.length k1)
  obtain ⟨V, hV⟩ : ∃ V, V = w1.setCell ⟨w.heap.size + 1 + 1, 0, none⟩ (.slice a1 bs.length k1) := ⟨_, rfl⟩
  have hVs : V.heap.size = w1.heap.size := by rw [hV]; exact Go.Deep.nblk_setCell _ _ _
  rw [← hV] at S1 O1' PB2 PA2
  rw [← hV]
  refine (toInts (I2.out.below S1)).mono ?_
  rintro e w2 ⟨v2, rfl, o2, b2⟩
  obtain ⟨a2, n2, k2, rfl⟩ := own_is_slice o2
  have PB3 := PB2.below b2
  have PA3 := PA2.below b2
  have hap := (apartO (lo := 0) (Ow.under O1') (Nat.le_refl _) o2.under rfl).1
  have hap' := (apartO (lo := 0) (Ow.under O1') (Nat.le_refl _) o2.under rfl).2
  have q0 := PB3.cell0
  have q1 := PB3.cell1
  have qf := PB3.frozen
  have r0 := PA3.cell0
  have r1 := PA3.cell1
  have rf := PA3.frozen
  have x1 := Ow.setBelow (Ow.setBelow (Ow.setBelow (Ow.below O1' b2) (a := ⟨w.heap.size + 1 + 1, 1, none⟩) L0 (.slice a2 n2 k2)) (a := ⟨w.heap.size + 1, 0, none⟩) (by simp only; omega) (.slice a1 bs.length k1)) (a := ⟨w.heap.size + 1, 1, none⟩) (by simp only; omega) (.slice a2 n2 k2)
  have x2 := ((o2.setBelow (a := ⟨w.heap.size + 1 + 1, 1, none⟩) (by simp only; omega) (.slice a2 n2 k2)).setBelow (a := ⟨w.heap.size + 1, 0, none⟩) (by simp only; omega) (.slice a1 bs.length k1)).setBelow (a := ⟨w.heap.size + 1, 1, none⟩) (by simp only; omega) (.slice a2 n2 k2)
  have S2 := (((S1.trans (b2.mono S1.size)).setCell (p := ⟨w.heap.size + 1 + 1, 1, none⟩) (by simp only; omega) (.slice a2 n2 k2)).setCell (p := ⟨w.heap.size + 1, 0, none⟩) (by simp only; omega) (.slice a1 bs.length k1)).setCell (p := ⟨w.heap.size + 1, 1, none⟩) (by simp only; omega) (.slice a2 n2 k2)
  have X1 := Lib.hid (Ow.mono x1 (base' := w.heap.size) (by omega))
  have X2 := Lib.hid (x2.mono (base' := w.heap.size) (by omega))
  have S3 := Lib.hid S2
  have HAP := Lib.hid (And.intro hap hap')
  clear x1 x2 S2 hap hap' O1' o2 b2 PB2 PA2 PB3 PA3 S1 hV
  go_wp2_with fail
  refine bodyPost_ret (v := .agg #[.slice a1 bs.length k1, .slice a2 n2 k2]) (by simp [results, Try.results32, go_sem, r0, r1]) rfl ⟨_, rfl, ⟨_, _, rfl, X1.out, X2.out, HAP.out.1, HAP.out.2⟩, S3.out⟩

/-- What the sizes of a line leave of a number. -/
def szOfL (m : Int) (n1 n2 : Nat) : Int := if m < n1 then -1 else if m - n1 < n2 then -1 else m - n1 - n2

set_option maxHeartbeats 1000000 in
theorem szLine {w : World} {a1 a2 : Option Addr} {n1 c1 n2 c2 : Nat} {m : Int} (h1 : n1 ≤ maxLen) (h2 : n2 ≤ maxLen) (hm0 : 0 ≤ m) (hm1 : m ≤ 1048576) :
    Calls Try.prog 31 #[.agg #[.slice a1 n1 c1, .slice a2 n2 c2], .int .i64 m] w fun e w' => e = .returned (.int .i64 (szOfL m n1 n2)) ∧ Below w.heap.size w w' := by
  by_cases q1 : m < (n1 : Int)
  · have HN := Lib.hid (show szOfL m n1 n2 = -1 by unfold szOfL; rw [if_pos q1])
    have S1 := Lib.hid (fun W : World => szBlocks (w := W) (a := a1) (cap := c1) h1 hm0 hm1)
    rw [if_pos q1] at S1
    clear q1
    go_enter Try.func31, Try.ntmps31
    go_wp2_with (go_at_call 62; refine (S1.out _).mono ?_; rintro e w' ⟨rfl, rfl⟩)
    go_ret
    exact ⟨ret_int HN.out.symm, below_alloc _ _⟩
  · have hm2 : 0 ≤ m - (n1 : Int) := by omega
    have S1 := Lib.hid (fun W : World => szBlocks (w := W) (a := a1) (cap := c1) h1 hm0 hm1)
    rw [if_neg q1] at S1
    have S2 := Lib.hid (fun W : World => szInts (w := W) (a := a2) (cap := c2) h2 hm2 (by omega))
    have hp1 : decide (m - (n1 : Int) < 0) = false := by simp; omega
    by_cases q2 : m - (n1 : Int) < (n2 : Int)
    · have HN := Lib.hid (show szOfL m n1 n2 = -1 by unfold szOfL; rw [if_neg q1, if_pos q2])
      rw [if_pos q2] at S2
      clear q1 q2
      obtain ⟨z, hz⟩ : ∃ z, z = m - (n1 : Int) := ⟨_, rfl⟩
      rw [← hz] at S1 S2 hp1
      clear hz hm2
      go_enter Try.func31, Try.ntmps31
      go_wp2_with fail
      refine (S1.out _).mono ?_
      rintro e w' ⟨rfl, rfl⟩
      go_wp2_with fail
      refine (S2.out _).mono ?_
      rintro e w' ⟨rfl, rfl⟩
      go_wp2_with fail
      go_ret
      exact ⟨ret_int HN.out.symm, below_alloc _ _⟩
    · have HN := Lib.hid (show szOfL m n1 n2 = m - n1 - n2 by unfold szOfL; rw [if_neg q1, if_neg q2])
      rw [if_neg q2] at S2
      have hp2 : decide (m - (n1 : Int) - (n2 : Int) < 0) = false := by simp; omega
      clear q1 q2
      obtain ⟨y, hy⟩ : ∃ y, y = m - (n1 : Int) - (n2 : Int) := ⟨_, rfl⟩
      rw [← hy] at S2 HN hp2
      clear hy
      obtain ⟨z, hz⟩ : ∃ z, z = m - (n1 : Int) := ⟨_, rfl⟩
      rw [← hz] at S1 S2 hp1
      clear hz hm2
      go_enter Try.func31, Try.ntmps31
      go_wp2_with fail
      refine (S1.out _).mono ?_
      rintro e w' ⟨rfl, rfl⟩
      go_wp2_with fail
      refine (S2.out _).mono ?_
      rintro e w' ⟨rfl, rfl⟩
      go_wp2_with fail
      go_ret
      exact ⟨ret_int HN.out.symm, below_alloc _ _⟩

/-- What the sizes of a line that came in leave; where that is not negative the line can be read. -/
theorem szLineK {w : World} {v : Value} {m : Int} (h : IsLineK w v) (hm0 : 0 ≤ m) (hm1 : m ≤ 1048576) :
    Calls Try.prog 31 #[v, .int .i64 m] w fun e w' => ∃ n : Int, e = .returned (.int .i64 n) ∧ n ≤ m ∧ (0 ≤ n → ∃ l, LineV w v l) ∧ Below w.heap.size w w' := by
  obtain ⟨a1, n1, c1, a2, n2, c2, z2, rfl, r1, r2⟩ := h
  refine (szLine (Nat.le_trans r1.le.1 r1.le.2) (Nat.le_trans (rowK_le r2).1 (rowK_le r2).2) hm0 hm1).mono ?_
  rintro e w' ⟨rfl, hb⟩
  refine ⟨_, rfl, ?_, fun hn => ?_, hb⟩
  · unfold szOfL; split
    · omega
    · split <;> omega
  · unfold szOfL at hn
    split at hn
    · omega
    · split at hn
      · omega
      · obtain ⟨bs, hbs⟩ := blks_of_k r1 (by omega)
        exact ⟨(bs, z2.take n2), _, _, rfl, hbs, ints_of_rowK r2 (by omega)⟩

theorem IsLineK.agg {w : World} {v : Value} (h : IsLineK w v) : ∃ u1 u2, v = .agg #[u1, u2] := by
  obtain ⟨a1, n1, c1, a2, n2, c2, z2, rfl, _⟩ := h
  exact ⟨_, _, rfl⟩

set_option maxHeartbeats 1000000 in
theorem eqLines2 {w : World} {u v : Value} {l : Ln} (h : LineV w u l) (h' : LineV w v l) :
    Calls Try.prog 34 #[u, v] w fun e w' => e = .returned (.bool true) ∧ Below w.heap.size w w' := by
  obtain ⟨u1, u2, rfl, i1, i2⟩ := h
  obtain ⟨v1, v2, rfl, j1, j2⟩ := h'
  have ea := below_alloc w (.cells #[u1, u2] 26)
  have pa := Pair.new w u1 u2 26
  obtain ⟨Wa, hWa⟩ : ∃ W, W = w.alloc (.cells #[u1, u2] 26) := ⟨_, rfl⟩
  have sa : Wa.heap.size = w.heap.size + 1 := by rw [hWa]; exact Go.Deep.nblk_alloc _ _
  rw [← hWa] at ea pa
  have eb := below_alloc Wa (.cells #[v1, v2] 26)
  have pb := Pair.new Wa v1 v2 26
  obtain ⟨W, hW⟩ : ∃ W, W = Wa.alloc (.cells #[v1, v2] 26) := ⟨_, rfl⟩
  rw [← hW] at eb pb
  rw [sa] at pb
  have E := Lib.hid (ea.trans (eb.mono ea.size))
  have PA := Lib.hid (pa.below eb)
  have PB := Lib.hid pb
  have HW := Lib.hid (show (w.alloc (.cells #[u1, u2] 26)).alloc (.cells #[v1, v2] 26) = W by rw [hW, hWa])
  have J1 := Lib.hid (And.intro (Rd.below i1 E.out) (Rd.below j1 E.out))
  have J2 := Lib.hid (And.intro (i2.below E.out) (j2.below E.out))
  clear ea eb pa pb sa hW hWa i1 i2 j1 j2
  go_enter Try.func34, Try.ntmps34
  go_wp2_with fail
  rw [HW.out]
  refine (eqBlocksS J1.out.1 J1.out.2).mono ?_
  rintro e w1 ⟨rfl, b1⟩
  have c1 := (PA.out.below b1).cell1
  have c2 := (PB.out.below b1).cell1
  have B1 := Lib.hid b1
  clear b1
  go_wp2_with fail
  refine (eqInts (J2.out.1.below B1.out) (J2.out.2.below B1.out)).mono ?_
  rintro e w2 ⟨rfl, b2⟩
  go_wp2_with fail
  go_ret
  exact ⟨rfl, E.out.trans ((B1.out.trans (b2.mono B1.out.size)).mono E.out.size)⟩

end Go.Proofs.Ytpofkfcjnhoamaa
