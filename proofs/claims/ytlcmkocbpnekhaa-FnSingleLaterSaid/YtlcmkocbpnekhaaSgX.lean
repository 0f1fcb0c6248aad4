/-
  Are two single lines equal, by the laws: for lines that are.
-/
import Derived.Test.YtlcmkocbpnekhaaSgL
import Derived.Test.YtlcmkocbpnekhaaSameL
import Derived.Deep.DeepCutAuto
namespace Go.Proofs.Ytlcmkocbpnekhaa
open Go.RowKit

set_option maxHeartbeats 1000000 in
theorem sameSingles {w : World} {u v : Value} {s : Sg} (h : SgV w u s) (h' : SgV w v s) :
    Calls Try.prog 22 #[u, v] w fun e w' => e = .returned (.bool true) ∧ Below w.heap.size w w' := by
  obtain ⟨xs, ys, r, hd⟩ := s
  obtain ⟨u1, u2, rfl, i1, i2⟩ := h
  obtain ⟨v1, v2, rfl, j1, j2⟩ := h'
  simp only at i1 i2 j1 j2 ⊢
  have ea := below_alloc w (.cells #[u1, u2, .int .i64 r, .int .i64 hd] 25)
  have pa := Quad.new w u1 u2 (.int .i64 r) (.int .i64 hd) 25
  obtain ⟨Wa, hWa⟩ : ∃ W, W = w.alloc (.cells #[u1, u2, .int .i64 r, .int .i64 hd] 25) := ⟨_, rfl⟩
  have sa : Wa.heap.size = w.heap.size + 1 := by rw [hWa]; exact Go.Deep.nblk_alloc _ _
  rw [← hWa] at ea pa
  have eb := below_alloc Wa (.cells #[v1, v2, .int .i64 r, .int .i64 hd] 25)
  have pb := Quad.new Wa v1 v2 (.int .i64 r) (.int .i64 hd) 25
  obtain ⟨W, hW⟩ : ∃ W, W = Wa.alloc (.cells #[v1, v2, .int .i64 r, .int .i64 hd] 25) := ⟨_, rfl⟩
  rw [← hW] at eb pb
  rw [sa] at pb
  have E := Lib.hid (ea.trans (eb.mono ea.size))
  have PA := Lib.hid (pa.below eb)
  have PB := Lib.hid pb
  have HW := Lib.hid (show (w.alloc (.cells #[u1, u2, .int .i64 r, .int .i64 hd] 25)).alloc (.cells #[v1, v2, .int .i64 r, .int .i64 hd] 25) = W by rw [hW, hWa])
  have SM1 := sameInts (i1.below E.out) (j1.below E.out)
  rw [decide_eq_true rfl] at SM1
  have SM1 := Lib.hid SM1
  have J2 := Lib.hid (And.intro (i2.below E.out) (j2.below E.out))
  have tr : (r == r) = true := by simp
  have th : (hd == hd) = true := by simp
  have c1 := PA.out.cell0
  have c2 := PB.out.cell0
  clear ea eb pa pb sa hW hWa i1 i2 j1 j2
  go_enter Try.func22, Try.ntmps22
  go_upto_region 1 with fail
  rw [HW.out]
  go_wp2_with fail
  refine SM1.out.mono ?_
  rintro e w1 ⟨rfl, b1⟩
  have d1 := (PA.out.below b1).cell1
  have d2 := (PB.out.below b1).cell1
  have SM2 := sameInts (J2.out.1.below b1) (J2.out.2.below b1)
  rw [decide_eq_true rfl] at SM2
  have SM2 := Lib.hid SM2
  have B1 := Lib.hid b1
  clear b1 c1 c2
  go_wp2_with fail
  refine SM2.out.mono ?_
  rintro e w2 ⟨rfl, b2⟩
  have g2 := ((PA.out.below B1.out).below b2).cell2
  have g3 := ((PA.out.below B1.out).below b2).cell3
  have k2 := ((PB.out.below B1.out).below b2).cell2
  have k3 := ((PB.out.below B1.out).below b2).cell3
  clear d1 d2
  go_wp2_with fail
  go_ret
  exact ⟨rfl, E.out.trans ((B1.out.trans (b2.mono B1.out.size)).mono E.out.size)⟩

end Go.Proofs.Ytlcmkocbpnekhaa
