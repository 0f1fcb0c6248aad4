/-
  For every input the law 'FnExactLineStep' returns true, and each of its arguments reads behind the call as it read before. Conditions: none beyond those of the row.
-/
import Derived.Test.YtoapfcnpmpggcabRows
import Derived.WalkKit
import Derived.ProofKit
import Derived.OpenShut
import Derived.ShutString
import Derived.ChangeOld
import Derived.Below
import Derived.Deep.Matrix
import Derived.Test.YtoapfcnpmpggcabIo
import Derived.Test.YtoapfcnpmpggcabMadeR
import Derived.Test.YtoapfcnpmpggcabOpenM
import Derived.Test.YtoapfcnpmpggcabMvsL
import Derived.Deep.DeepCutAuto
import Derived.Deep.RegionWith
namespace Go.Proofs.Ytoapfcnpmpggcab
open Go.RowKit

set_option maxRecDepth 100000 in
set_option maxHeartbeats 8000000 in
theorem walk_FnExactLineStep (v0 : Value) (v1 : Value) (w : World) (w0 : IsLineK w v0) (w1 : IsMoveK w v1) :
    Calls Try.prog 5 #[v0, v1] w fun e w' => e = .returned (.bool true) ∧ Below w.heap.size w w' := by
  obtain ⟨u1, u2, rfl⟩ := w0.agg
  obtain ⟨⟨s, S⟩, rfl, hS⟩ := w1
  obtain ⟨W, hW⟩ : ∃ X, X = (w.alloc (.cells #[u1, u2] 25)).alloc (.cells #[.int .i64 s, .string S] 39) := ⟨_, rfl⟩
  obtain ⟨p0, p1, q, s0⟩ := two_pairs w _ _ _ _ _ _ W hW
  have hk := w0.below q
  have HW := Lib.hid hW.symm
  have PL := Lib.hid p0
  have PM := Lib.hid p1
  have K0 := p0.cell0
  have K1 := p0.cell1
  clear hW p0 p1 w0 s0
  go_enter Try.func5, Try.ntmps5
  go_upto_region 1 with fail
  rw [HW.out]
  go_wp2_with fail
  refine (szLineK hk (by omega) (by omega)).mono ?_
  rintro e wa ⟨n, rfl, hn1, hn, ba⟩
  rcases Int.lt_or_le n 0 with hneg | hpos
  · have hd : decide (n < 0) = true := decide_eq_true hneg
    clear hn hk
    go_wp2_with fail
    go_ret
    exact ⟨rfl, chain q ba⟩
  have hd : decide (n < 0) = false := by simpa using hpos
  obtain ⟨l, h⟩ := hn hpos
  clear hn hk K0 K1
  have M0 := (PM.out.below ba).cell0
  have M1 := (PM.out.below ba).cell1
  have SZ := Lib.hid (szMove (s, S) hS hpos hn1)
  by_cases hz : n < (S.size : Int)
  · rw [if_pos hz] at SZ
    go_wp2_with (go_at_call 24; refine (SZ.out _).mono ?_)
    rintro e wb ⟨rfl, bb⟩
    go_wp2_with fail
    go_ret
    exact ⟨rfl, chain q (chain ba bb)⟩
  rw [if_neg hz] at SZ
  have hd2 : decide (n - (S.size : Int) < 0) = false := by simp; omega
  have hS2 : S.size ≤ 2097152 := by omega
  go_wp2_with (go_at_call 24; refine (SZ.out _).mono ?_)
  rintro e wb ⟨rfl, bb⟩
  have ho := chain ba bb
  have hl : l.1.length ≤ 1048576 ∧ l.2.length ≤ 1048576 := h.len
  have hl1 := hl.1
  have hl2 := hl.2
  have hrl := lnStep_len l (s, S)
  have HS := Lib.hid (fun (X : World) (v : Value) (i : LineV X v l) => specLineStep (s := s) (S := S) i)
  have HI := Lib.hid (fun (X : World) (v : Value) (i : LineV X v l) => implLineStep (s := s) i hS2)
  obtain ⟨r, hr⟩ : ∃ r, r = (lnStep l (s, S)).getD noLn := ⟨_, rfl⟩
  obtain ⟨t, ht⟩ : ∃ t, t = (lnStep l (s, S)).isSome := ⟨_, rfl⟩
  rw [← hr, ← ht] at HS HI
  rw [← hr] at hrl
  have l1 : r.1.length ≤ 1048576 := by omega
  have l2 : r.2.length ≤ 1048576 := by omega
  have hi1 : (r.1.length : Int) ≤ 1048576 := by omega
  have hi2 : (r.2.length : Int) ≤ 1048576 := by omega
  have hp1 : (l.1.length : Int) ≤ 1048576 := by omega
  have hp2 : (l.2.length : Int) ≤ 1048576 := by omega
  have LV0 := Lib.hid (fun (X : World) (c : Below wb.heap.size wb X) => (h.below ho).below c)
  have TL := Lib.hid (fun (X : World) (c : Below wb.heap.size wb X) => toLine (LV0.out X c))
  have TM := Lib.hid (fun (X : World) => toMove (s, S) X)
  have PL := Lib.hid (PL.out.below ho)
  have PM := Lib.hid (PM.out.below ho)
  have Q := Lib.hid (chain q ho)
  go_upto_region 8 with fail
  clear hr ht hrl hS hS2 SZ hz M0 M1 hd hd2 hpos hn1 bb ba ho h q hl
  go_cut [6, 7] (fun p q wx => ∃ g y1 y2, p = .pointer (some ⟨g, 0, none⟩) ∧ q = .bool t ∧ (wb.heap.size ≤ g ∧ Pair wx g y1 y2 30 ∧ OwnLine wx wb.heap.size (.agg #[y1, y2]) r ∧ Apart wb.heap.size g (.agg #[y1, y2])) ∧ Below wb.heap.size wb wx)
  case first =>
    have d0 : Below wb.heap.size wb wb.drew := (Below.refl _ _).drew
    have CL := Lib.hid (fun (X : World) (kb : Below wb.heap.size wb X) => show X.cell? ⟨w.heap.size, 0, none⟩ = some u1 ∧ X.cell? ⟨w.heap.size, 1, none⟩ = some u2 ∧ X.cell? ⟨w.heap.size + 1, 0, none⟩ = some (.int .i64 s) ∧ X.cell? ⟨w.heap.size + 1, 1, none⟩ = some (.string S) from
      ⟨(PL.out.below kb).cell0, (PL.out.below kb).cell1, (PM.out.below kb).cell0, (PM.out.below kb).cell1⟩)
    go_region_held3 (fun X => X.cell? ⟨w.heap.size, 0, none⟩ = some u1 ∧ X.cell? ⟨w.heap.size, 1, none⟩ = some u2 ∧ X.cell? ⟨w.heap.size + 1, 0, none⟩ = some (.int .i64 s) ∧ X.cell? ⟨w.heap.size + 1, 1, none⟩ = some (.string S))
      (first
        | (refine CL.out _ ?_; (with_reducible (repeat (first | exact d0 | exact Below.refl _ _ | refine bel_drew ?_ | refine bel_alloc ?_ _ | refine chain ?_ bA | refine chain ?_ bB | refine chain ?_ bC))); done)
        | (refine CL.out _ (copy_endC (q := wb) (x := .slice none 0 0) (y := .slice none 0 0) ?_ ?_ ?_); (next => (first | exact Nat.le_refl _ | omega | (refine Below.size (B := wb.heap.size) ?_; (with_reducible (repeat (first | exact d0 | exact Below.refl _ _ | refine bel_drew ?_ | refine bel_alloc ?_ _ | refine chain ?_ bA | refine chain ?_ bB | refine chain ?_ bC))); done) | (simp <;> omega))); (next => (with_reducible (repeat (first | (refine pair_new_at ?_; (first | rfl | (simp; done))) | refine pair_drew ?_ | refine pair_alloc ?_ _ | refine pair_below ?_ bA | refine pair_below ?_ bB | refine pair_below ?_ bC)))); (next => (with_reducible (repeat (first | exact d0 | exact Below.refl _ _ | refine bel_drew ?_ | refine bel_alloc ?_ _ | refine chain ?_ bA | refine chain ?_ bB | refine chain ?_ bC))))))
      (first
      | (go_at_call 17; refine (TL.out _ ?_).mono ?_; (next => (with_reducible (repeat (first | exact d0 | exact Below.refl _ _ | refine bel_drew ?_ | refine bel_alloc ?_ _ | refine chain ?_ bA | refine chain ?_ bB | refine chain ?_ bC)))); rintro e wA ⟨vA, rfl, oA, bA⟩; have lA := oA.lineV hl1 hl2; obtain ⟨aA, nA, cA, aA2, nA2, cA2, rfl⟩ := own_form oA; have cl := CL.out wA (by (with_reducible (repeat (first | exact d0 | exact Below.refl _ _ | refine bel_drew ?_ | refine bel_alloc ?_ _ | refine chain ?_ bA | refine chain ?_ bB | refine chain ?_ bC)))); have cl0 := cl.1; have cl1 := cl.2.1; have cl2 := cl.2.2.1; have cl3 := cl.2.2.2; clear cl; (first | (refine given (P := Pair wA wb.heap.size (.slice none 0 0) (.slice none 0 0) 30) ?_ ?_; (next => (with_reducible (repeat (first | (refine pair_new_at ?_; (first | rfl | (simp; done))) | refine pair_drew ?_ | refine pair_alloc ?_ _ | refine pair_below ?_ bA | refine pair_below ?_ bB | refine pair_below ?_ bC)))); intro pz; have z0 := pz.cell0; have z1 := pz.cell1; have y0 := pz.frozen 0; have y1 := pz.frozen 1; clear pz) | skip))
      | (go_at_call 26; refine (TM.out _).mono ?_; rintro e wB ⟨rfl, bB⟩; have cl := CL.out wB (by (with_reducible (repeat (first | exact d0 | exact Below.refl _ _ | refine bel_drew ?_ | refine bel_alloc ?_ _ | refine chain ?_ bA | refine chain ?_ bB | refine chain ?_ bC)))); have cl0 := cl.1; have cl1 := cl.2.1; have cl2 := cl.2.2.1; have cl3 := cl.2.2.2; clear cl; (first | (refine given (P := Pair wB wb.heap.size (.slice none 0 0) (.slice none 0 0) 30) ?_ ?_; (next => (with_reducible (repeat (first | (refine pair_new_at ?_; (first | rfl | (simp; done))) | refine pair_drew ?_ | refine pair_alloc ?_ _ | refine pair_below ?_ bA | refine pair_below ?_ bB | refine pair_below ?_ bC)))); intro pz; have z0 := pz.cell0; have z1 := pz.cell1; have y0 := pz.frozen 0; have y1 := pz.frozen 1; clear pz) | (refine given (P := Pair wB wA.heap.size (.slice none 0 0) (.slice none 0 0) 30) ?_ ?_; (next => (with_reducible (repeat (first | (refine pair_new_at ?_; (first | rfl | (simp; done))) | refine pair_drew ?_ | refine pair_alloc ?_ _ | refine pair_below ?_ bA | refine pair_below ?_ bB | refine pair_below ?_ bC)))); intro pz; have z0 := pz.cell0; have z1 := pz.cell1; have y0 := pz.frozen 0; have y1 := pz.frozen 1; clear pz) | skip))
      | (go_at_call 25; refine (HS.out _ _ ?_).mono ?_; (next => (with_reducible (repeat (first | exact lA | refine line_drew ?_ | refine line_alloc ?_ _ | refine line_under ?_ bB)))); rintro e wC ⟨vC, rfl, oC, bC⟩; obtain ⟨a4, n4, c4, a5, n5, c5, rfl⟩ := own_form oC; (first | (refine given (P := Pair wC wb.heap.size (.slice none 0 0) (.slice none 0 0) 30) ?_ ?_; (next => (with_reducible (repeat (first | (refine pair_new_at ?_; (first | rfl | (simp; done))) | refine pair_drew ?_ | refine pair_alloc ?_ _ | refine pair_below ?_ bA | refine pair_below ?_ bB | refine pair_below ?_ bC)))); intro pz; have z0 := pz.cell0; have z1 := pz.cell1; have y0 := pz.frozen 0; have y1 := pz.frozen 1; clear pz) | (refine given (P := Pair wC wA.heap.size (.slice none 0 0) (.slice none 0 0) 30) ?_ ?_; (next => (with_reducible (repeat (first | (refine pair_new_at ?_; (first | rfl | (simp; done))) | refine pair_drew ?_ | refine pair_alloc ?_ _ | refine pair_below ?_ bA | refine pair_below ?_ bB | refine pair_below ?_ bC)))); intro pz; have z0 := pz.cell0; have z1 := pz.cell1; have y0 := pz.frozen 0; have y1 := pz.frozen 1; clear pz) | (refine given (P := Pair wC wB.heap.size (.slice none 0 0) (.slice none 0 0) 30) ?_ ?_; (next => (with_reducible (repeat (first | (refine pair_new_at ?_; (first | rfl | (simp; done))) | refine pair_drew ?_ | refine pair_alloc ?_ _ | refine pair_below ?_ bA | refine pair_below ?_ bB | refine pair_below ?_ bC)))); intro pz; have z0 := pz.cell0; have z1 := pz.cell1; have y0 := pz.frozen 0; have y1 := pz.frozen 1; clear pz) | skip))
      | fail)
    all_goals (go_wp2_with fail; go_meet; first
      | (refine made_endA (q := wb) oC ?_ ?_; (next => (first | exact Nat.le_refl _ | omega | (refine Below.size (B := wb.heap.size) ?_; (with_reducible (repeat (first | exact d0 | exact Below.refl _ _ | refine bel_drew ?_ | refine bel_alloc ?_ _ | refine chain ?_ bA | refine chain ?_ bB | refine chain ?_ bC))); done) | (simp <;> omega))); (next => (with_reducible (repeat (first | exact d0 | exact Below.refl _ _ | refine bel_drew ?_ | refine bel_alloc ?_ _ | refine chain ?_ bA | refine chain ?_ bB | refine chain ?_ bC)))))
      | (refine made_endB (q := wb) (x := .slice none 0 0) (y := .slice none 0 0) ?_ ?_ oC ?_ ?_ ?_; (next => (first | exact Nat.le_refl _ | omega | (refine Below.size (B := wb.heap.size) ?_; (with_reducible (repeat (first | exact d0 | exact Below.refl _ _ | refine bel_drew ?_ | refine bel_alloc ?_ _ | refine chain ?_ bA | refine chain ?_ bB | refine chain ?_ bC))); done) | (simp <;> omega))); (next => (with_reducible (repeat (first | (refine pair_new_at ?_; (first | rfl | (simp; done))) | refine pair_drew ?_ | refine pair_alloc ?_ _ | refine pair_below ?_ bA | refine pair_below ?_ bB | refine pair_below ?_ bC)))); (next => (first | exact Nat.le_refl _ | omega | (refine Below.size (B := wb.heap.size) ?_; (with_reducible (repeat (first | exact d0 | exact Below.refl _ _ | refine bel_drew ?_ | refine bel_alloc ?_ _ | refine chain ?_ bA | refine chain ?_ bB | refine chain ?_ bC))); done) | (simp <;> omega))); (next => (refine Pair.lt (x := .slice none 0 0) (y := .slice none 0 0) (t := 30) ?_; (with_reducible (repeat (first | (refine pair_new_at ?_; (first | rfl | (simp; done))) | refine pair_drew ?_ | refine pair_alloc ?_ _ | refine pair_below ?_ bA | refine pair_below ?_ bB | refine pair_below ?_ bC))))); (next => (with_reducible (repeat (first | exact d0 | exact Below.refl _ _ | refine bel_drew ?_ | refine bel_alloc ?_ _ | refine chain ?_ bA | refine chain ?_ bB | refine chain ?_ bC))))))
  case rest =>
  obtain ⟨g8, y1, y2, rfl, rfl, ⟨hg8, pw, ow, -⟩, b8⟩ := hcut
  obtain ⟨wd, hwd⟩ : ∃ X, X = wc := ⟨_, rfl⟩
  rw [← hwd] at pw ow b8 ⊢
  clear hwd
  obtain ⟨a2', n2, d2, e2, m2, f2, hy⟩ := ow.form
  simp only [Value.agg.injEq, Array.mk.injEq, List.cons.injEq, and_true] at hy
  obtain ⟨rfl, rfl⟩ := hy
  have IW := Lib.hid ow.isIn
  have OW := Lib.hid ow
  have PW := Lib.hid pw
  have S2 := Lib.hid pw.lt
  have c3 := b8
  have k0 := (PL.out.below c3).cell0
  have k1 := (PL.out.below c3).cell1
  clear ow pw b8 hg8
  go_wp2_with (go_at_call 17; refine (TL.out _ c3).mono ?_)
  rintro e we ⟨vx, rfl, ox, b4⟩
  obtain ⟨a3, n3, d3, e3, m3, f3, rfl⟩ := ox.form
  have q3 := below_alloc we (.cells #[.slice a3 n3 d3, .slice e3 m3 f3] 30)
  have px := Pair.new we (.slice a3 n3 d3) (.slice e3 m3 f3) 30
  have s3 : (we.alloc (.cells #[.slice a3 n3 d3, .slice e3 m3 f3] 30)).heap.size = we.heap.size + 1 := Go.Deep.nblk_alloc _ _
  obtain ⟨w10, hw10⟩ : ∃ X, X = we.alloc (.cells #[.slice a3 n3 d3, .slice e3 m3 f3] 30) := ⟨_, rfl⟩
  rw [← hw10] at q3 px s3
  have HW10 := Lib.hid hw10.symm
  have IX := Lib.hid ox.isIn
  have OX := Lib.hid (ox.below q3)
  have PX := Lib.hid px
  have OW := Lib.hid ((OW.out.below b4).below q3)
  have PW := Lib.hid ((PW.out.below b4).below q3)
  have c4 := chain (chain c3 b4) q3
  have Z4 := Lib.hid b4.size
  have S3 := Lib.hid s3
  clear hw10 px ox q3 b4 s3 k0 k1
  go_upto_region 10 with fail
  rw [HW10.out]
  have PM0 := PM
  have PL0 := PL
  have PM := Lib.hid (PM.out.below c4)
  have LX := Lib.hid (fun (X : World) (c : Below w10.heap.size w10 X) => (OX.out.lineV hl1 hl2).below c)
  go_cut [9, 10] (fun p q wx => ∃ g y1 y2, p = .pointer (some ⟨g, 0, none⟩) ∧ q = .bool t ∧ (w10.heap.size ≤ g ∧ Pair wx g y1 y2 30 ∧ OwnLine wx w10.heap.size (.agg #[y1, y2]) r ∧ Apart w10.heap.size g (.agg #[y1, y2])) ∧ Below w10.heap.size w10 wx)
  case first =>
    have d0 : Below w10.heap.size w10 w10.drew := (Below.refl _ _).drew
    have CL := Lib.hid (fun (X : World) (kb : Below w10.heap.size w10 X) => show X.cell? ⟨we.heap.size, 0, none⟩ = some (.slice a3 n3 d3) ∧ X.cell? ⟨we.heap.size, 1, none⟩ = some (.slice e3 m3 f3) ∧ X.cell? ⟨w.heap.size + 1, 0, none⟩ = some (.int .i64 s) ∧ X.cell? ⟨w.heap.size + 1, 1, none⟩ = some (.string S) from
      ⟨(PX.out.below kb).cell0, (PX.out.below kb).cell1, (PM.out.below kb).cell0, (PM.out.below kb).cell1⟩)
    go_region_held3 (fun X => X.cell? ⟨we.heap.size, 0, none⟩ = some (.slice a3 n3 d3) ∧ X.cell? ⟨we.heap.size, 1, none⟩ = some (.slice e3 m3 f3) ∧ X.cell? ⟨w.heap.size + 1, 0, none⟩ = some (.int .i64 s) ∧ X.cell? ⟨w.heap.size + 1, 1, none⟩ = some (.string S))
      (first
        | (refine CL.out _ ?_; (with_reducible (repeat (first | exact d0 | exact Below.refl _ _ | refine bel_drew ?_ | refine bel_alloc ?_ _ | refine chain ?_ bA | refine chain ?_ bB | refine chain ?_ bC))); done)
        | (refine CL.out _ (copy_endC (q := w10) (x := .slice none 0 0) (y := .slice none 0 0) ?_ ?_ ?_); (next => (first | exact Nat.le_refl _ | omega | (refine Below.size (B := w10.heap.size) ?_; (with_reducible (repeat (first | exact d0 | exact Below.refl _ _ | refine bel_drew ?_ | refine bel_alloc ?_ _ | refine chain ?_ bA | refine chain ?_ bB | refine chain ?_ bC))); done) | (simp <;> omega))); (next => (with_reducible (repeat (first | (refine pair_new_at ?_; (first | rfl | (simp; done))) | refine pair_drew ?_ | refine pair_alloc ?_ _ | refine pair_below ?_ bA | refine pair_below ?_ bB | refine pair_below ?_ bC)))); (next => (with_reducible (repeat (first | exact d0 | exact Below.refl _ _ | refine bel_drew ?_ | refine bel_alloc ?_ _ | refine chain ?_ bA | refine chain ?_ bB | refine chain ?_ bC))))))
      (first
      | (go_at_call 26; refine (TM.out _).mono ?_; rintro e wB ⟨rfl, bB⟩; have cl := CL.out wB (by (with_reducible (repeat (first | exact d0 | exact Below.refl _ _ | refine bel_drew ?_ | refine bel_alloc ?_ _ | refine chain ?_ bA | refine chain ?_ bB | refine chain ?_ bC)))); have cl0 := cl.1; have cl1 := cl.2.1; have cl2 := cl.2.2.1; have cl3 := cl.2.2.2; clear cl; (first | (refine given (P := Pair wB w10.heap.size (.slice none 0 0) (.slice none 0 0) 30) ?_ ?_; (next => (with_reducible (repeat (first | (refine pair_new_at ?_; (first | rfl | (simp; done))) | refine pair_drew ?_ | refine pair_alloc ?_ _ | refine pair_below ?_ bA | refine pair_below ?_ bB | refine pair_below ?_ bC)))); intro pz; have z0 := pz.cell0; have z1 := pz.cell1; have y0 := pz.frozen 0; have y1 := pz.frozen 1; clear pz) | skip))
      | (go_at_call 27; refine (HI.out _ _ (LX.out _ ?_)).mono ?_; (next => (with_reducible (repeat (first | exact d0 | exact Below.refl _ _ | refine bel_drew ?_ | refine bel_alloc ?_ _ | refine chain ?_ bA | refine chain ?_ bB | refine chain ?_ bC)))); rintro e wC ⟨vC, rfl, oC, bC⟩; obtain ⟨a4, n4, c4, a5, n5, c5, rfl⟩ := own_form oC; (first | (refine given (P := Pair wC w10.heap.size (.slice none 0 0) (.slice none 0 0) 30) ?_ ?_; (next => (with_reducible (repeat (first | (refine pair_new_at ?_; (first | rfl | (simp; done))) | refine pair_drew ?_ | refine pair_alloc ?_ _ | refine pair_below ?_ bA | refine pair_below ?_ bB | refine pair_below ?_ bC)))); intro pz; have z0 := pz.cell0; have z1 := pz.cell1; have y0 := pz.frozen 0; have y1 := pz.frozen 1; clear pz) | (refine given (P := Pair wC wB.heap.size (.slice none 0 0) (.slice none 0 0) 30) ?_ ?_; (next => (with_reducible (repeat (first | (refine pair_new_at ?_; (first | rfl | (simp; done))) | refine pair_drew ?_ | refine pair_alloc ?_ _ | refine pair_below ?_ bA | refine pair_below ?_ bB | refine pair_below ?_ bC)))); intro pz; have z0 := pz.cell0; have z1 := pz.cell1; have y0 := pz.frozen 0; have y1 := pz.frozen 1; clear pz) | skip))
      | fail)
    all_goals (go_wp2_with fail; go_meet; first
      | (refine made_endA (q := w10) oC ?_ ?_; (next => (first | exact Nat.le_refl _ | omega | (refine Below.size (B := w10.heap.size) ?_; (with_reducible (repeat (first | exact d0 | exact Below.refl _ _ | refine bel_drew ?_ | refine bel_alloc ?_ _ | refine chain ?_ bA | refine chain ?_ bB | refine chain ?_ bC))); done) | (simp <;> omega))); (next => (with_reducible (repeat (first | exact d0 | exact Below.refl _ _ | refine bel_drew ?_ | refine bel_alloc ?_ _ | refine chain ?_ bA | refine chain ?_ bB | refine chain ?_ bC)))))
      | (refine made_endB (q := w10) (x := .slice none 0 0) (y := .slice none 0 0) ?_ ?_ oC ?_ ?_ ?_; (next => (first | exact Nat.le_refl _ | omega | (refine Below.size (B := w10.heap.size) ?_; (with_reducible (repeat (first | exact d0 | exact Below.refl _ _ | refine bel_drew ?_ | refine bel_alloc ?_ _ | refine chain ?_ bA | refine chain ?_ bB | refine chain ?_ bC))); done) | (simp <;> omega))); (next => (with_reducible (repeat (first | (refine pair_new_at ?_; (first | rfl | (simp; done))) | refine pair_drew ?_ | refine pair_alloc ?_ _ | refine pair_below ?_ bA | refine pair_below ?_ bB | refine pair_below ?_ bC)))); (next => (first | exact Nat.le_refl _ | omega | (refine Below.size (B := w10.heap.size) ?_; (with_reducible (repeat (first | exact d0 | exact Below.refl _ _ | refine bel_drew ?_ | refine bel_alloc ?_ _ | refine chain ?_ bA | refine chain ?_ bB | refine chain ?_ bC))); done) | (simp <;> omega))); (next => (refine Pair.lt (x := .slice none 0 0) (y := .slice none 0 0) (t := 30) ?_; (with_reducible (repeat (first | (refine pair_new_at ?_; (first | rfl | (simp; done))) | refine pair_drew ?_ | refine pair_alloc ?_ _ | refine pair_below ?_ bA | refine pair_below ?_ bB | refine pair_below ?_ bC))))); (next => (with_reducible (repeat (first | exact d0 | exact Below.refl _ _ | refine bel_drew ?_ | refine bel_alloc ?_ _ | refine chain ?_ bA | refine chain ?_ bB | refine chain ?_ bC))))))
  case rest =>
  obtain ⟨g10, x1, x2, rfl, rfl, ⟨hg10, pg, og, lo, hi, ig, hlo, hap⟩, b10⟩ := hcut
  obtain ⟨wf, hwf⟩ : ∃ X, X = wc := ⟨_, rfl⟩
  rw [← hwf] at pg og b10 ⊢
  clear hwf
  obtain ⟨a5, n5, d5, e5, m5, f5, hy⟩ := og.form
  simp only [Value.agg.injEq, Array.mk.injEq, List.cons.injEq, and_true] at hy
  obtain ⟨rfl, rfl⟩ := hy
  have IG := Lib.hid ig
  have HLO := Lib.hid hlo
  have HAP := Lib.hid hap
  have OG := Lib.hid og
  have PG := Lib.hid pg
  have HG := Lib.hid hg10
  have SG := Lib.hid pg.lt
  have OW := Lib.hid (OW.out.below b10)
  have PW := Lib.hid (PW.out.below b10)
  have OX := Lib.hid (OX.out.below b10)
  have PX := Lib.hid (PX.out.below b10)
  have c6 := chain c4 b10
  clear og pg b10 hg10 ig hlo hap
  have k0 := PW.out.cell0
  have k1 := PW.out.cell1
  have k2 := PG.out.cell0
  have k3 := PG.out.cell1
  go_wp2_with (go_at_call 19; refine (eqLines2 (OG.out.lineV l1 l2) (OW.out.lineV l1 l2)).mono ?_)
  rintro e wg ⟨rfl, b6⟩
  have OW := Lib.hid (OW.out.below b6)
  have PW := Lib.hid (PW.out.below b6)
  have OG := Lib.hid (OG.out.below b6)
  have PG := Lib.hid (PG.out.below b6)
  have OX := Lib.hid (OX.out.below b6)
  have PX := Lib.hid (PX.out.below b6)
  have c7 := chain c6 b6
  clear k0 k1 k2 k3 b6
  have k0 := (PL0.out.below c7).cell0
  have k1 := (PL0.out.below c7).cell1
  have k2 := PX.out.cell0
  have k3 := PX.out.cell1
  go_upto_region 13 with fail
  go_cut [56] (fun s wx => s = .bool false ∧ Below wg.heap.size wg wx)
  case first =>
    have TP := Lib.hid (fun (W' : World) (b : Below wg.heap.size wg W') => TL.out W' (chain c7 b))
    have PP := Lib.hid (fun (W' : World) (b : Below wg.heap.size wg W') => And.intro (PX.out.below b).cell0 (PX.out.below b).cell1)
    have d4 : Below wg.heap.size wg wg.drew := (Below.refl _ _).drew
    have EQ := Lib.hid (fun (W' : World) (v : Value) (b : Below wg.heap.size wg W') (j : LineV W' v l) => eqLines2 ((OX.out.lineV hl1 hl2).below b) j)
    go_region_with (first
      | (go_at_call 17; refine (TP.out _ d4).mono ?_; rintro e w5 ⟨v5, rfl, o5, b5⟩; have c5 := d4.trans (b5.mono d4.size); have j5 := o5.lineV hl1 hl2; have m1 := (PP.out _ c5).1; have m2 := (PP.out _ c5).2; clear o5 b5)
      | (go_at_call 19; refine (EQ.out _ _ c5 j5).mono ?_; rintro e w6 ⟨rfl, b6⟩))
    all_goals (go_wp2_with fail; go_meet; exact ⟨rfl, c5.trans (b6.mono c5.size)⟩)
  case rest =>
  obtain ⟨rfl, b7⟩ := hcut
  revert b7
  generalize wc = wi
  intro b7
  clear k0 k1 k2 k3
  have OW := Lib.hid (OW.out.below b7)
  have PW := Lib.hid (PW.out.below b7)
  have OG := Lib.hid (OG.out.below b7)
  have PG := Lib.hid (PG.out.below b7)
  have OX := Lib.hid (OX.out.below b7)
  have PX := Lib.hid (PX.out.below b7)
  have c9 := chain c7 b7
  clear b7
  have k2 := PX.out.cell0
  have k3 := PX.out.cell1
  go_wp2_with (go_at_call 22; refine (markLine OX.out IX.out hl1 hl2 (by omega) (by omega)).mono ?_)
  rintro e wj ⟨rfl, -, m9⟩
  have c10 := m9.below c9 c3.size
  have OW := Lib.hid (OW.out.keptIn m9 IW.out (.inl (by omega)))
  have PW := Lib.hid (PW.out.keptIn m9 (.inl (by have := S2.out; omega)))
  have OG := Lib.hid (OG.out.keptIn m9 IG.out (.inr (by have := S3.out; have := HLO.out; omega)))
  have PG := Lib.hid (PG.out.keptIn m9 (.inr (by have := S3.out; have := HG.out; omega)))
  clear m9 OX PX k2 k3
  have k0 := PW.out.cell0
  have k1 := PW.out.cell1
  have k2 := PG.out.cell0
  have k3 := PG.out.cell1
  have hneg : decide ((1 : Int) + l.1.length * 3 + l.2.length < 0) = false := by simp; omega
  go_wp2_with (go_at_call 19; refine (eqLines2 (OG.out.lineV l1 l2) (OW.out.lineV l1 l2)).mono ?_)
  rintro e wk ⟨rfl, b10⟩
  have OW := Lib.hid (OW.out.below b10)
  have PW := Lib.hid (PW.out.below b10)
  have OG := Lib.hid (OG.out.below b10)
  have PG := Lib.hid (PG.out.below b10)
  have c11 := chain c10 b10
  clear k0 k1 k2 k3 b10 hneg
  have k2 := PG.out.cell0
  have k3 := PG.out.cell1
  go_wp2_with (go_at_call 22; refine (markLine OG.out IG.out l1 l2 (by omega) (by omega)).mono ?_)
  rintro e wl ⟨rfl, og, m11⟩
  have c12 := m11.below c11 (Nat.le_trans c4.size HLO.out)
  have OW := Lib.hid (OW.out.keptIn m11 IW.out (.inl (by have := Z4.out; have := S3.out; have := HLO.out; omega)))
  have PW := Lib.hid (PW.out.keptIn m11 (.inl (by have := S2.out; have := Z4.out; have := S3.out; have := HLO.out; omega)))
  have PG := Lib.hid (PG.out.keptIn m11 HAP.out)
  have OG := Lib.hid og
  clear og m11 k2 k3
  have k2 := PG.out.cell0
  have k3 := PG.out.cell1
  go_wp2_with (go_at_call 23; refine (heldLine OG.out l1 l2 (by omega) (by omega)).mono ?_)
  rintro e wm ⟨rfl, b12⟩
  have OW := Lib.hid (OW.out.below b12)
  have PW := Lib.hid (PW.out.below b12)
  have OG := Lib.hid (OG.out.below b12)
  have PG := Lib.hid (PG.out.below b12)
  have c13 := chain c12 b12
  have hneg : decide ((1 : Int) + r.1.length * 3 + r.2.length < 0) = false := by simp; omega
  clear k2 k3 b12
  have PM := PM0
  have PM := Lib.hid (PM.out.below c13)
  have PL := Lib.hid (PL0.out.below c13)
  have TL := Lib.hid (fun (X : World) (c : Below wm.heap.size wm X) => TL.out X (chain c13 c))
  have PL1 := PL.out.cell0
  go_upto_region 27 with fail
  clear PL1
  go_cut [14, 15] (fun p q wx => ∃ g y1 y2, p = .pointer (some ⟨g, 0, none⟩) ∧ q = .bool t ∧ (wm.heap.size ≤ g ∧ Pair wx g y1 y2 30 ∧ OwnLine wx wm.heap.size (.agg #[y1, y2]) r ∧ Apart wm.heap.size g (.agg #[y1, y2])) ∧ Below wm.heap.size wm wx)
  case first =>
    have d0 : Below wm.heap.size wm wm.drew := (Below.refl _ _).drew
    have CL := Lib.hid (fun (X : World) (kb : Below wm.heap.size wm X) => show X.cell? ⟨w.heap.size, 0, none⟩ = some u1 ∧ X.cell? ⟨w.heap.size, 1, none⟩ = some u2 ∧ X.cell? ⟨w.heap.size + 1, 0, none⟩ = some (.int .i64 s) ∧ X.cell? ⟨w.heap.size + 1, 1, none⟩ = some (.string S) from
      ⟨(PL.out.below kb).cell0, (PL.out.below kb).cell1, (PM.out.below kb).cell0, (PM.out.below kb).cell1⟩)
    go_region_held3 (fun X => X.cell? ⟨w.heap.size, 0, none⟩ = some u1 ∧ X.cell? ⟨w.heap.size, 1, none⟩ = some u2 ∧ X.cell? ⟨w.heap.size + 1, 0, none⟩ = some (.int .i64 s) ∧ X.cell? ⟨w.heap.size + 1, 1, none⟩ = some (.string S))
      (first
        | (refine CL.out _ ?_; (with_reducible (repeat (first | exact d0 | exact Below.refl _ _ | refine bel_drew ?_ | refine bel_alloc ?_ _ | refine chain ?_ bA | refine chain ?_ bB | refine chain ?_ bC))); done)
        | (refine CL.out _ (copy_endC (q := wm) (x := .slice none 0 0) (y := .slice none 0 0) ?_ ?_ ?_); (next => (first | exact Nat.le_refl _ | omega | (refine Below.size (B := wm.heap.size) ?_; (with_reducible (repeat (first | exact d0 | exact Below.refl _ _ | refine bel_drew ?_ | refine bel_alloc ?_ _ | refine chain ?_ bA | refine chain ?_ bB | refine chain ?_ bC))); done) | (simp <;> omega))); (next => (with_reducible (repeat (first | (refine pair_new_at ?_; (first | rfl | (simp; done))) | refine pair_drew ?_ | refine pair_alloc ?_ _ | refine pair_below ?_ bA | refine pair_below ?_ bB | refine pair_below ?_ bC)))); (next => (with_reducible (repeat (first | exact d0 | exact Below.refl _ _ | refine bel_drew ?_ | refine bel_alloc ?_ _ | refine chain ?_ bA | refine chain ?_ bB | refine chain ?_ bC))))))
      (first
      | (go_at_call 17; refine (TL.out _ ?_).mono ?_; (next => (with_reducible (repeat (first | exact d0 | exact Below.refl _ _ | refine bel_drew ?_ | refine bel_alloc ?_ _ | refine chain ?_ bA | refine chain ?_ bB | refine chain ?_ bC)))); rintro e wA ⟨vA, rfl, oA, bA⟩; have lA := oA.lineV hl1 hl2; obtain ⟨aA, nA, cA, aA2, nA2, cA2, rfl⟩ := own_form oA; have cl := CL.out wA (by (with_reducible (repeat (first | exact d0 | exact Below.refl _ _ | refine bel_drew ?_ | refine bel_alloc ?_ _ | refine chain ?_ bA | refine chain ?_ bB | refine chain ?_ bC)))); have cl0 := cl.1; have cl1 := cl.2.1; have cl2 := cl.2.2.1; have cl3 := cl.2.2.2; clear cl; (first | (refine given (P := Pair wA wm.heap.size (.slice none 0 0) (.slice none 0 0) 30) ?_ ?_; (next => (with_reducible (repeat (first | (refine pair_new_at ?_; (first | rfl | (simp; done))) | refine pair_drew ?_ | refine pair_alloc ?_ _ | refine pair_below ?_ bA | refine pair_below ?_ bB | refine pair_below ?_ bC)))); intro pz; have z0 := pz.cell0; have z1 := pz.cell1; have y0 := pz.frozen 0; have y1 := pz.frozen 1; clear pz) | skip))
      | (go_at_call 26; refine (TM.out _).mono ?_; rintro e wB ⟨rfl, bB⟩; have cl := CL.out wB (by (with_reducible (repeat (first | exact d0 | exact Below.refl _ _ | refine bel_drew ?_ | refine bel_alloc ?_ _ | refine chain ?_ bA | refine chain ?_ bB | refine chain ?_ bC)))); have cl0 := cl.1; have cl1 := cl.2.1; have cl2 := cl.2.2.1; have cl3 := cl.2.2.2; clear cl; (first | (refine given (P := Pair wB wm.heap.size (.slice none 0 0) (.slice none 0 0) 30) ?_ ?_; (next => (with_reducible (repeat (first | (refine pair_new_at ?_; (first | rfl | (simp; done))) | refine pair_drew ?_ | refine pair_alloc ?_ _ | refine pair_below ?_ bA | refine pair_below ?_ bB | refine pair_below ?_ bC)))); intro pz; have z0 := pz.cell0; have z1 := pz.cell1; have y0 := pz.frozen 0; have y1 := pz.frozen 1; clear pz) | (refine given (P := Pair wB wA.heap.size (.slice none 0 0) (.slice none 0 0) 30) ?_ ?_; (next => (with_reducible (repeat (first | (refine pair_new_at ?_; (first | rfl | (simp; done))) | refine pair_drew ?_ | refine pair_alloc ?_ _ | refine pair_below ?_ bA | refine pair_below ?_ bB | refine pair_below ?_ bC)))); intro pz; have z0 := pz.cell0; have z1 := pz.cell1; have y0 := pz.frozen 0; have y1 := pz.frozen 1; clear pz) | skip))
      | (go_at_call 27; refine (HI.out _ _ ?_).mono ?_; (next => (with_reducible (repeat (first | exact lA | refine line_drew ?_ | refine line_alloc ?_ _ | refine line_under ?_ bB)))); rintro e wC ⟨vC, rfl, oC, bC⟩; obtain ⟨a4, n4, c4, a5, n5, c5, rfl⟩ := own_form oC; (first | (refine given (P := Pair wC wm.heap.size (.slice none 0 0) (.slice none 0 0) 30) ?_ ?_; (next => (with_reducible (repeat (first | (refine pair_new_at ?_; (first | rfl | (simp; done))) | refine pair_drew ?_ | refine pair_alloc ?_ _ | refine pair_below ?_ bA | refine pair_below ?_ bB | refine pair_below ?_ bC)))); intro pz; have z0 := pz.cell0; have z1 := pz.cell1; have y0 := pz.frozen 0; have y1 := pz.frozen 1; clear pz) | (refine given (P := Pair wC wA.heap.size (.slice none 0 0) (.slice none 0 0) 30) ?_ ?_; (next => (with_reducible (repeat (first | (refine pair_new_at ?_; (first | rfl | (simp; done))) | refine pair_drew ?_ | refine pair_alloc ?_ _ | refine pair_below ?_ bA | refine pair_below ?_ bB | refine pair_below ?_ bC)))); intro pz; have z0 := pz.cell0; have z1 := pz.cell1; have y0 := pz.frozen 0; have y1 := pz.frozen 1; clear pz) | (refine given (P := Pair wC wB.heap.size (.slice none 0 0) (.slice none 0 0) 30) ?_ ?_; (next => (with_reducible (repeat (first | (refine pair_new_at ?_; (first | rfl | (simp; done))) | refine pair_drew ?_ | refine pair_alloc ?_ _ | refine pair_below ?_ bA | refine pair_below ?_ bB | refine pair_below ?_ bC)))); intro pz; have z0 := pz.cell0; have z1 := pz.cell1; have y0 := pz.frozen 0; have y1 := pz.frozen 1; clear pz) | skip))
      | fail)
    all_goals (go_wp2_with fail; go_meet; first
      | (refine made_endA (q := wm) oC ?_ ?_; (next => (first | exact Nat.le_refl _ | omega | (refine Below.size (B := wm.heap.size) ?_; (with_reducible (repeat (first | exact d0 | exact Below.refl _ _ | refine bel_drew ?_ | refine bel_alloc ?_ _ | refine chain ?_ bA | refine chain ?_ bB | refine chain ?_ bC))); done) | (simp <;> omega))); (next => (with_reducible (repeat (first | exact d0 | exact Below.refl _ _ | refine bel_drew ?_ | refine bel_alloc ?_ _ | refine chain ?_ bA | refine chain ?_ bB | refine chain ?_ bC)))))
      | (refine made_endB (q := wm) (x := .slice none 0 0) (y := .slice none 0 0) ?_ ?_ oC ?_ ?_ ?_; (next => (first | exact Nat.le_refl _ | omega | (refine Below.size (B := wm.heap.size) ?_; (with_reducible (repeat (first | exact d0 | exact Below.refl _ _ | refine bel_drew ?_ | refine bel_alloc ?_ _ | refine chain ?_ bA | refine chain ?_ bB | refine chain ?_ bC))); done) | (simp <;> omega))); (next => (with_reducible (repeat (first | (refine pair_new_at ?_; (first | rfl | (simp; done))) | refine pair_drew ?_ | refine pair_alloc ?_ _ | refine pair_below ?_ bA | refine pair_below ?_ bB | refine pair_below ?_ bC)))); (next => (first | exact Nat.le_refl _ | omega | (refine Below.size (B := wm.heap.size) ?_; (with_reducible (repeat (first | exact d0 | exact Below.refl _ _ | refine bel_drew ?_ | refine bel_alloc ?_ _ | refine chain ?_ bA | refine chain ?_ bB | refine chain ?_ bC))); done) | (simp <;> omega))); (next => (refine Pair.lt (x := .slice none 0 0) (y := .slice none 0 0) (t := 30) ?_; (with_reducible (repeat (first | (refine pair_new_at ?_; (first | rfl | (simp; done))) | refine pair_drew ?_ | refine pair_alloc ?_ _ | refine pair_below ?_ bA | refine pair_below ?_ bB | refine pair_below ?_ bC))))); (next => (with_reducible (repeat (first | exact d0 | exact Below.refl _ _ | refine bel_drew ?_ | refine bel_alloc ?_ _ | refine chain ?_ bA | refine chain ?_ bB | refine chain ?_ bC))))))
  case rest =>
  obtain ⟨g14, z1, z2, rfl, rfl, ⟨-, ph, oh, -⟩, b14⟩ := hcut
  obtain ⟨wp, hwp⟩ : ∃ X, X = wc := ⟨_, rfl⟩
  rw [← hwp] at ph oh b14 ⊢
  clear hwp
  obtain ⟨a7, n7, d7, e7, m7, f7, hy⟩ := oh.form
  simp only [Value.agg.injEq, Array.mk.injEq, List.cons.injEq, and_true] at hy
  obtain ⟨rfl, rfl⟩ := hy
  have OH := Lib.hid oh
  have PH := Lib.hid ph
  have OW := Lib.hid (OW.out.below b14)
  have PW := Lib.hid (PW.out.below b14)
  have OG := Lib.hid (OG.out.below b14)
  have PG := Lib.hid (PG.out.below b14)
  have c15 := chain c13 b14
  clear ph oh b14
  have k0 := PW.out.cell0
  have k1 := PW.out.cell1
  have k2 := PH.out.cell0
  have k3 := PH.out.cell1
  go_wp2_with (go_at_call 19; refine (eqLines2 (OH.out.lineV l1 l2) (OW.out.lineV l1 l2)).mono ?_)
  rintro e wq ⟨rfl, b15⟩
  have OG := Lib.hid (OG.out.below b15)
  have PG := Lib.hid (PG.out.below b15)
  have c16 := chain c15 b15
  clear k0 k1 k2 k3 b15
  have k2 := PG.out.cell0
  have k3 := PG.out.cell1
  go_wp2_with (go_at_call 23; refine (heldLine OG.out l1 l2 (by omega) (by omega)).mono ?_)
  rintro e wr ⟨rfl, b16⟩
  go_wp2_with fail
  go_ret
  exact ⟨rfl, chain Q.out (chain c16 b16)⟩

end Go.Proofs.Ytoapfcnpmpggcab

namespace Go.Proofs.Ytoapfcnpmpggcab.fnExactLineStep
open Go.ChangeShapes Go.WideShapes Go.ChangeAt Go.RowKit
open Go.ChangeMaps (open_string shut_string)
set_option linter.unusedVariables false

theorem own : ownKnob Try.prog.godebug = none := by kernel_rfl
theorem laidOut : laidOutB Try.prog = true := by kernel_rfl

set_option maxRecDepth 100000 in
theorem lifted (os : Os) (started : os.Started) (H : Type) (enc : TypeId × Value → H) :
    ReturnsInHanded {} Try.checked os 5 .any (Rows.fnExactLineStepSpec.pre6 enc Try.prog Try.f5 Rows.fnExactLineStepRow.domain false) (Rows.fnExactLineStepSpec.post enc Try.prog Try.f5 false true false false) := by
  refine returnsInHanded_of_change (C := Try.checked) own started (by kernel_rfl) Try.func5
    (ChangeSpec.witness6 (enc := enc) (C := Try.checked) false ⟨#[], #[.agg #[.slice none 0 0, .slice none 0 0], .agg #[.int .i64 0, .string ⟨#[]⟩]], []⟩ 8 (by kernel_rfl) (by kernel_rfl) (by kernel_rfl) (by kernel_rfl)) ?_
  intro W base args ds gs before hval0 hW hcnd _
  have hval : ∀ (j : Nat) t v, Try.f5.params[j]? = some t → args[j]? = some v → Value.okWide Try.prog W .any base t v := hval0
  have hW' := hW
  obtain ⟨p, q, hA0, hV, rfl, hfz, hnd⟩ := hW
  have hA : DataW.TrodAll enc Try.prog W 0 (fun _ => true) true Try.f5.params.toList args.toList ds p := hA0
  rw [Try.params5] at hA hval
  obtain ⟨v0, vs0, d0, ds0, p0, q0, hargs, rfl, rfl, h0, r0⟩ := trodAll_cons hA
  obtain ⟨v1, vs1, d1, ds1, p1, q1, rfl, rfl, rfl, h1, r1⟩ := trodAll_cons r0
  obtain ⟨rfl, rfl, rfl⟩ := trodAll_nil r1
  obtain rfl : args = #[v0, v1] := by cases args; simp_all
  obtain ⟨rfl, rfl⟩ := trodVars_none hV
  have w0 := open_line (hval 0 25 v0 rfl rfl) h0
  have k0 := h0
  have lt0 : ∀ x ∈ p0, x.block < W.heap.size := by obtain ⟨m, hm⟩ := k0; exact DataW.trod_lt m _ _ _ hm
  have w1 := open_move (hval 1 39 v1 rfl rfl) h1
  have k1 := h1
  have lt1 : ∀ x ∈ p1, x.block < W.heap.size := by obtain ⟨m, hm⟩ := k1; exact DataW.trod_lt m _ _ _ hm
  clear hA0 hval0
  refine (walk_FnExactLineStep v0 v1 W w0 w1).mono fun e W' ⟨he, bel⟩ => ?_
  subst he
  exact ⟨_, rfl, _, _, _, [], _, [], hW', trodAll_mk1 (shut_bool Try.underlying4 _), (trodAll_cons_mk (Below.trod laidOut (by kernel_rfl) (of_decide_eq_true (by kernel_rfl)) k0 bel lt0) (trodAll_cons_mk (Below.trod laidOut (by kernel_rfl) (of_decide_eq_true (by kernel_rfl)) k1 bel lt1) trodAll_mk0)), rfl, bel.frame _, fun h => by cases h⟩

theorem closed : joinedFacts Try.checked.prog 5 Try.f5 Rows.fnExactLineStepSpec Rows.fnExactLineStepRow = true := by
  unfold joinedFacts
  simp only [Bool.and_eq_true]
  repeat' (refine And.intro ?_ ?_)
  all_goals first
    | with_reducible exact may_enter
    | (rw [lifts_final]; kernel_rfl)
    | (rw [make_is]; kernel_rfl)
    | kernel_rfl

theorem over : Rows.fnExactLineStepRow.holds Try.pinned (OpenSpec.ofChange Rows.fnExactLineStepSpec) :=
  OpenClaim.holds_of_wide 5 Try.f5 rfl rfl rfl rfl rfl rfl rfl ⟨rfl, rfl, rfl, rfl, rfl⟩ rfl rfl rfl rfl rfl (by kernel_rfl) Try.func5 closed
    (of_decide_eq_true (by kernel_rfl)) (by unfold Func.isWrapper; first | (rw [if_pos (by decide +kernel)]; kernel_rfl) | (rw [if_neg (by decide +kernel)]; exact ⟨rfl, rfl⟩))
    (fun os started H enc _ => lifted os started H enc)

theorem proved : Rows.FnExactLineStepSaid := over
#print axioms proved
end Go.Proofs.Ytoapfcnpmpggcab.fnExactLineStep
