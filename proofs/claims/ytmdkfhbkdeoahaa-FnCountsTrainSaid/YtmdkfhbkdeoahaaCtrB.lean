/-
  The counts behind a pulse and behind all pulses of a list: the model's and the program's. For lists of at most 1048576 numbers.
-/
import Derived.Test.YtmdkfhbkdeoahaaCtrA
import Derived.Test.YtmdkfhbkdeoahaaCpyI
namespace Go.Proofs.Ytmdkfhbkdeoahaa
open Go.RowKit Go.Sort

/-- The numbers of a list are numbers of the machine. -/
def Fits (ps : List Int) : Prop := ∀ j, j < ps.length → -9223372036854775808 ≤ ps.getD j 0 ∧ ps.getD j 0 ≤ 9223372036854775807
theorem pc_le {p : Int} {n : Nat} (h : -9223372036854775808 ≤ p ∧ p ≤ 9223372036854775807) : decide (pc p ≤ n) = decide (-1 - (n : Int) ≤ p ∧ p ≤ (n : Int)) := by
  rcases Int.lt_or_le p 0 with h1 | h1
  · have := pc_neg h1
    exact decide_eq_decide.2 ⟨fun q => by omega, fun q => by omega⟩
  · have := pc_pos h1
    exact decide_eq_decide.2 ⟨fun q => by omega, fun q => by omega⟩
theorem pulC_some {cs : List Int} {p : Int} (hc : cntB cs = true) (h : pc p ≤ cs.length) (h2 : cntB (moved cs (pc p) (sg p)) = true) : pulC cs p = some (moved cs (pc p) (sg p)) := by
  unfold pulC; rw [if_pos hc, pul_yes h h2]
theorem pulC_bad {cs : List Int} {p : Int} (h2 : cntB (moved cs (pc p) (sg p)) = false) : pulC cs p = none := by
  unfold pulC; split
  · exact pul_bad h2
  · rfl
theorem pulC_far {cs : List Int} {p : Int} (h : cs.length < pc p) : pulC cs p = none := by
  unfold pulC; split
  · exact pul_far h
  · rfl
theorem pulC_not {cs : List Int} {p : Int} (h : cntB cs = false) : pulC cs p = none := by unfold pulC; rw [h]; rfl

set_option maxHeartbeats 400000 in
theorem implCounter (n : Nat) (p : Int) (hp : -9223372036854775808 ≤ p ∧ p ≤ 9223372036854775807) (w : World) :
    Calls Try.prog 34 #[.int .i64 n, .int .i64 p] w fun e w' => e = .returned (.tuple #[.int .i64 (pc p), .int .i64 (sg p), .bool (decide (pc p ≤ n))]) ∧ w = w' := by
  obtain ⟨t, ht⟩ : ∃ t, t = decide (pc p ≤ n) := ⟨_, rfl⟩
  rw [← ht]
  obtain ⟨hp1, hp2⟩ := hp
  by_cases h1 : p < 0
  · have e1 := pc_neg h1
    have HE := Lib.hid (And.intro e1 (sg_neg h1))
    have T := Lib.hid (show decide (-1 - p ≤ (n : Int)) = t by rw [ht]; exact decide_eq_decide.2 ⟨fun q => by omega, fun q => by omega⟩)
    clear e1 ht
    go_enter Try.func34, Try.ntmps34
    go_wp2_with fail
    exact bodyPost_ret (v := .tuple #[.int .i64 (-1 - p), .int .i64 (-1), .bool (decide (-1 - p ≤ (n : Int)))]) (by simp [results, Try.results34, go_sem]) rfl ⟨by rw [HE.out.1, HE.out.2, T.out], rfl⟩
  · have e1 := pc_pos (Int.not_lt.1 h1)
    have HE := Lib.hid (And.intro e1 (sg_pos (Int.not_lt.1 h1)))
    have T := Lib.hid (show decide (p ≤ (n : Int)) = t by rw [ht]; exact decide_eq_decide.2 ⟨fun q => by omega, fun q => by omega⟩)
    clear e1 ht
    go_enter Try.func34, Try.ntmps34
    go_wp2_with fail
    exact bodyPost_ret (v := .tuple #[.int .i64 p, .int .i64 1, .bool (decide (p ≤ (n : Int)))]) (by simp [results, Try.results34, go_sem]) rfl ⟨by rw [HE.out.1, HE.out.2, T.out], rfl⟩

/-- A list that a call hands back with a bool. -/
def MadeO (w : World) (o : Option (List Int)) (e : Ending) (w' : World) : Prop := MadeIntsB w (o.getD []) o.isSome e w'

set_option maxHeartbeats 4000000 in
theorem specPulse {w : World} {v : Value} {cs : List Int} {p : Int} (h : Ints w v cs) (hp : -9223372036854775808 ≤ p ∧ p ≤ 9223372036854775807) :
    Calls Try.prog 10 #[v, .int .i64 p] w (MadeO w (pulC cs p)) := by
  have SC := Lib.hid (fun (X : World) (b : Below w.heap.size w X) => specCounts (h.below b))
  have H := Lib.hid h
  obtain ⟨a, cap, rfl, hl, -⟩ := h
  have hl' : (cs.length : Int) ≤ 1048576 := by omega
  have IL := in_is p (-1 - cs.length) cs.length
  obtain ⟨hp1, hp2⟩ := hp
  rw [← pc_le ⟨hp1, hp2⟩] at IL
  have IL := Lib.hid IL
  obtain ⟨t, ht⟩ : ∃ t, t = cntB cs := ⟨_, rfl⟩
  rw [← ht] at SC
  cases t
  · have E := Lib.hid (pulC_not (p := p) ht.symm)
    clear ht
    go_enter Try.func10, Try.ntmps10
    go_wp2_with (go_at_call 29; refine (SC.out _ (Below.refl _ _)).mono ?_)
    rintro e w1 ⟨rfl, b1⟩
    have B1 := Lib.hid (b1.alloc b1.size (.cells #[] 3))
    have O1 := Lib.hid (own_empty w1)
    have B0 := Lib.hid b1
    clear b1
    go_wp2_with fail
    go_ret2
    exact ⟨.slice (some ⟨w1.heap.size, 0, none⟩) 0 0, by rw [E.out]; rfl, by rw [E.out]; exact O1.out.mono B0.out.size, B1.out⟩
  have hc := cntB_of ht.symm
  have HC := Lib.hid hc
  have HT := Lib.hid ht.symm
  clear ht hl
  obtain ⟨u, hu⟩ : ∃ u, u = decide (pc p ≤ cs.length) := ⟨_, rfl⟩
  rw [← hu] at IL
  have h8 : (cs.length : Int) ≤ 8 := by have := hc.1; omega
  have h1 : 1 ≤ (cs.length : Int) := by have := hc.1; omega
  clear hc
  cases u
  · have E := Lib.hid (pulC_far (cs := cs) (p := p) (by have := of_decide_eq_false hu.symm; omega))
    clear hu
    go_enter Try.func10, Try.ntmps10
    go_wp2_with (first | (go_at_call 29; refine (SC.out _ (Below.refl _ _)).mono ?_; rintro e w1 ⟨rfl, b1⟩) | (go_at_call 30; refine (IL.out _).mono ?_; rintro e w2 ⟨rfl, rfl⟩))
    have B1 := Lib.hid (b1.alloc b1.size (.cells #[] 3))
    have O1 := Lib.hid (own_empty w1)
    have B0 := Lib.hid b1
    clear b1
    go_ret2
    exact ⟨.slice (some ⟨w1.heap.size, 0, none⟩) 0 0, by rw [E.out]; rfl, by rw [E.out]; exact O1.out.mono B0.out.size, B1.out⟩
  have hfar := of_decide_eq_true hu.symm
  clear hu
  obtain ⟨c, hcc⟩ : ∃ c, c = pc p := ⟨_, rfl⟩
  obtain ⟨s, hs⟩ : ∃ s, s = sg p := ⟨_, rfl⟩
  have hcn : c ≤ cs.length := by omega
  have YES := Lib.hid (fun h2 => pulC_some (cs := cs) (p := p) HT.out hfar h2)
  have BAD := Lib.hid (pulC_bad (cs := cs) (p := p))
  rw [← hcc, ← hs] at YES BAD
  have hcc' := hcc
  rcases Int.lt_or_le p 0 with hneg | hneg
  · have hci : (c : Int) = -1 - p := by rw [hcc]; exact pc_neg hneg
    have hsi : s = -1 := by rw [hs]; exact sg_neg hneg
    subst hsi
    clear hcc hs hcc'
    rcases Nat.eq_zero_or_pos c with hc0 | hc0
    · subst hc0
      have HA := Lib.hid (show -1 - p = 0 by omega)
      have hB : (0 : Int) < (cs.length : Int) := by omega
      have i0 : 0 < cs.length := by omega
      clear hci hcn
      obtain ⟨ms, hms⟩ : ∃ ms, ms = moved cs 0 (-1) := ⟨_, rfl⟩
      rw [← hms] at YES BAD
      obtain ⟨x, hx⟩ : ∃ x, x = cs.getD 0 0 := ⟨_, rfl⟩
      have rx := HC.out.2 _ i0
      rw [← hx] at rx
      obtain ⟨x0, x50⟩ := rx
      have M := Lib.hid (show cs.set 0 (x + (-1)) = ms by rw [hms, hx, moved_first (s := -1) i0])
      clear hfar
      go_enter Try.func10, Try.ntmps10
      go_upto_region 10 with (first | (go_at_call 29; refine (SC.out _ (Below.refl _ _)).mono ?_; rintro e w1 ⟨rfl, b1⟩) | (go_at_call 30; refine (IL.out _).mono ?_; rintro e w2 ⟨rfl, rfl⟩) | (at_builtin; refine wpList_copyI rfl _ _ rfl (base := w.heap.size) rfl rfl (H.out.below (b1.alloc b1.size _)) (Go.Deep.blk_alloc_new _ _) b1.size ?_; intro v3 w3 o3 b3))
      rw [HA.out]
      obtain ⟨g, cap3, rfl⟩ := o3.some (by omega)
      have q1 := b1.alloc b1.size (.cells #[] 3)
      have B3 := Lib.hid (q1.trans (b3.mono q1.size))
      clear q1 b3 b1
      have g0 := o3.block
      have s3 := B3.out.size
      have z1 := o3.at (j := 0) i0
      have z2 := o3.soft 0
      rw [← hx] at z1
      have o4 := o3.put (j := 0) (x + (-1))
      have b4 := B3.out.setCell (p := ⟨g, 0, none⟩) g0.1 (.int .i64 (x + (-1)))
      clear hx
      rw [M.out] at o4
      obtain ⟨w4, hw4⟩ : ∃ X, X = w3.setCell ⟨g, 0, none⟩ (.int .i64 (x + (-1))) := ⟨_, rfl⟩
      rw [← hw4] at o4 b4
      have HW4 := Lib.hid hw4
      clear hw4
      have hml := o4.len
      have SV := Lib.hid (specCounts (o4.ints (by omega)))
      have OW := Lib.hid o4
      have B4 := Lib.hid b4
      clear o3 o4 b4 hml
      obtain ⟨t2, ht2⟩ : ∃ t2, t2 = cntB ms := ⟨_, rfl⟩
      rw [← ht2] at SV
      cases t2
      · have E := Lib.hid (BAD.out ht2.symm)
        clear ht2
        go_wp2_with (go_at_call 29; rw [← HW4.out]; refine SV.out.mono ?_; rintro e w5 ⟨rfl, b5⟩)
        go_ret2
        have q5 := B4.out.trans (b5.mono B4.out.size)
        exact ⟨.slice (some ⟨w5.heap.size, 0, none⟩) 0 0, by rw [E.out]; rfl, by rw [E.out]; exact (own_empty w5).mono q5.size, q5.alloc q5.size _⟩
      · have E := Lib.hid (YES.out ht2.symm)
        clear ht2
        go_wp2_with (go_at_call 29; rw [← HW4.out]; refine SV.out.mono ?_; rintro e w5 ⟨rfl, b5⟩)
        go_ret2
        exact ⟨.slice (some ⟨g, 0, none⟩) cs.length cap3, by rw [E.out]; rfl, by rw [E.out]; exact OW.out.below b5, B4.out.trans (b5.mono B4.out.size)⟩
    obtain ⟨c, rfl⟩ : ∃ d, c = d + 1 := ⟨c - 1, by omega⟩
    clear hc0
    by_cases hce : c + 1 = cs.length
    · have HA := Lib.hid (show -1 - p = (c : Int) + 1 by omega)
      have hB : (cs.length : Int) ≤ (c : Int) + 1 := by omega
      have hC : (0 : Int) < (c : Int) + 1 := by omega
      have i1 : c < cs.length := by omega
      have HCE := Lib.hid hce
      clear hci hcn hce
      obtain ⟨ms, hms⟩ : ∃ ms, ms = moved cs (c + 1) (-1) := ⟨_, rfl⟩
      rw [← hms] at YES BAD
      obtain ⟨y, hy⟩ : ∃ y, y = cs.getD c 0 := ⟨_, rfl⟩
      have ry := HC.out.2 _ i1
      rw [← hy] at ry
      obtain ⟨y0, y50⟩ := ry
      have M := Lib.hid (show cs.set c (y + 1) = ms by rw [show y + 1 = y - (-1) by omega]; rw [hms, hy, HCE.out]; exact moved_last (s := -1) HCE.out)
      clear hfar
      go_enter Try.func10, Try.ntmps10
      go_upto_region 10 with (first | (go_at_call 29; refine (SC.out _ (Below.refl _ _)).mono ?_; rintro e w1 ⟨rfl, b1⟩) | (go_at_call 30; refine (IL.out _).mono ?_; rintro e w2 ⟨rfl, rfl⟩) | (at_builtin; refine wpList_copyI rfl _ _ rfl (base := w.heap.size) rfl rfl (H.out.below (b1.alloc b1.size _)) (Go.Deep.blk_alloc_new _ _) b1.size ?_; intro v3 w3 o3 b3))
      rw [HA.out]
      obtain ⟨g, cap3, rfl⟩ := o3.some (by omega)
      have q1 := b1.alloc b1.size (.cells #[] 3)
      have B3 := Lib.hid (q1.trans (b3.mono q1.size))
      clear q1 b3 b1
      have g0 := o3.block
      have s3 := B3.out.size
      have z1 := o3.at (j := c) i1
      have z2 := o3.soft c
      rw [← hy] at z1
      have o4 := o3.put (j := c) (y + 1)
      have b4 := B3.out.setCell (p := ⟨g, c, none⟩) g0.1 (.int .i64 (y + 1))
      clear hy
      rw [M.out] at o4
      obtain ⟨w4, hw4⟩ : ∃ X, X = w3.setCell ⟨g, c, none⟩ (.int .i64 (y + 1)) := ⟨_, rfl⟩
      rw [← hw4] at o4 b4
      have HW4 := Lib.hid hw4
      clear hw4
      have hml := o4.len
      have SV := Lib.hid (specCounts (o4.ints (by omega)))
      have OW := Lib.hid o4
      have B4 := Lib.hid b4
      clear o3 o4 b4 hml
      obtain ⟨t2, ht2⟩ : ∃ t2, t2 = cntB ms := ⟨_, rfl⟩
      rw [← ht2] at SV
      cases t2
      · have E := Lib.hid (BAD.out ht2.symm)
        clear ht2
        go_wp2_with (go_at_call 29; rw [← HW4.out]; refine SV.out.mono ?_; rintro e w5 ⟨rfl, b5⟩)
        go_ret2
        have q5 := B4.out.trans (b5.mono B4.out.size)
        exact ⟨.slice (some ⟨w5.heap.size, 0, none⟩) 0 0, by rw [E.out]; rfl, by rw [E.out]; exact (own_empty w5).mono q5.size, q5.alloc q5.size _⟩
      · have E := Lib.hid (YES.out ht2.symm)
        clear ht2
        go_wp2_with (go_at_call 29; rw [← HW4.out]; refine SV.out.mono ?_; rintro e w5 ⟨rfl, b5⟩)
        go_ret2
        exact ⟨.slice (some ⟨g, 0, none⟩) cs.length cap3, by rw [E.out]; rfl, by rw [E.out]; exact OW.out.below b5, B4.out.trans (b5.mono B4.out.size)⟩
    · have HA := Lib.hid (show -1 - p = (c : Int) + 1 by omega)
      have hB : (c : Int) + 1 < (cs.length : Int) := by omega
      have hC : (0 : Int) < (c : Int) + 1 := by omega
      have i0 : c + 1 < cs.length := by omega
      have i1 : c < cs.length := by omega
      clear hci hcn hce
      obtain ⟨ms, hms⟩ : ∃ ms, ms = moved cs (c + 1) (-1) := ⟨_, rfl⟩
      rw [← hms] at YES BAD
      obtain ⟨x, hx⟩ : ∃ x, x = cs.getD (c + 1) 0 := ⟨_, rfl⟩
      have rx := HC.out.2 _ i0
      rw [← hx] at rx
      obtain ⟨x0, x50⟩ := rx
      obtain ⟨y, hy⟩ : ∃ y, y = cs.getD c 0 := ⟨_, rfl⟩
      have ry := HC.out.2 _ i1
      rw [← hy] at ry
      obtain ⟨y0, y50⟩ := ry
      have M := Lib.hid (show (cs.set (c + 1) (x + (-1))).set c (y + 1) = ms by rw [show y + 1 = y - (-1) by omega]; rw [hms, hx, hy]; exact moved_right (s := -1) i0)
      clear hfar
      go_enter Try.func10, Try.ntmps10
      go_upto_region 10 with (first | (go_at_call 29; refine (SC.out _ (Below.refl _ _)).mono ?_; rintro e w1 ⟨rfl, b1⟩) | (go_at_call 30; refine (IL.out _).mono ?_; rintro e w2 ⟨rfl, rfl⟩) | (at_builtin; refine wpList_copyI rfl _ _ rfl (base := w.heap.size) rfl rfl (H.out.below (b1.alloc b1.size _)) (Go.Deep.blk_alloc_new _ _) b1.size ?_; intro v3 w3 o3 b3))
      rw [HA.out]
      obtain ⟨g, cap3, rfl⟩ := o3.some (by omega)
      have q1 := b1.alloc b1.size (.cells #[] 3)
      have B3 := Lib.hid (q1.trans (b3.mono q1.size))
      clear q1 b3 b1
      have g0 := o3.block
      have s3 := B3.out.size
      have z1 := o3.at (j := c + 1) i0
      have z2 := o3.soft (c + 1)
      rw [← hx] at z1
      have o4 := o3.put (j := c + 1) (x + (-1))
      have z3 := o4.at (j := c) (by rw [List.length_set]; exact i1)
      have z4 := o4.soft c
      rw [getD_set i0 i1, if_neg (by omega), ← hy] at z3
      have o4 := o4.put (j := c) (y + 1)
      have b4 := (B3.out.setCell (p := ⟨g, c + 1, none⟩) g0.1 (.int .i64 (x + (-1)))).setCell (p := ⟨g, c, none⟩) g0.1 (.int .i64 (y + 1))
      clear hx hy
      rw [M.out] at o4
      obtain ⟨w4, hw4⟩ : ∃ X, X = (w3.setCell ⟨g, c + 1, none⟩ (.int .i64 (x + (-1)))).setCell ⟨g, c, none⟩ (.int .i64 (y + 1)) := ⟨_, rfl⟩
      rw [← hw4] at o4 b4
      have HW4 := Lib.hid hw4
      clear hw4
      have hml := o4.len
      have SV := Lib.hid (specCounts (o4.ints (by omega)))
      have OW := Lib.hid o4
      have B4 := Lib.hid b4
      clear o3 o4 b4 hml
      obtain ⟨t2, ht2⟩ : ∃ t2, t2 = cntB ms := ⟨_, rfl⟩
      rw [← ht2] at SV
      cases t2
      · have E := Lib.hid (BAD.out ht2.symm)
        clear ht2
        go_wp2_with (go_at_call 29; rw [← HW4.out]; refine SV.out.mono ?_; rintro e w5 ⟨rfl, b5⟩)
        go_ret2
        have q5 := B4.out.trans (b5.mono B4.out.size)
        exact ⟨.slice (some ⟨w5.heap.size, 0, none⟩) 0 0, by rw [E.out]; rfl, by rw [E.out]; exact (own_empty w5).mono q5.size, q5.alloc q5.size _⟩
      · have E := Lib.hid (YES.out ht2.symm)
        clear ht2
        go_wp2_with (go_at_call 29; rw [← HW4.out]; refine SV.out.mono ?_; rintro e w5 ⟨rfl, b5⟩)
        go_ret2
        exact ⟨.slice (some ⟨g, 0, none⟩) cs.length cap3, by rw [E.out]; rfl, by rw [E.out]; exact OW.out.below b5, B4.out.trans (b5.mono B4.out.size)⟩
  · have hci : (c : Int) = p := by rw [hcc]; exact pc_pos hneg
    have hsi : s = 1 := by rw [hs]; exact sg_pos hneg
    have hneg' : ¬ p < 0 := by omega
    subst hsi
    clear hcc hs hcc'
    rcases Nat.eq_zero_or_pos c with hc0 | hc0
    · subst hc0
      have HA := Lib.hid (show p = 0 by omega)
      have hB : (0 : Int) < (cs.length : Int) := by omega
      have i0 : 0 < cs.length := by omega
      clear hci hcn
      obtain ⟨ms, hms⟩ : ∃ ms, ms = moved cs 0 (1) := ⟨_, rfl⟩
      rw [← hms] at YES BAD
      obtain ⟨x, hx⟩ : ∃ x, x = cs.getD 0 0 := ⟨_, rfl⟩
      have rx := HC.out.2 _ i0
      rw [← hx] at rx
      obtain ⟨x0, x50⟩ := rx
      have M := Lib.hid (show cs.set 0 (x + (1)) = ms by rw [hms, hx, moved_first (s := 1) i0])
      clear hfar
      go_enter Try.func10, Try.ntmps10
      go_upto_region 10 with (first | (go_at_call 29; refine (SC.out _ (Below.refl _ _)).mono ?_; rintro e w1 ⟨rfl, b1⟩) | (go_at_call 30; refine (IL.out _).mono ?_; rintro e w2 ⟨rfl, rfl⟩) | (at_builtin; refine wpList_copyI rfl _ _ rfl (base := w.heap.size) rfl rfl (H.out.below (b1.alloc b1.size _)) (Go.Deep.blk_alloc_new _ _) b1.size ?_; intro v3 w3 o3 b3))
      rw [HA.out]
      obtain ⟨g, cap3, rfl⟩ := o3.some (by omega)
      have q1 := b1.alloc b1.size (.cells #[] 3)
      have B3 := Lib.hid (q1.trans (b3.mono q1.size))
      clear q1 b3 b1
      have g0 := o3.block
      have s3 := B3.out.size
      have z1 := o3.at (j := 0) i0
      have z2 := o3.soft 0
      rw [← hx] at z1
      have o4 := o3.put (j := 0) (x + (1))
      have b4 := B3.out.setCell (p := ⟨g, 0, none⟩) g0.1 (.int .i64 (x + (1)))
      clear hx
      rw [M.out] at o4
      obtain ⟨w4, hw4⟩ : ∃ X, X = w3.setCell ⟨g, 0, none⟩ (.int .i64 (x + (1))) := ⟨_, rfl⟩
      rw [← hw4] at o4 b4
      have HW4 := Lib.hid hw4
      clear hw4
      have hml := o4.len
      have SV := Lib.hid (specCounts (o4.ints (by omega)))
      have OW := Lib.hid o4
      have B4 := Lib.hid b4
      clear o3 o4 b4 hml
      obtain ⟨t2, ht2⟩ : ∃ t2, t2 = cntB ms := ⟨_, rfl⟩
      rw [← ht2] at SV
      cases t2
      · have E := Lib.hid (BAD.out ht2.symm)
        clear ht2
        go_wp2_with (go_at_call 29; rw [← HW4.out]; refine SV.out.mono ?_; rintro e w5 ⟨rfl, b5⟩)
        go_ret2
        have q5 := B4.out.trans (b5.mono B4.out.size)
        exact ⟨.slice (some ⟨w5.heap.size, 0, none⟩) 0 0, by rw [E.out]; rfl, by rw [E.out]; exact (own_empty w5).mono q5.size, q5.alloc q5.size _⟩
      · have E := Lib.hid (YES.out ht2.symm)
        clear ht2
        go_wp2_with (go_at_call 29; rw [← HW4.out]; refine SV.out.mono ?_; rintro e w5 ⟨rfl, b5⟩)
        go_ret2
        exact ⟨.slice (some ⟨g, 0, none⟩) cs.length cap3, by rw [E.out]; rfl, by rw [E.out]; exact OW.out.below b5, B4.out.trans (b5.mono B4.out.size)⟩
    obtain ⟨c, rfl⟩ : ∃ d, c = d + 1 := ⟨c - 1, by omega⟩
    clear hc0
    by_cases hce : c + 1 = cs.length
    · have HA := Lib.hid (show p = (c : Int) + 1 by omega)
      have hB : (cs.length : Int) ≤ (c : Int) + 1 := by omega
      have hC : (0 : Int) < (c : Int) + 1 := by omega
      have i1 : c < cs.length := by omega
      have HCE := Lib.hid hce
      clear hci hcn hce
      obtain ⟨ms, hms⟩ : ∃ ms, ms = moved cs (c + 1) (1) := ⟨_, rfl⟩
      rw [← hms] at YES BAD
      obtain ⟨y, hy⟩ : ∃ y, y = cs.getD c 0 := ⟨_, rfl⟩
      have ry := HC.out.2 _ i1
      rw [← hy] at ry
      obtain ⟨y0, y50⟩ := ry
      have M := Lib.hid (show cs.set c (y - 1) = ms by rw [hms, hy, HCE.out]; exact moved_last (s := 1) HCE.out)
      clear hfar
      go_enter Try.func10, Try.ntmps10
      go_upto_region 10 with (first | (go_at_call 29; refine (SC.out _ (Below.refl _ _)).mono ?_; rintro e w1 ⟨rfl, b1⟩) | (go_at_call 30; refine (IL.out _).mono ?_; rintro e w2 ⟨rfl, rfl⟩) | (at_builtin; refine wpList_copyI rfl _ _ rfl (base := w.heap.size) rfl rfl (H.out.below (b1.alloc b1.size _)) (Go.Deep.blk_alloc_new _ _) b1.size ?_; intro v3 w3 o3 b3))
      rw [HA.out]
      obtain ⟨g, cap3, rfl⟩ := o3.some (by omega)
      have q1 := b1.alloc b1.size (.cells #[] 3)
      have B3 := Lib.hid (q1.trans (b3.mono q1.size))
      clear q1 b3 b1
      have g0 := o3.block
      have s3 := B3.out.size
      have z1 := o3.at (j := c) i1
      have z2 := o3.soft c
      rw [← hy] at z1
      have o4 := o3.put (j := c) (y - 1)
      have b4 := B3.out.setCell (p := ⟨g, c, none⟩) g0.1 (.int .i64 (y - 1))
      clear hy
      rw [M.out] at o4
      obtain ⟨w4, hw4⟩ : ∃ X, X = w3.setCell ⟨g, c, none⟩ (.int .i64 (y - 1)) := ⟨_, rfl⟩
      rw [← hw4] at o4 b4
      have HW4 := Lib.hid hw4
      clear hw4
      have hml := o4.len
      have SV := Lib.hid (specCounts (o4.ints (by omega)))
      have OW := Lib.hid o4
      have B4 := Lib.hid b4
      clear o3 o4 b4 hml
      obtain ⟨t2, ht2⟩ : ∃ t2, t2 = cntB ms := ⟨_, rfl⟩
      rw [← ht2] at SV
      cases t2
      · have E := Lib.hid (BAD.out ht2.symm)
        clear ht2
        go_wp2_with (go_at_call 29; rw [← HW4.out]; refine SV.out.mono ?_; rintro e w5 ⟨rfl, b5⟩)
        go_ret2
        have q5 := B4.out.trans (b5.mono B4.out.size)
        exact ⟨.slice (some ⟨w5.heap.size, 0, none⟩) 0 0, by rw [E.out]; rfl, by rw [E.out]; exact (own_empty w5).mono q5.size, q5.alloc q5.size _⟩
      · have E := Lib.hid (YES.out ht2.symm)
        clear ht2
        go_wp2_with (go_at_call 29; rw [← HW4.out]; refine SV.out.mono ?_; rintro e w5 ⟨rfl, b5⟩)
        go_ret2
        exact ⟨.slice (some ⟨g, 0, none⟩) cs.length cap3, by rw [E.out]; rfl, by rw [E.out]; exact OW.out.below b5, B4.out.trans (b5.mono B4.out.size)⟩
    · have HA := Lib.hid (show p = (c : Int) + 1 by omega)
      have hB : (c : Int) + 1 < (cs.length : Int) := by omega
      have hC : (0 : Int) < (c : Int) + 1 := by omega
      have i0 : c + 1 < cs.length := by omega
      have i1 : c < cs.length := by omega
      clear hci hcn hce
      obtain ⟨ms, hms⟩ : ∃ ms, ms = moved cs (c + 1) (1) := ⟨_, rfl⟩
      rw [← hms] at YES BAD
      obtain ⟨x, hx⟩ : ∃ x, x = cs.getD (c + 1) 0 := ⟨_, rfl⟩
      have rx := HC.out.2 _ i0
      rw [← hx] at rx
      obtain ⟨x0, x50⟩ := rx
      obtain ⟨y, hy⟩ : ∃ y, y = cs.getD c 0 := ⟨_, rfl⟩
      have ry := HC.out.2 _ i1
      rw [← hy] at ry
      obtain ⟨y0, y50⟩ := ry
      have M := Lib.hid (show (cs.set (c + 1) (x + (1))).set c (y - 1) = ms by rw [hms, hx, hy]; exact moved_right (s := 1) i0)
      clear hfar
      go_enter Try.func10, Try.ntmps10
      go_upto_region 10 with (first | (go_at_call 29; refine (SC.out _ (Below.refl _ _)).mono ?_; rintro e w1 ⟨rfl, b1⟩) | (go_at_call 30; refine (IL.out _).mono ?_; rintro e w2 ⟨rfl, rfl⟩) | (at_builtin; refine wpList_copyI rfl _ _ rfl (base := w.heap.size) rfl rfl (H.out.below (b1.alloc b1.size _)) (Go.Deep.blk_alloc_new _ _) b1.size ?_; intro v3 w3 o3 b3))
      rw [HA.out]
      obtain ⟨g, cap3, rfl⟩ := o3.some (by omega)
      have q1 := b1.alloc b1.size (.cells #[] 3)
      have B3 := Lib.hid (q1.trans (b3.mono q1.size))
      clear q1 b3 b1
      have g0 := o3.block
      have s3 := B3.out.size
      have z1 := o3.at (j := c + 1) i0
      have z2 := o3.soft (c + 1)
      rw [← hx] at z1
      have o4 := o3.put (j := c + 1) (x + (1))
      have z3 := o4.at (j := c) (by rw [List.length_set]; exact i1)
      have z4 := o4.soft c
      rw [getD_set i0 i1, if_neg (by omega), ← hy] at z3
      have o4 := o4.put (j := c) (y - 1)
      have b4 := (B3.out.setCell (p := ⟨g, c + 1, none⟩) g0.1 (.int .i64 (x + (1)))).setCell (p := ⟨g, c, none⟩) g0.1 (.int .i64 (y - 1))
      clear hx hy
      rw [M.out] at o4
      obtain ⟨w4, hw4⟩ : ∃ X, X = (w3.setCell ⟨g, c + 1, none⟩ (.int .i64 (x + (1)))).setCell ⟨g, c, none⟩ (.int .i64 (y - 1)) := ⟨_, rfl⟩
      rw [← hw4] at o4 b4
      have HW4 := Lib.hid hw4
      clear hw4
      have hml := o4.len
      have SV := Lib.hid (specCounts (o4.ints (by omega)))
      have OW := Lib.hid o4
      have B4 := Lib.hid b4
      clear o3 o4 b4 hml
      obtain ⟨t2, ht2⟩ : ∃ t2, t2 = cntB ms := ⟨_, rfl⟩
      rw [← ht2] at SV
      cases t2
      · have E := Lib.hid (BAD.out ht2.symm)
        clear ht2
        go_wp2_with (go_at_call 29; rw [← HW4.out]; refine SV.out.mono ?_; rintro e w5 ⟨rfl, b5⟩)
        go_ret2
        have q5 := B4.out.trans (b5.mono B4.out.size)
        exact ⟨.slice (some ⟨w5.heap.size, 0, none⟩) 0 0, by rw [E.out]; rfl, by rw [E.out]; exact (own_empty w5).mono q5.size, q5.alloc q5.size _⟩
      · have E := Lib.hid (YES.out ht2.symm)
        clear ht2
        go_wp2_with (go_at_call 29; rw [← HW4.out]; refine SV.out.mono ?_; rintro e w5 ⟨rfl, b5⟩)
        go_ret2
        exact ⟨.slice (some ⟨g, 0, none⟩) cs.length cap3, by rw [E.out]; rfl, by rw [E.out]; exact OW.out.below b5, B4.out.trans (b5.mono B4.out.size)⟩

end Go.Proofs.Ytmdkfhbkdeoahaa
