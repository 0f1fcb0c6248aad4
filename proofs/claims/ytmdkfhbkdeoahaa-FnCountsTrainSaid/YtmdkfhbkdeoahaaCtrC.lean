/-
  The counts behind all pulses of a list: the program's, and the model's. For lists of at most 1048576 numbers.
-/
import Derived.Test.YtmdkfhbkdeoahaaCtrB
namespace Go.Proofs.Ytmdkfhbkdeoahaa
open Go.RowKit Go.Sort

/-- Where a list lies, if there is something in it. -/
theorem Ints.spot {w : World} {v : Value} {xs : List Int} (h : Ints w v xs) : ∃ a cap, v = .slice a xs.length cap ∧ ∀ k, k < xs.length → ∃ b o, a = some ⟨b, o, none⟩ ∧ b < w.heap.size ∧ ∀ i, i < xs.length → w.cell? ⟨b, o + i, none⟩ = some (.int .i64 (xs.getD i 0)) := by
  obtain ⟨a, cap, rfl, hl, hc⟩ := h
  refine ⟨a, cap, rfl, fun k hk => ?_⟩
  rcases hc with rfl | ⟨b, o, rfl, hb, hcell⟩
  · simp at hk
  · exact ⟨b, o, rfl, hb, hcell⟩

set_option maxHeartbeats 4000000 in
theorem implRunC {w : World} {u v : Value} {cs ps : List Int} (h : Ints w u cs) (h' : Ints w v ps) (hf : Fits ps) :
    Calls Try.prog 14 #[u, v] w (MadeO w (runC cs ps)) := by
  have IV := implCounts h
  have CL := Lib.hid (cloneInts h)
  have hl1 := h.len
  obtain ⟨a1, cap1, rfl, -⟩ := h
  have hl2 := h'.len
  obtain ⟨a2, cap2, rfl, hsp⟩ := h'.spot
  have SP := Lib.hid hsp
  clear hsp h'
  have hl2' : (ps.length : Int) ≤ 1048576 := by omega
  obtain ⟨t, ht⟩ : ∃ t, t = cntB cs := ⟨_, rfl⟩
  rw [← ht] at IV
  have IV := Lib.hid IV
  cases t
  · have E := Lib.hid (runC_not (ps := ps) ht.symm)
    clear ht
    go_enter Try.func14, Try.ntmps14
    go_wp2_with (go_at_call 32; refine IV.out.mono ?_; rintro e w1 ⟨rfl, rfl⟩)
    go_ret2
    exact ⟨.slice none 0 0, by rw [E.out]; rfl, by rw [E.out]; exact own_nil _, Below.refl _ _⟩
  have HT := Lib.hid ht.symm
  have h8 := (cntB_of ht.symm).1
  clear ht
  have h8' : (cs.length : Int) ≤ 8 := by omega
  have CO := Lib.hid (fun p hp => implCounter cs.length p hp)
  go_enter Try.func14, Try.ntmps14
  go_wp2_with (first | (go_at_call 32; refine IV.out.mono ?_; rintro e w1 ⟨rfl, rfl⟩) | (go_at_call 33; refine CL.out.mono ?_; rintro e w1 ⟨v1, rfl, o1, b1⟩; obtain ⟨g, cap, rfl⟩ := o1.some (by omega)))
  go_loopw [9, 10, 11, 12, 22] (fun _ _ _ _ i wr => ∃ (k : Nat) (x : List Int), k ≤ ps.length ∧ i = .int .i64 k ∧ Hid (runTo cs ps k = some x) ∧ OwnI wr w.heap.size (.slice (some ⟨g, 0, none⟩) cs.length cap) x ∧ Below w.heap.size w wr) (fun _ _ _ _ i _ => ps.length - (intOf i).toNat)
  case atStart => exact ⟨0, cs, by omega, rfl, Lib.hid rfl, o1, b1⟩
  case round =>
    clear o1 b1
    obtain ⟨k, x, hk, rfl, HX, hown, hbel⟩ := hrel
    have HXL := Lib.hid hown.len
    have OX := Lib.hid hown
    by_cases hlt : k < ps.length
    · have hki : (k : Int) < (ps.length : Int) := by omega
      obtain ⟨b, o, rfl, hb, hcell⟩ := SP.out k hlt
      obtain ⟨p, hp⟩ : ∃ p, p = ps.getD k 0 := ⟨_, rfl⟩
      have hc1 : wr.cell? ⟨b, o + k, none⟩ = some (.int .i64 p) := by rw [hp]; exact (hbel.cell (p := ⟨b, o + k, none⟩) hb).trans (hcell k hlt)
      have CP := CO.out p (by rw [hp]; exact hf k hlt)
      have SU := Lib.hid (show runTo cs ps (k + 1) = pul x p by rw [hp]; exact runTo_succ HX.out)
      clear hcell hp
      obtain ⟨tt, htt⟩ : ∃ tt, tt = decide (pc p ≤ cs.length) := ⟨_, rfl⟩
      rw [← htt] at CP
      cases tt
      · have hfar := of_decide_eq_false htt.symm
        have E := Lib.hid (runC_none (show k + 1 ≤ ps.length by omega) (SU.out.trans (pul_far (by rw [← HXL.out]; omega))))
        clear htt hfar
        have CP := Lib.hid CP
        go_wp2_with (go_at_call 34; refine (CP.out _).mono ?_; rintro e w2 ⟨rfl, rfl⟩)
        go_ret2
        exact ⟨.slice none 0 0, by rw [E.out]; rfl, by rw [E.out]; exact World.ownsRow_nil _ _ _ _, hbel⟩
      have hcn := of_decide_eq_true htt.symm
      clear htt
      have XV := cntB_of (runTo_ok HT.out HX.out).1
      obtain ⟨s, hs⟩ : ∃ s, s = sg p := ⟨_, rfl⟩
      have hs2 := sg_two p
      have YES := fun h2 => pul_yes (cs := x) (p := p) (by rw [← HXL.out]; omega) h2
      have BAD := pul_bad (cs := x) (p := p)
      rw [← hs] at CP hs2 YES BAD
      have hs1 : -1 ≤ s ∧ s ≤ 1 := by omega
      obtain ⟨hsa, hsb⟩ := hs1
      clear hs2 hs
      obtain ⟨c, hcc⟩ : ∃ c, c = pc p := ⟨_, rfl⟩
      rw [← hcc] at CP hcn YES BAD
      clear hcc
      rcases Nat.eq_zero_or_pos c with hc0 | hc0
      · subst hc0
        have CP := Lib.hid (show ∀ w, Calls Try.prog 34 #[.int .i64 cs.length, .int .i64 p] w fun e w' => e = .returned (.tuple #[.int .i64 0, .int .i64 s, .bool true]) ∧ w = w' from CP)
        have hB : (0 : Int) < (cs.length : Int) := by omega
        have i0 : 0 < x.length := by rw [← HXL.out]; omega
        clear hcn
        have z1 := hown.at (j := 0) i0
        have z2 := hown.soft 0
        obtain ⟨y, hy⟩ : ∃ y, y = x.getD 0 0 := ⟨_, rfl⟩
        have ry := XV.2 0 i0
        rw [← hy] at z1 ry
        obtain ⟨y0, y50⟩ := ry
        obtain ⟨ms, hms⟩ : ∃ ms, ms = moved x 0 s := ⟨_, rfl⟩
        rw [← hms] at YES BAD
        have o4 := hown.put (j := 0) (y + s)
        rw [hy, moved_first i0, ← hms, ← hy] at o4
        obtain ⟨w4, hw4⟩ : ∃ X, X = wr.setCell ⟨g, 0, none⟩ (.int .i64 (y + s)) := ⟨_, rfl⟩
        have b4 := hbel.setCell (p := ⟨g, 0, none⟩) hown.block.1 (.int .i64 (y + s))
        rw [← hw4] at o4 b4
        have HW4 := Lib.hid hw4
        clear hw4 hy hms
        have hml := o4.len
        have SV := implCounts (o4.ints (by omega))
        have O4 := Lib.hid o4
        have B4 := Lib.hid b4
        clear o4 b4 hml hown XV
        obtain ⟨t2, ht2⟩ : ∃ t2, t2 = cntB ms := ⟨_, rfl⟩
        rw [← ht2] at SV
        have SV := Lib.hid SV
        have B0 := Lib.hid hbel
        clear hbel
        cases t2
        · have E := Lib.hid (runC_none (show k + 1 ≤ ps.length by omega) (SU.out.trans (BAD ht2.symm)))
          clear ht2 YES BAD
          go_wp2_with (first | (go_at_call 34; refine (CP.out _).mono ?_; rintro e w2 ⟨rfl, rfl⟩) | (go_at_call 32; rw [← HW4.out]; refine SV.out.mono ?_; rintro e w5 ⟨rfl, rfl⟩))
          go_ret2
          exact ⟨.slice none 0 0, by rw [E.out]; rfl, by rw [E.out]; exact World.ownsRow_nil _ _ _ _, B4.out⟩
        · have E := Lib.hid (SU.out.trans (YES ht2.symm))
          clear ht2 YES BAD
          go_wp2_with (first | (go_at_call 34; refine (CP.out _).mono ?_; rintro e w2 ⟨rfl, rfl⟩) | (go_at_call 32; rw [← HW4.out]; refine SV.out.mono ?_; rintro e w5 ⟨rfl, rfl⟩))
          go_roundw
          case rel => exact ⟨k + 1, ms, by omega, by go_num, E, O4.out, B4.out⟩
          case measure => simp [intOf]; omega
      obtain ⟨c, rfl⟩ : ∃ d, c = d + 1 := ⟨c - 1, by omega⟩
      clear hc0
      have CP := Lib.hid (show ∀ w, Calls Try.prog 34 #[.int .i64 cs.length, .int .i64 p] w fun e w' => e = .returned (.tuple #[.int .i64 ((c : Int) + 1), .int .i64 s, .bool true]) ∧ w = w' from CP)
      have hC : (0 : Int) < (c : Int) + 1 := by omega
      by_cases hce : c + 1 = cs.length
      · have hB : (cs.length : Int) ≤ (c : Int) + 1 := by omega
        have hB2 : (c : Int) < (cs.length : Int) := by omega
        have i1 : c < x.length := by rw [← HXL.out]; omega
        have HCE := Lib.hid (hce.trans HXL.out)
        clear hcn hce
        have z1 := hown.at (j := c) i1
        have z2 := hown.soft c
        obtain ⟨y, hy⟩ : ∃ y, y = x.getD c 0 := ⟨_, rfl⟩
        have ry := XV.2 c i1
        rw [← hy] at z1 ry
        obtain ⟨y0, y50⟩ := ry
        obtain ⟨ms, hms⟩ : ∃ ms, ms = moved x (c + 1) s := ⟨_, rfl⟩
        rw [← hms] at YES BAD
        have o4 := hown.put (j := c) (y - s)
        rw [hy, moved_last HCE.out, ← HCE.out, ← hms, ← hy] at o4
        obtain ⟨w4, hw4⟩ : ∃ X, X = wr.setCell ⟨g, c, none⟩ (.int .i64 (y - s)) := ⟨_, rfl⟩
        have b4 := hbel.setCell (p := ⟨g, c, none⟩) hown.block.1 (.int .i64 (y - s))
        rw [← hw4] at o4 b4
        have HW4 := Lib.hid hw4
        clear hw4 hy hms
        have hml := o4.len
        have SV := implCounts (o4.ints (by omega))
        have O4 := Lib.hid o4
        have B4 := Lib.hid b4
        clear o4 b4 hml hown XV
        obtain ⟨t2, ht2⟩ : ∃ t2, t2 = cntB ms := ⟨_, rfl⟩
        rw [← ht2] at SV
        have SV := Lib.hid SV
        have B0 := Lib.hid hbel
        clear hbel
        cases t2
        · have E := Lib.hid (runC_none (show k + 1 ≤ ps.length by omega) (SU.out.trans (BAD ht2.symm)))
          clear ht2 YES BAD
          go_wp2_with (first | (go_at_call 34; refine (CP.out _).mono ?_; rintro e w2 ⟨rfl, rfl⟩) | (go_at_call 32; rw [← HW4.out]; refine SV.out.mono ?_; rintro e w5 ⟨rfl, rfl⟩))
          go_ret2
          exact ⟨.slice none 0 0, by rw [E.out]; rfl, by rw [E.out]; exact World.ownsRow_nil _ _ _ _, B4.out⟩
        · have E := Lib.hid (SU.out.trans (YES ht2.symm))
          clear ht2 YES BAD
          go_wp2_with (first | (go_at_call 34; refine (CP.out _).mono ?_; rintro e w2 ⟨rfl, rfl⟩) | (go_at_call 32; rw [← HW4.out]; refine SV.out.mono ?_; rintro e w5 ⟨rfl, rfl⟩))
          go_roundw
          case rel => exact ⟨k + 1, ms, by omega, by go_num, E, O4.out, B4.out⟩
          case measure => simp [intOf]; omega
      · have hB : (c : Int) + 1 < (cs.length : Int) := by omega
        have i0 : c + 1 < x.length := by rw [← HXL.out]; omega
        have i1 : c < x.length := by rw [← HXL.out]; omega
        clear hcn hce
        have z1 := hown.at (j := c) i1
        have z2 := hown.soft c
        obtain ⟨y, hy⟩ : ∃ y, y = x.getD c 0 := ⟨_, rfl⟩
        obtain ⟨z, hz⟩ : ∃ z, z = x.getD (c + 1) 0 := ⟨_, rfl⟩
        have ry := XV.2 c i1
        have rz := XV.2 (c + 1) i0
        rw [← hy] at z1 ry
        rw [← hz] at rz
        obtain ⟨y0, y50⟩ := ry
        obtain ⟨n0, n50⟩ := rz
        obtain ⟨ms, hms⟩ : ∃ ms, ms = moved x (c + 1) s := ⟨_, rfl⟩
        rw [← hms] at YES BAD
        have o4 := hown.put (j := c) (y - s)
        have z3 := o4.at (j := c + 1) (by rw [List.length_set]; exact i0)
        have z4 := o4.soft (c + 1)
        rw [getD_set i1 i0, if_neg (by omega), ← hz] at z3
        have o4 := o4.put (j := c + 1) (z + s)
        rw [hy, hz, moved_left i0, ← hms, ← hy, ← hz] at o4
        obtain ⟨w4, hw4⟩ : ∃ X, X = (wr.setCell ⟨g, c, none⟩ (.int .i64 (y - s))).setCell ⟨g, c + 1, none⟩ (.int .i64 (z + s)) := ⟨_, rfl⟩
        have b4 := (hbel.setCell (p := ⟨g, c, none⟩) hown.block.1 (.int .i64 (y - s))).setCell (p := ⟨g, c + 1, none⟩) hown.block.1 (.int .i64 (z + s))
        clear hz
        rw [← hw4] at o4 b4
        have HW4 := Lib.hid hw4
        clear hw4 hy hms
        have hml := o4.len
        have SV := implCounts (o4.ints (by omega))
        have O4 := Lib.hid o4
        have B4 := Lib.hid b4
        clear o4 b4 hml hown XV
        obtain ⟨t2, ht2⟩ : ∃ t2, t2 = cntB ms := ⟨_, rfl⟩
        rw [← ht2] at SV
        have SV := Lib.hid SV
        have B0 := Lib.hid hbel
        clear hbel
        cases t2
        · have E := Lib.hid (runC_none (show k + 1 ≤ ps.length by omega) (SU.out.trans (BAD ht2.symm)))
          clear ht2 YES BAD
          go_wp2_with (first | (go_at_call 34; refine (CP.out _).mono ?_; rintro e w2 ⟨rfl, rfl⟩) | (go_at_call 32; rw [← HW4.out]; refine SV.out.mono ?_; rintro e w5 ⟨rfl, rfl⟩))
          go_ret2
          exact ⟨.slice none 0 0, by rw [E.out]; rfl, by rw [E.out]; exact World.ownsRow_nil _ _ _ _, B4.out⟩
        · have E := Lib.hid (SU.out.trans (YES ht2.symm))
          clear ht2 YES BAD
          go_wp2_with (first | (go_at_call 34; refine (CP.out _).mono ?_; rintro e w2 ⟨rfl, rfl⟩) | (go_at_call 32; rw [← HW4.out]; refine SV.out.mono ?_; rintro e w5 ⟨rfl, rfl⟩))
          go_roundw
          case rel => exact ⟨k + 1, ms, by omega, by go_num, E, O4.out, B4.out⟩
          case measure => simp [intOf]; omega
    · obtain rfl : k = ps.length := by omega
      have E := Lib.hid ((runC_is HT.out).trans HX.out)
      have B0 := Lib.hid hbel
      clear hbel hown
      go_wp2_with fail
      go_ret2
      exact ⟨.slice (some ⟨g, 0, none⟩) cs.length cap, by rw [E.out]; rfl, by rw [E.out]; exact OX.out, B0.out⟩

set_option maxHeartbeats 1000000 in
theorem implPulse {w : World} {v : Value} {cs : List Int} {p : Int} (h : Ints w v cs) (hp : -9223372036854775808 ≤ p ∧ p ≤ 9223372036854775807) :
    Calls Try.prog 9 #[v, .int .i64 p] w (MadeO w (pulC cs p)) := by
  have b0 := below_alloc w (.cells #[.int .i64 p] 3)
  have hn : (w.alloc (.cells #[.int .i64 p] 3)).heap[w.heap.size]? = some (.cells #[.int .i64 p] 3 (0, 0)) := Go.Deep.blk_alloc_new _ _
  have hp1 : Ints (w.alloc (.cells #[.int .i64 p] 3)) (.slice (some ⟨w.heap.size, 0, none⟩) 1 1) [p] := by
    refine ⟨_, 1, rfl, ⟨by simp, by simp⟩, .inr ⟨w.heap.size, 0, rfl, (Array.getElem?_eq_some_iff.1 hn).1, fun i hi => ?_⟩⟩
    obtain rfl : i = 0 := by simpa using hi
    simp only [World.cell?, hn]
    rfl
  have R := implRunC (h.below b0) hp1 (fun j hj => by
    obtain rfl : j = 0 := by simpa using hj
    exact hp)
  rw [pulC_run] at R
  obtain ⟨W, hW⟩ : ∃ W, W = w.alloc (.cells #[.int .i64 p] 3) := ⟨_, rfl⟩
  rw [← hW] at R b0
  have HW := Lib.hid hW
  have R := Lib.hid R
  have B0 := Lib.hid b0
  clear hp1 hn hW b0 h hp
  go_enter Try.func9, Try.ntmps9
  go_wp2_with (go_at_call 14; rw [← HW.out]; refine R.out.mono ?_; rintro e w1 ⟨v1, rfl, o1, b1⟩)
  go_ret2
  exact ⟨v1, rfl, o1.mono B0.out.size, B0.out.trans (b1.mono B0.out.size)⟩

set_option maxHeartbeats 2000000 in
theorem specRunC {w : World} {u v : Value} {cs ps : List Int} (h : Ints w u cs) (h' : Ints w v ps) (hf : Fits ps) :
    Calls Try.prog 15 #[u, v] w (MadeO w (runC cs ps)) := by
  have IV := specCounts h
  have H := Lib.hid h
  have hl1 := h.len
  obtain ⟨a1, cap1, rfl, -⟩ := h
  have hl2 := h'.len
  obtain ⟨a2, cap2, rfl, hsp⟩ := h'.spot
  have SP := Lib.hid hsp
  clear hsp h'
  have hl2' : (ps.length : Int) ≤ 1048576 := by omega
  obtain ⟨t, ht⟩ : ∃ t, t = cntB cs := ⟨_, rfl⟩
  rw [← ht] at IV
  have IV := Lib.hid IV
  cases t
  · have E := Lib.hid (runC_not (ps := ps) ht.symm)
    clear ht
    go_enter Try.func15, Try.ntmps15
    go_wp2_with (go_at_call 29; refine IV.out.mono ?_; rintro e w1 ⟨rfl, b1⟩)
    go_ret2
    exact ⟨.slice (some ⟨w1.heap.size, 0, none⟩) 0 0, by rw [E.out]; rfl, by rw [E.out]; exact (own_empty w1).mono b1.size, b1.alloc b1.size _⟩
  have HT := Lib.hid ht.symm
  have h8 := (cntB_of ht.symm).1
  clear ht
  go_enter Try.func15, Try.ntmps15
  go_wp2_with (first | (go_at_call 29; refine IV.out.mono ?_; rintro e w1 ⟨rfl, b1⟩) | (at_builtin; refine wpList_copyI rfl _ _ rfl (base := w.heap.size) rfl rfl (H.out.below (b1.alloc b1.size _)) (Go.Deep.blk_alloc_new _ _) b1.size ?_; intro v3 w3 o3 b3; obtain ⟨g, cap, rfl⟩ := o3.some (by omega)))
  have q1 := b1.alloc b1.size (.cells #[] 3)
  have B3 := Lib.hid (q1.trans (b3.mono q1.size))
  have O3 := Lib.hid o3
  clear q1 b3 b1 o3
  go_loopw [6, 7, 8, 9] (fun r i _ _ wr => ∃ (k : Nat) (x : List Int) (g cap : Nat), k ≤ ps.length ∧ i = .int .i64 k ∧ r = .slice (some ⟨g, 0, none⟩) cs.length cap ∧ Hid (runTo cs ps k = some x) ∧ OwnI wr w.heap.size (.slice (some ⟨g, 0, none⟩) cs.length cap) x ∧ Below w.heap.size w wr) (fun _ i _ _ _ => ps.length - (intOf i).toNat)
  case atStart => exact ⟨0, cs, g, cap, by omega, rfl, rfl, Lib.hid rfl, O3.out, B3.out⟩
  case round =>
    clear O3 B3
    obtain ⟨k, x, g, cap, hk, rfl, rfl, HX, hown, hbel⟩ := hrel
    have HXL := Lib.hid hown.len
    by_cases hlt : k < ps.length
    · have hki : (k : Int) < (ps.length : Int) := by omega
      obtain ⟨b, o, rfl, hb, hcell⟩ := SP.out k hlt
      obtain ⟨p, hp⟩ : ∃ p, p = ps.getD k 0 := ⟨_, rfl⟩
      have hc1 : wr.cell? ⟨b, o + k, none⟩ = some (.int .i64 p) := by rw [hp]; exact (hbel.cell (p := ⟨b, o + k, none⟩) hb).trans (hcell k hlt)
      have CP := specPulse (p := p) (hown.ints (by rw [← HXL.out]; omega)) (by rw [hp]; exact hf k hlt)
      have XV := (runTo_ok HT.out HX.out).1
      have SU := Lib.hid (show runTo cs ps (k + 1) = pulC x p by rw [hp, runTo_succ HX.out]; unfold pulC; rw [if_pos XV])
      have PO := Lib.hid (fun ds => pul_ok (cs := x) (p := p) (ds := ds))
      obtain ⟨r, hr⟩ : ∃ r, r = pulC x p := ⟨_, rfl⟩
      rw [← hr] at CP SU
      have PX := Lib.hid (show pul x p = r by rw [hr]; unfold pulC; rw [if_pos XV])
      clear hcell hp hr XV
      have CP := Lib.hid CP
      have B0 := Lib.hid hbel
      clear hbel hown
      cases r with
      | none =>
        have E := Lib.hid (runC_none (show k + 1 ≤ ps.length by omega) SU.out)
        go_wp2_with (go_at_call 10; refine CP.out.mono ?_; rintro e w2 ⟨v2, rfl, o2, b2⟩)
        have q2 := B0.out.trans (b2.mono B0.out.size)
        go_ret2
        exact ⟨.slice (some ⟨w2.heap.size, 0, none⟩) 0 0, by rw [E.out]; rfl, by rw [E.out]; exact (own_empty w2).mono q2.size, q2.alloc q2.size _⟩
      | some ds =>
        have hd := PO.out ds PX.out
        have hdl : ds.length = cs.length := hd.2.1.trans HXL.out.symm
        clear hd
        go_wp2_with (go_at_call 10; refine CP.out.mono ?_; rintro e w2 ⟨v2, rfl, o2, b2⟩; obtain ⟨g2, cap2, rfl⟩ := o2.some (by show 0 < ds.length; omega))
        have O2 := Lib.hid (show OwnI w2 w.heap.size (.slice (some ⟨g2, 0, none⟩) cs.length cap2) ds from hdl ▸ OwnI.mono o2 B0.out.size)
        have B2 := Lib.hid (B0.out.trans (b2.mono B0.out.size))
        clear o2 b2
        go_roundw
        case rel => exact ⟨k + 1, ds, g2, cap2, by omega, by go_num, by rw [← hdl], SU, O2.out, B2.out⟩
        case measure => simp [intOf]; omega
    · obtain rfl : k = ps.length := by omega
      have E := Lib.hid ((runC_is HT.out).trans HX.out)
      have B0 := Lib.hid hbel
      have OX := Lib.hid hown
      clear hbel hown
      go_wp2_with fail
      go_ret2
      exact ⟨.slice (some ⟨g, 0, none⟩) cs.length cap, by rw [E.out]; rfl, by rw [E.out]; exact OX.out, B0.out⟩

end Go.Proofs.Ytmdkfhbkdeoahaa
