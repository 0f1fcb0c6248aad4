/-
  Net numbers of pulses: the model's and the program's. For lists of at most 1048576 numbers.
-/
import Derived.Test.YtmdkfhbkdeoahaaCtrC
namespace Go.Proofs.Ytmdkfhbkdeoahaa
open Go.RowKit Go.Sort

theorem net_made (w : World) (m : Nat) (hm : m ≤ 8) (ps : List Int) : OwnI (w.alloc (.cells (madeCells #[.int .i64 0] (m + 1)) 3)) w.heap.size (.slice (some ⟨w.heap.size, 0, none⟩) (m + 1) (m + 1)) (netL m ps 0) :=
  own_of_rowIs (f := fun _ => 0) (World.rowIs_made w _ (m + 1) _) (Nat.le_refl _) (by simp only [maxLen]; omega) (netL_length _ _ _) (fun i hi => by rw [netL_getD (by omega)]; rfl)
theorem made_net (m : Nat) (hm : m ≤ 8) : ∀ w : World, (Instr.makeSlice 23 (.int .i64 ((m : Int) + 1)) (.int .i64 ((m : Int) + 1))).run Try.prog w = .ok (.slice (some ⟨w.heap.size, 0, none⟩) (m + 1) (m + 1)) (w.alloc (.cells (madeCells #[.int .i64 0] (m + 1)) 3)) :=
  run_make_row' (P := Try.prog) 23 3 (.int .i64 0) 8 Try.underlying23 info_int rfl .i64 .i64 (m + 1) (by omega) (by omega)

set_option maxHeartbeats 2000000 in
theorem implNet {w : World} {v : Value} {n : Int} {ps : List Int} (h : Ints w v ps) (hf : Fits ps) (_hn : -9223372036854775808 ≤ n ∧ n ≤ 9223372036854775807) :
    Calls Try.prog 16 #[.int .i64 n, v] w (MadeIntsB w (netV n ps) (netOk n ps)) := by
  have CV := Lib.hid (circuits_is n)
  have hl := h.len
  obtain ⟨a, cap, rfl, hsp⟩ := h.spot
  have hl' : (ps.length : Int) ≤ 1048576 := by omega
  have SP := Lib.hid hsp
  clear hsp h
  by_cases hn : ¬ (1 ≤ n ∧ n ≤ 8)
  · rw [decide_eq_false hn] at CV
    have N := netOk_n (ps := ps) (show n < 1 ∨ 8 < n by omega)
    have E := Lib.hid (And.intro (netV_no N) N)
    clear hn N
    go_enter Try.func16, Try.ntmps16
    go_wp2_with (go_at_call 35; refine (CV.out _).mono ?_; rintro e w1 ⟨rfl, rfl⟩)
    go_ret2
    exact ⟨.slice none 0 0, by rw [E.out.2]; rfl, by rw [E.out.1]; exact own_nil _, Below.refl _ _⟩
  have hn := Decidable.not_not.1 hn
  rw [decide_eq_true hn] at CV
  obtain ⟨m, rfl⟩ : ∃ m : Nat, n = m := ⟨n.toNat, by omega⟩
  have hm8 : m ≤ 8 := by omega
  have HN := Lib.hid hn
  have hm8' : (m : Int) ≤ 8 := by omega
  clear hn
  have hmk := made_net m hm8
  have O0 := Lib.hid (net_made w m hm8 ps)
  have B0 := Lib.hid (below_alloc w (.cells (madeCells #[.int .i64 0] (m + 1)) 3))
  have CO := Lib.hid (fun p hp => implCounter m p hp)
  obtain ⟨W, hW⟩ : ∃ W, W = w.alloc (.cells (madeCells #[.int .i64 0] (m + 1)) 3) := ⟨_, rfl⟩
  rw [← hW] at O0 B0
  have HW := Lib.hid hW
  clear hW
  go_enter Try.func16, Try.ntmps16
  go_wp2_with (go_at_call 35; refine (CV.out _).mono ?_; rintro e w1 ⟨rfl, rfl⟩)
  rw [← HW.out]
  clear hmk
  go_loopw [8, 9, 10, 11, 20] (fun _ _ _ _ i wr => ∃ k : Nat, k ≤ ps.length ∧ i = .int .i64 k ∧ Hid (∀ j, j < k → (pc (ps.getD j 0) : Int) ≤ m) ∧ OwnI wr w.heap.size (.slice (some ⟨w.heap.size, 0, none⟩) (m + 1) (m + 1)) (netL m ps k) ∧ Below w.heap.size w wr) (fun _ _ _ _ i _ => ps.length - (intOf i).toNat)
  case atStart => exact ⟨0, by omega, rfl, Lib.hid (fun j hj => by omega), O0.out, B0.out⟩
  case round =>
    clear O0 B0
    obtain ⟨k, hk, rfl, HK, hown, hbel⟩ := hrel
    by_cases hlt : k < ps.length
    · have hki : (k : Int) < (ps.length : Int) := by omega
      obtain ⟨b, o, rfl, hb, hcell⟩ := SP.out k hlt
      obtain ⟨p, hp⟩ : ∃ p, p = ps.getD k 0 := ⟨_, rfl⟩
      have hc1 : wr.cell? ⟨b, o + k, none⟩ = some (.int .i64 p) := by rw [hp]; exact (hbel.cell (p := ⟨b, o + k, none⟩) hb).trans (hcell k hlt)
      have CP := CO.out p (by rw [hp]; exact hf k hlt)
      clear hcell
      obtain ⟨tt, htt⟩ : ∃ tt, tt = decide (pc p ≤ m) := ⟨_, rfl⟩
      rw [← htt] at CP
      cases tt
      · have N := netOk_far (n := (m : Int)) hlt (by rw [← hp]; have := of_decide_eq_false htt.symm; omega)
        have E := Lib.hid (And.intro (netV_no N) N)
        have CP := Lib.hid CP
        have B1 := Lib.hid hbel
        clear htt hp N hbel hown
        go_wp2_with (go_at_call 34; refine (CP.out _).mono ?_; rintro e w2 ⟨rfl, rfl⟩)
        go_ret2
        exact ⟨.slice none 0 0, by rw [E.out.2]; rfl, by rw [E.out.1]; exact World.ownsRow_nil _ _ _ _, B1.out⟩
      · have hcm := of_decide_eq_true htt.symm
        clear htt
        have HP := Lib.hid (show ∀ j, j < k + 1 → (pc (ps.getD j 0) : Int) ≤ m from fun j hj => by
          by_cases e : j = k
          · subst e; rw [← hp]; omega
          · exact HK.out j (by omega))
        obtain ⟨s, hs⟩ : ∃ s, s = sg p := ⟨_, rfl⟩
        have hs2 := sg_two p
        obtain ⟨c, hcc⟩ : ∃ c, c = pc p := ⟨_, rfl⟩
        rw [← hs] at CP hs2
        rw [← hcc] at CP hcm
        have z1 := hown.at (j := c) (by rw [netL_length]; omega)
        have z2 := hown.soft c
        rw [netL_getD hcm] at z1
        have o4 := hown.put (j := c) (netF ps c k + s)
        rw [netL_succ hcm (by rw [← hp, ← hcc]) (by rw [← hp, ← hs])] at o4
        have hx := netF_range ps c k
        obtain ⟨x, hxx⟩ : ∃ x, x = netF ps c k := ⟨_, rfl⟩
        rw [← hxx] at z1 o4 hx
        have b4 := hbel.setCell (p := ⟨w.heap.size, c, none⟩) (Nat.le_refl _) (.int .i64 (x + s))
        obtain ⟨x0, x1⟩ : -1048576 ≤ x ∧ x ≤ 1048576 := by omega
        obtain ⟨s0, s1⟩ : -1 ≤ s ∧ s ≤ 1 := by omega
        have hci : (c : Int) < (m : Int) + 1 := by omega
        have CP := Lib.hid CP
        have O4 := Lib.hid o4
        have B4 := Lib.hid b4
        clear hx hxx hs hs2 hcc hp o4 b4 hown hbel hcm
        go_wp2_with (go_at_call 34; refine (CP.out _).mono ?_; rintro e w2 ⟨rfl, rfl⟩)
        go_roundw
        case rel => exact ⟨k + 1, by omega, by go_num, HP, O4.out, B4.out⟩
        case measure => simp [intOf]; omega
    · obtain rfl : k = ps.length := by omega
      have Y := netOk_yes HN.out HK.out
      have E := Lib.hid (And.intro (netV_yes Y) Y)
      have O1 := Lib.hid hown
      have B1 := Lib.hid hbel
      clear hown hbel Y
      go_wp2_with fail
      go_ret2
      exact ⟨.slice (some ⟨w.heap.size, 0, none⟩) (m + 1) (m + 1), by rw [E.out.2]; rfl, by rw [E.out.1]; exact O1.out, B1.out⟩

set_option maxHeartbeats 4000000 in
theorem specNet {w : World} {v : Value} {n : Int} {ps : List Int} (h : Ints w v ps) (hf : Fits ps) (_hn : -9223372036854775808 ≤ n ∧ n ≤ 9223372036854775807) :
    Calls Try.prog 22 #[.int .i64 n, v] w (MadeIntsB w (netV n ps) (netOk n ps)) := by
  have CV := Lib.hid (in_is n 1 8)
  have hl := h.len
  obtain ⟨a, cap, rfl, hsp⟩ := h.spot
  have hl' : (ps.length : Int) ≤ 1048576 := by omega
  have SP := Lib.hid hsp
  clear hsp h
  by_cases hn : ¬ (1 ≤ n ∧ n ≤ 8)
  · rw [decide_eq_false hn] at CV
    have N := netOk_n (ps := ps) (show n < 1 ∨ 8 < n by omega)
    have E := Lib.hid (And.intro (netV_no N) N)
    clear hn N
    go_enter Try.func22, Try.ntmps22
    go_wp2_with (go_at_call 30; refine (CV.out _).mono ?_; rintro e w1 ⟨rfl, rfl⟩)
    go_ret2
    exact ⟨.slice (some ⟨w.heap.size, 0, none⟩) 0 0, by rw [E.out.2]; rfl, by rw [E.out.1]; exact own_empty w, below_alloc w _⟩
  have hn := Decidable.not_not.1 hn
  rw [decide_eq_true hn] at CV
  obtain ⟨m, rfl⟩ : ∃ m : Nat, n = m := ⟨n.toNat, by omega⟩
  have hm8 : m ≤ 8 := by omega
  have HN := Lib.hid hn
  have hm8' : (m : Int) ≤ 8 := by omega
  clear hn
  have hmk := made_net m hm8
  have O0 := Lib.hid (net_made w m hm8 ps)
  have B0 := Lib.hid (below_alloc w (.cells (madeCells #[.int .i64 0] (m + 1)) 3))
  obtain ⟨W, hW⟩ : ∃ W, W = w.alloc (.cells (madeCells #[.int .i64 0] (m + 1)) 3) := ⟨_, rfl⟩
  rw [← hW] at O0 B0
  have HW := Lib.hid hW
  clear hW
  go_enter Try.func22, Try.ntmps22
  go_wp2_with (go_at_call 30; refine (CV.out _).mono ?_; rintro e w1 ⟨rfl, rfl⟩)
  rw [← HW.out]
  clear hmk
  go_loopw [7] (fun i wr => ∃ k : Nat, k ≤ ps.length ∧ i = .int .i64 k ∧ Hid (∀ j, j < k → (pc (ps.getD j 0) : Int) ≤ m) ∧ OwnI wr w.heap.size (.slice (some ⟨w.heap.size, 0, none⟩) (m + 1) (m + 1)) (netL m ps k) ∧ Below w.heap.size w wr) (fun i _ => ps.length - (intOf i).toNat)
  case atStart => exact ⟨0, by omega, rfl, Lib.hid (fun j hj => by omega), O0.out, B0.out⟩
  case round =>
    clear O0 B0
    obtain ⟨k, hk, rfl, HK, hown, hbel⟩ := hrel
    by_cases hlt : k < ps.length
    · have hki : (k : Int) < (ps.length : Int) := by omega
      obtain ⟨b, o, rfl, hb, hcell⟩ := SP.out k hlt
      obtain ⟨p, hp⟩ : ∃ p, p = ps.getD k 0 := ⟨_, rfl⟩
      have hc1 : wr.cell? ⟨b, o + k, none⟩ = some (.int .i64 p) := by rw [hp]; exact (hbel.cell (p := ⟨b, o + k, none⟩) hb).trans (hcell k hlt)
      have hpf := hf k hlt
      rw [← hp] at hpf
      have CP := in_is p (-1 - m) m
      rw [← pc_le hpf] at CP
      clear hcell
      obtain ⟨tt, htt⟩ : ∃ tt, tt = decide (pc p ≤ m) := ⟨_, rfl⟩
      rw [← htt] at CP
      cases tt
      · have N := netOk_far (n := (m : Int)) hlt (by rw [← hp]; have := of_decide_eq_false htt.symm; omega)
        have E := Lib.hid (And.intro (netV_no N) N)
        have CP := Lib.hid CP
        have B1 := Lib.hid hbel
        clear htt hp N hbel hown hpf
        go_wp2_with (go_at_call 30; refine (CP.out _).mono ?_; rintro e w2 ⟨rfl, rfl⟩)
        go_ret2
        exact ⟨.slice (some ⟨wr.heap.size, 0, none⟩) 0 0, by rw [E.out.2]; rfl, by rw [E.out.1]; exact (own_empty wr).mono B1.out.size, B1.out.alloc B1.out.size _⟩
      · have hcm := of_decide_eq_true htt.symm
        clear htt
        have HP := Lib.hid (show ∀ j, j < k + 1 → (pc (ps.getD j 0) : Int) ≤ m from fun j hj => by
          by_cases e : j = k
          · subst e; rw [← hp]; omega
          · exact HK.out j (by omega))
        obtain ⟨s, hs⟩ : ∃ s, s = sg p := ⟨_, rfl⟩
        obtain ⟨c, hcc⟩ : ∃ c, c = pc p := ⟨_, rfl⟩
        have hcc' := hcc
        rw [← hcc] at hcm
        have z1 := hown.at (j := c) (by rw [netL_length]; omega)
        have z2 := hown.soft c
        rw [netL_getD hcm] at z1
        have o4 := hown.put (j := c) (netF ps c k + s)
        rw [netL_succ hcm (by rw [← hp, ← hcc]) (by rw [← hp, ← hs])] at o4
        have hx := netF_range ps c k
        obtain ⟨x, hxx⟩ : ∃ x, x = netF ps c k := ⟨_, rfl⟩
        rw [← hxx] at z1 o4 hx
        have b4 := hbel.setCell (p := ⟨w.heap.size, c, none⟩) (Nat.le_refl _) (.int .i64 (x + s))
        obtain ⟨x0, x1⟩ : -1048576 ≤ x ∧ x ≤ 1048576 := by omega
        have hci : (c : Int) < (m : Int) + 1 := by omega
        have CP := Lib.hid CP
        clear hx hxx hown hbel hcm hpf
        rcases Int.lt_or_le p 0 with hneg | hneg
        · have hsi : s = -1 := by rw [hs]; exact sg_neg hneg
          have hpi : p = -1 - (c : Int) := by have := pc_neg hneg; rw [← hcc] at this; omega
          subst hsi
          clear hs hcc hcc' hp
          subst hpi
          have hidx : (-1 - (-1 - (c : Int))).toNat = c := by omega
          have hxs : x + -1 = x - 1 := by omega
          rw [hxs] at o4 b4
          have y1 : wr.cell? ⟨w.heap.size, (-1 - (-1 - (c : Int))).toNat, none⟩ = some (.int .i64 x) := by rw [hidx]; exact z1
          have y2 : wr.frozen? ⟨w.heap.size, (-1 - (-1 - (c : Int))).toNat, none⟩ = false := by rw [hidx]; exact z2
          have O4 := Lib.hid (show OwnI (wr.setCell ⟨w.heap.size, (-1 - (-1 - (c : Int))).toNat, none⟩ (.int .i64 (x - 1))) w.heap.size (.slice (some ⟨w.heap.size, 0, none⟩) (m + 1) (m + 1)) (netL m ps (k + 1)) by rw [hidx]; exact o4)
          have B4 := Lib.hid (show Below w.heap.size w (wr.setCell ⟨w.heap.size, (-1 - (-1 - (c : Int))).toNat, none⟩ (.int .i64 (x - 1))) by rw [hidx]; exact b4)
          have hi0 : 0 ≤ -1 - (-1 - (c : Int)) := by omega
          have hi1 : -1 - (-1 - (c : Int)) < (m : Int) + 1 := by omega
          clear o4 b4 z1 z2 hidx hxs
          go_wp2_with (go_at_call 30; refine (CP.out _).mono ?_; rintro e w2 ⟨rfl, rfl⟩)
          go_region
          go_wp2_with fail
          go_roundw
          case rel => exact ⟨k + 1, by omega, by go_num, HP, O4.out, B4.out.drew⟩
          case measure => simp [intOf]; omega
        · have hsi : s = 1 := by rw [hs]; exact sg_pos hneg
          have hpi : p = (c : Int) := by have := pc_pos hneg; rw [← hcc] at this; omega
          subst hsi
          clear hs hcc hcc' hp
          subst hpi
          have O4 := Lib.hid o4
          have B4 := Lib.hid b4
          clear o4 b4
          go_wp2_with (go_at_call 30; refine (CP.out _).mono ?_; rintro e w2 ⟨rfl, rfl⟩)
          go_region
          go_wp2_with fail
          go_roundw
          case rel => exact ⟨k + 1, by omega, by go_num, HP, O4.out, B4.out.drew⟩
          case measure => simp [intOf]; omega
    · obtain rfl : k = ps.length := by omega
      have Y := netOk_yes HN.out HK.out
      have E := Lib.hid (And.intro (netV_yes Y) Y)
      have O1 := Lib.hid hown
      have B1 := Lib.hid hbel
      clear hown hbel Y
      go_wp2_with fail
      go_ret2
      exact ⟨.slice (some ⟨w.heap.size, 0, none⟩) (m + 1) (m + 1), by rw [E.out.2]; rfl, by rw [E.out.1]; exact O1.out, B1.out⟩

end Go.Proofs.Ytmdkfhbkdeoahaa
