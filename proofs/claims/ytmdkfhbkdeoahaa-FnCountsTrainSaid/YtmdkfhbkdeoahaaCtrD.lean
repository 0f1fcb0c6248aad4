/-
  The sections without axles: the model's and the program's. For lists of at most 1048576 numbers.
-/
import Derived.Test.YtmdkfhbkdeoahaaCtrC
namespace Go.Proofs.Ytmdkfhbkdeoahaa
open Go.RowKit Go.Sort

theorem cell_one_new (w : World) (v : Value) (t : TypeId) : ∀ j u, [v][j]? = some u → (w.alloc (.cells #[v] t)).cell? ((⟨w.heap.size, 0, none⟩ : Addr).add j) = some u := by
  have hn : (w.alloc (.cells #[v] t)).heap[w.heap.size]? = some (.cells #[v] t (0, 0)) := Go.Deep.blk_alloc_new _ _
  intro j u hu
  cases j with
  | zero =>
    have e : (⟨w.heap.size, 0, none⟩ : Addr).add 0 = ⟨w.heap.size, 0, none⟩ := rfl
    rw [e]
    simp only [World.cell?, hn]
    simpa using hu
  | succ j => simp at hu

set_option maxHeartbeats 2000000 in
theorem implClear {w : World} {v : Value} {cs : List Int} (h : Ints w v cs) : Calls Try.prog 18 #[v] w (MadeInts w (clL cs)) := by
  obtain ⟨i0, hi, hz0, hz1, hz2⟩ := info_parts info_int
  have IV := implCounts h
  have hl := h.len
  obtain ⟨a, cap, rfl, hsp⟩ := h.spot
  have SP := Lib.hid hsp
  clear hsp h
  obtain ⟨t, ht⟩ : ∃ t, t = cntB cs := ⟨_, rfl⟩
  rw [← ht] at IV
  have IV := Lib.hid IV
  cases t
  · have E := Lib.hid (clL_not ht.symm)
    clear ht
    go_enter Try.func18, Try.ntmps18
    go_wp2_with (go_at_call 32; refine IV.out.mono ?_; rintro e w1 ⟨rfl, rfl⟩)
    go_ret
    exact ⟨.slice none 0 0, rfl, by rw [E.out]; exact own_nil _, Below.refl _ _⟩
  have E := Lib.hid (clL_is ht.symm)
  have h8 := (cntB_of ht.symm).1
  have h8' : (cs.length : Int) ≤ 8 := by omega
  clear ht
  go_enter Try.func18, Try.ntmps18
  go_wp2_with (go_at_call 32; refine IV.out.mono ?_; rintro e w1 ⟨rfl, rfl⟩)
  go_loopw [3, 4, 5, 11] (fun v _ _ i wr => ∃ k : Nat, k ≤ cs.length ∧ i = .int .i64 k ∧ OwnI wr w.heap.size v (clTo cs k) ∧ Below w.heap.size w wr) (fun _ _ _ i _ => cs.length - (intOf i).toNat)
  case atStart => exact ⟨0, by omega, rfl, own_nil _, Below.refl _ _⟩
  case round =>
    obtain ⟨k, hk, rfl, hown, hbel⟩ := hrel
    by_cases hlt : k < cs.length
    · have hki : (k : Int) < (cs.length : Int) := by omega
      obtain ⟨b, o, rfl, hb, hcell⟩ := SP.out k hlt
      obtain ⟨x, hx⟩ : ∃ x, x = cs.getD k 0 := ⟨_, rfl⟩
      have hc1 : wr.cell? ⟨b, o + k, none⟩ = some (.int .i64 x) := by rw [hx]; exact (hbel.cell (p := ⟨b, o + k, none⟩) hb).trans (hcell k hlt)
      have HX := Lib.hid hx
      clear hx hcell
      have hsz := hbel.size
      by_cases h0 : x = 0
      · subst h0
        have HC := Lib.hid (clTo_yes HX.out.symm)
        obtain ⟨m, hm⟩ : ∃ m, m = (clTo cs k).length := ⟨_, rfl⟩
        have hm8 : m ≤ 8 := by have := clTo_length cs k; omega
        have hor := hown
        unfold OwnI at hor
        rw [← hm] at hor
        have HM := Lib.hid hm
        have B0 := Lib.hid hbel
        clear hm hown hbel
        go_wp2_with (at_builtin; refine wpList_append_own _ rfl _ _ 23 rfl w.heap.size 3 i0 (.int .i64 0) 1 8 Try.underlying23 hi hz0 hz1 hz2 rfl (by decide) _ _ _ rfl (hor.alloc _) ⟨wr.heap.size, 0, none⟩ 1 1 [.int .i64 k] rfl rfl ?c1 ?c2 ?c3 ?c4 ?c5 ?_)
        case c1 => exact cell_one_new _ _ _
        case c2 => intro u hu; simp at hu; subst hu; rfl
        case c3 => simp only [maxLen]; omega
        case c4 => omega
        case c5 => simp; omega
        intro v' w2 hown' hgrow _
        have HB := Lib.hid ((B0.out.alloc (by omega) _).grown hgrow (by simp; omega) (fun g hg => (World.ownsRow.lt hor g hg).1))
        have HO := Lib.hid (show OwnI w2 w.heap.size v' (clTo cs (k + 1)) by
          unfold OwnI
          rw [HC.out, List.length_append, List.map_append, ← HM.out]
          exact hown')
        clear hown' hgrow hor
        go_wp2_with fail
        go_roundw
        case rel => exact ⟨k + 1, by omega, by go_num, HO.out, HB.out⟩
        case measure => simp [intOf]; omega
      · have HC := Lib.hid (clTo_no (cs := cs) (k := k) (by rw [← HX.out]; exact h0))
        have t0 : (x == 0) = false := by simp [h0]
        have OW := Lib.hid hown
        have B0 := Lib.hid hbel
        clear h0 hown hbel
        go_wp2_with fail
        go_roundw
        case rel => exact ⟨k + 1, by omega, by go_num, HC.out ▸ OW.out, B0.out⟩
        case measure => simp [intOf]; omega
    · obtain rfl : k = cs.length := by omega
      have OW := Lib.hid hown
      have B0 := Lib.hid hbel
      clear hown hbel
      go_wp2_with fail
      go_ret
      exact ⟨_, rfl, E.out ▸ OW.out, B0.out⟩

set_option maxHeartbeats 4000000 in
theorem specClear {w : World} {v : Value} {cs : List Int} (h : Ints w v cs) : Calls Try.prog 19 #[v] w (MadeInts w (clL cs)) := by
  obtain ⟨i0, hi, hz0, hz1, hz2⟩ := info_parts info_int
  have SC := Lib.hid (fun (X : World) (b : Below w.heap.size w X) => specCounts (h.below b))
  have hl := h.len
  obtain ⟨a, cap, rfl, hsp⟩ := h.spot
  have hl' : (cs.length : Int) ≤ 1048576 := by omega
  have SP := Lib.hid hsp
  clear hsp h
  have B1 := Lib.hid (below_alloc w (.cells #[] 3))
  have O1 := Lib.hid (own_empty w)
  obtain ⟨t, ht⟩ : ∃ t, t = cntB cs := ⟨_, rfl⟩
  rw [← ht] at SC
  cases t
  · have E := Lib.hid (clL_not ht.symm)
    clear ht
    rcases Nat.eq_zero_or_pos cs.length with h0 | h0
    · go_enter Try.func19, Try.ntmps19
      go_wp2_with fail
      refine wp_loop_rounds 1 ?_
      rw [rounds_succ]
      go_wp2_with fail
      go_ret
      exact ⟨.slice (some ⟨w.heap.size, 0, none⟩) 0 0, rfl, by rw [E.out]; exact O1.out, B1.out⟩
    · have hpos : (0 : Int) < (cs.length : Int) := by omega
      go_enter Try.func19, Try.ntmps19
      go_wp2_with fail
      refine wp_loop_rounds 1 ?_
      rw [rounds_succ]
      go_wp2_with (go_at_call 29; refine (SC.out _ B1.out).mono ?_; rintro e w1 ⟨rfl, b1⟩)
      have B2 := Lib.hid (B1.out.trans (b1.mono (by simp)))
      have O2 := Lib.hid (O1.out.below b1)
      clear b1
      go_ret
      exact ⟨.slice (some ⟨w.heap.size, 0, none⟩) 0 0, rfl, by rw [E.out]; exact O2.out, B2.out⟩
  have E := Lib.hid (clL_is ht.symm)
  have h8 := (cntB_of ht.symm).1
  have h8' : (cs.length : Int) ≤ 8 := by omega
  clear ht
  go_enter Try.func19, Try.ntmps19
  go_wp2_with fail
  go_loopw [3, 4] (fun v i wr => ∃ k : Nat, k ≤ cs.length ∧ i = .int .i64 k ∧ OwnI wr w.heap.size v (clTo cs k) ∧ Below w.heap.size w wr) (fun _ i _ => cs.length - (intOf i).toNat)
  case atStart => exact ⟨0, by omega, rfl, O1.out, B1.out⟩
  case round =>
    obtain ⟨k, hk, rfl, hown, hbel⟩ := hrel
    by_cases hlt : k < cs.length
    · have hki : (k : Int) < (cs.length : Int) := by omega
      obtain ⟨b, o, rfl, hb, hcell⟩ := SP.out k hlt
      obtain ⟨x, hx⟩ : ∃ x, x = cs.getD k 0 := ⟨_, rfl⟩
      have HC1 := Lib.hid (fun (X : World) (q : Below w.heap.size w X) => (show X.cell? ⟨b, o + k, none⟩ = some (.int .i64 x) by rw [hx]; exact (q.cell (p := ⟨b, o + k, none⟩) hb).trans (hcell k hlt)))
      have HX := Lib.hid hx
      clear hx hcell
      have OW := Lib.hid hown
      have B0 := Lib.hid hbel
      clear hown hbel
      by_cases h0 : x = 0
      · subst h0
        have HC := Lib.hid (clTo_yes HX.out.symm)
        obtain ⟨m, hm⟩ : ∃ m, m = (clTo cs k).length := ⟨_, rfl⟩
        have hm8 : m ≤ 8 := by have := clTo_length cs k; omega
        have HM := Lib.hid hm
        have OWM := fun (X : World) (q : Below wr.heap.size wr X) => OW.out.below q
        unfold OwnI at OWM
        simp only [← hm] at OWM
        have OWM := Lib.hid OWM
        have BX := Lib.hid (fun (X : World) (q : Below wr.heap.size wr X) => B0.out.trans (q.mono B0.out.size))
        clear hm
        go_wp2_with (first
          | (go_at_call 29; refine (SC.out _ B0.out).mono ?_; rintro e w1 ⟨rfl, b1⟩; have hc1 := HC1.out _ (BX.out _ b1); have hor := OWM.out _ b1; have hsz := (BX.out _ b1).size)
          | (at_builtin; refine wpList_append_own _ rfl _ _ 23 rfl w.heap.size 3 i0 (.int .i64 0) 1 8 Try.underlying23 hi hz0 hz1 hz2 rfl (by decide) _ _ _ rfl (hor.alloc _) ⟨w1.heap.size, 0, none⟩ 1 1 [.int .i64 k] rfl rfl ?c1 ?c2 ?c3 ?c4 ?c5 ?_))
        case c1 => exact cell_one_new _ _ _
        case c2 => intro u hu; simp at hu; subst hu; rfl
        case c3 => simp only [maxLen]; omega
        case c4 => omega
        case c5 => simp; omega
        intro v' w2 hown' hgrow _
        have B2 := Lib.hid (BX.out _ b1)
        clear b1 hc1
        have HB := Lib.hid ((B2.out.alloc (by omega) _).grown hgrow (by simp; omega) (fun g hg => (World.ownsRow.lt hor g hg).1))
        have HO := Lib.hid (show OwnI w2 w.heap.size v' (clTo cs (k + 1)) by
          unfold OwnI
          rw [HC.out, List.length_append, List.map_append, ← HM.out]
          exact hown')
        clear hown' hgrow hor
        go_wp2_with fail
        go_roundw
        case rel => exact ⟨k + 1, by omega, by go_num, HO.out, HB.out⟩
        case measure => simp [intOf]; omega
      · have HC := Lib.hid (clTo_no (cs := cs) (k := k) (by rw [← HX.out]; exact h0))
        have t0 : (x == 0) = false := by simp [h0]
        clear h0
        go_wp2_with (go_at_call 29; refine (SC.out _ B0.out).mono ?_; rintro e w1 ⟨rfl, b1⟩; have hc1 := HC1.out _ (B0.out.trans (b1.mono B0.out.size)))
        have OW1 := Lib.hid (OW.out.below b1)
        have B2 := Lib.hid (B0.out.trans (b1.mono B0.out.size))
        clear b1
        go_roundw
        case rel => exact ⟨k + 1, by omega, by go_num, HC.out ▸ OW1.out, B2.out⟩
        case measure => simp [intOf]; omega
    · obtain rfl : k = cs.length := by omega
      have OW := Lib.hid hown
      have B0 := Lib.hid hbel
      clear hown hbel
      go_wp2_with fail
      go_ret
      exact ⟨_, rfl, E.out ▸ OW.out, B0.out⟩

end Go.Proofs.Ytmdkfhbkdeoahaa
