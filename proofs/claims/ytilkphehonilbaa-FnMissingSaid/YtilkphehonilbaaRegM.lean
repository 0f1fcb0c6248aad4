/-
  RegisterMissing by the program. For lists of at most 1048576 notes.
-/
import Derived.Test.YtilkphehonilbaaRegR
import Derived.Test.YtilkphehonilbaaRegO2
namespace Go.Proofs.Ytilkphehonilbaa
open Go.RowKit Go.Sort

theorem misL_none {ms ns : List Mv} {sl : Int} (h : regB ns = false) : misL ms ns sl = [] := by
  unfold misL
  split
  · exact misTo_none h _
  · rfl
theorem misL_len (ms ns : List Mv) (sl : Int) (hl : ms.length ≤ 1048576) : (misL ms ns sl).length ≤ 1048576 := by
  unfold misL
  split
  · exact Nat.le_trans (misTo_length _ _ _ _) hl
  · simp

set_option maxRecDepth 100000 in
set_option maxHeartbeats 4000000 in
theorem implRegisterMissing {w : World} {u v : Value} {ms ns : List Mv} (h : Mvs w u ms) (h' : Mvs w v ns) (sl : Int) : Calls Try.prog 6 #[u, v, .int .i64 sl] w (MadeInts w (misL ms ns sl)) := by
  obtain ⟨i0, hi, hz0, hz1, hz2⟩ := info_parts info_int
  have q0 := below_alloc w (.cells #[] 3)
  have o0 := own_empty w
  obtain ⟨W, hW⟩ : ∃ W, W = w.alloc (.cells #[] 3) := ⟨_, rfl⟩
  rw [← hW] at q0 o0
  have R1 := Lib.hid (implRegisterOf (Rd.below h q0))
  have R2 := Lib.hid (fun (X : World) (c : Below w.heap.size w X) => implRegisterOf (Rd.below h' c))
  have HW := Lib.hid hW
  have Q0 := Lib.hid q0
  have O0 := Lib.hid o0
  obtain ⟨au, cu, rfl⟩ := Rd.slice h
  obtain ⟨av, cv, rfl⟩ := Rd.slice h'
  clear hW q0 o0 h h'
  cases hr : regB ms
  · have FIN := Lib.hid (show misL ms ns sl = [] by unfold misL; rw [if_neg (by simp [hr])])
    have P := Lib.hid hr
    clear hr
    go_enter Try.func6, Try.ntmps6
    go_wp2_with (rw [← HW.out]; go_at_call 22; refine R1.out.mono ?_)
    rintro e w1 ⟨p, rfl, ch, b1⟩
    rw [P.out]
    obtain ⟨a, rfl⟩ := ch.ptr
    clear ch
    go_wp2_with fail
    go_ret
    exact ⟨_, rfl, by rw [FIN.out]; exact O0.out.below b1, Q0.out.trans (b1.mono Q0.out.size)⟩
  cases hr2 : regB ns
  · have FIN := Lib.hid (misL_none (ms := ms) (sl := sl) hr2)
    have P := Lib.hid hr
    have P2 := Lib.hid hr2
    clear hr hr2
    go_enter Try.func6, Try.ntmps6
    go_wp2_with (rw [← HW.out]; go_at_call 22; refine R1.out.mono ?_)
    rintro e w1 ⟨p, rfl, ch, b1⟩
    rw [P.out]
    obtain ⟨a, rfl⟩ := ch.ptr
    have B1 := Lib.hid (Q0.out.trans (b1.mono Q0.out.size))
    have O1 := Lib.hid (O0.out.below b1)
    clear ch b1
    go_wp2_with (go_at_call 22; refine (R2.out _ B1.out).mono ?_)
    rintro e w2 ⟨p, rfl, ch, b2⟩
    rw [P2.out]
    obtain ⟨a2, rfl⟩ := ch.ptr
    clear ch
    go_wp2_with fail
    go_ret
    exact ⟨_, rfl, by rw [FIN.out]; exact O1.out.below b2, B1.out.trans (b2.mono B1.out.size)⟩
  have FIN := Lib.hid (show misL ms ns sl = misTo ms ns sl ms.length by unfold misL; rw [if_pos hr])
  have P := Lib.hid hr
  have P2 := Lib.hid hr2
  have BUT := Lib.hid (fun i (hi : i < ms.length) => reg_but hr hi)
  have h30 := (regB_is hr).1
  have h30' : (ms.length : Int) ≤ 30 := by omega
  clear hr hr2
  go_enter Try.func6, Try.ntmps6
  go_wp2_with (rw [← HW.out]; go_at_call 22; refine R1.out.mono ?_)
  rintro e w1 ⟨p, rfl, ch, b1⟩
  rw [P.out]
  rw [regL_yes P.out] at ch
  obtain ⟨a, rfl⟩ := ch.ptr
  have B1 := Lib.hid (Q0.out.trans (b1.mono Q0.out.size))
  have O1 := Lib.hid (O0.out.below b1)
  have CH1 := Lib.hid ch
  clear ch b1
  go_wp2_with (go_at_call 22; refine (R2.out _ B1.out).mono ?_)
  rintro e w2 ⟨p, rfl, ch, b2⟩
  rw [P2.out]
  rw [regL_yes P2.out] at ch
  obtain ⟨a2, rfl⟩ := ch.ptr
  have B2 := Lib.hid (B1.out.trans (b2.mono B1.out.size))
  have O2 := Lib.hid (O1.out.below b2)
  have CH2 := Lib.hid (CH1.out.below b2)
  have CQ2 := Lib.hid ch
  clear ch b2
  go_wp2_with fail
  go_loopw [7, 33] (fun v i wr => ∃ k : Nat, k ≤ ms.length ∧ i = .int .i64 k ∧ Hid (OwnI wr w.heap.size v (misTo ms ns sl k)) ∧ Hid (Below w.heap.size w wr) ∧ Hid (Chain wr (.pointer a) ms) ∧ Hid (Chain wr (.pointer a2) ns)) (fun _ i _ => ms.length - (intOf i).toNat)
  case atStart => exact ⟨0, by omega, rfl, O2, B2, CH2, CQ2⟩
  case round =>
    obtain ⟨k, hk, rfl, HO, HB, HC, HQ⟩ := hrel
    obtain ⟨al, cl, hal⟩ := own_slice2 HO.out
    subst hal
    by_cases hlt : k < ms.length
    · have hki : (k : Int) < (ms.length : Int) := by omega
      have WO := Lib.hid (implWithout ms k wr (.pointer a) (by omega) hlt HC.out)
      have OF := Lib.hid (fun (X : World) (p : Value) (c : Chain X p (ms.eraseIdx k)) (d : Chain X (.pointer a2) ns) => show Calls Try.prog 24 #[p, .pointer a2, .int .i64 sl] X fun e w' => e = .returned (.tuple #[.int .i64 ((offO (ms.eraseIdx k) ns sl).getD 0), .bool (offO (ms.eraseIdx k) ns sl).isSome]) ∧ Below X.heap.size X w' from implOffset c d (BUT.out k hlt) P2.out sl)
      have MY := Lib.hid (fun (g : (offO (ms.eraseIdx k) ns sl).isSome = true) => misTo_yes g)
      have MN := Lib.hid (fun (g : (offO (ms.eraseIdx k) ns sl).isSome = false) => misTo_no g)
      obtain ⟨t, ht⟩ : ∃ t, t = (offO (ms.eraseIdx k) ns sl).isSome := ⟨_, rfl⟩
      obtain ⟨x, hx⟩ : ∃ x, x = (offO (ms.eraseIdx k) ns sl).getD 0 := ⟨_, rfl⟩
      rw [← ht, ← hx] at OF
      rw [← ht] at MY MN
      obtain ⟨n, hnl⟩ : ∃ n, n = (misTo ms ns sl k).length := ⟨_, rfl⟩
      have hn30 : n ≤ 30 := by have := misTo_length ms ns sl k; omega
      have NL := Lib.hid hnl
      rw [← hnl]
      clear ht hx hnl
      cases t
      · have M := Lib.hid (MN.out rfl)
        clear MY MN
        go_wp2_with (first
          | (go_at_call 23; refine WO.out.mono ?_; rintro e w3 ⟨q, rfl, c3, b3⟩; obtain ⟨aq, rfl⟩ := c3.ptr; have OF3 := Lib.hid (OF.out w3 _ c3 (HQ.out.below b3)); have B3 := Lib.hid (HB.out.trans (b3.mono HB.out.size)); have C3 := Lib.hid (HC.out.below b3); have Q3 := Lib.hid (HQ.out.below b3); have O3 := Lib.hid (HO.out.below b3); clear c3 b3)
          | (go_at_call 24; refine OF3.out.mono ?_; rintro e w4 ⟨rfl, b4⟩; have B4 := Lib.hid (B3.out.trans (b4.mono B3.out.size)); have C4 := Lib.hid (C3.out.below b4); have Q4 := Lib.hid (Q3.out.below b4); have O4 := Lib.hid (show OwnI w4 w.heap.size (.slice al n cl) (misTo ms ns sl (k + 1)) by rw [M.out, NL.out]; exact O3.out.below b4); clear b4))
        go_roundw
        case rel => exact ⟨k + 1, by omega, by go_num, O4, B4, C4, Q4⟩
        case measure => simp [intOf]; omega
      · have M := Lib.hid (MY.out rfl)
        clear MY MN
        go_wp2_with (first
          | (go_at_call 23; refine WO.out.mono ?_; rintro e w3 ⟨q, rfl, c3, b3⟩; obtain ⟨aq, rfl⟩ := c3.ptr; have OF3 := Lib.hid (OF.out w3 _ c3 (HQ.out.below b3)); have B3 := Lib.hid (HB.out.trans (b3.mono HB.out.size)); have C3 := Lib.hid (HC.out.below b3); have Q3 := Lib.hid (HQ.out.below b3); have O3 := Lib.hid (HO.out.below b3); clear c3 b3)
          | (go_at_call 24; refine OF3.out.mono ?_; rintro e w4 ⟨rfl, b4⟩; have B4 := Lib.hid (B3.out.trans (b4.mono B3.out.size)); have C4 := Lib.hid (C3.out.below b4); have Q4 := Lib.hid (Q3.out.below b4); have O4 := Lib.hid (show w4.ownsRow w.heap.size 3 1 (.slice al n cl) n ((misTo ms ns sl k).map (Value.int .i64)) by rw [NL.out]; exact O3.out.below b4); clear b4)
          | (at_builtin; refine wpList_append_own _ rfl _ _ 26 rfl w.heap.size 3 i0 (.int .i64 0) 1 8 Try.underlying26 hi hz0 hz1 hz2 rfl (by decide) _ _ _ rfl (O4.out.alloc _) ⟨w4.heap.size, 0, none⟩ 1 1 [.int .i64 (k : Int)] rfl rfl ?k1 ?k2 ?k3 ?k4 ?k5 ?_))
        case k1 => exact cell_one_new _ _ _
        case k2 => intro u hu; simp at hu; subst hu; rfl
        case k3 => simp only [maxLen]; omega
        case k4 => omega
        case k5 => have := B4.out.size; simp; omega
        intro v' w5 hown' hgrow _
        have B5 := Lib.hid ((B4.out.alloc B4.out.size _).grown hgrow (Nat.le_trans B4.out.size (by simp)) (fun g hg => (O4.out.lt g hg).1))
        have O5 := Lib.hid (show OwnI w5 w.heap.size v' (misTo ms ns sl (k + 1)) by rw [M.out]; refine ints_more ?_; rw [← NL.out]; exact hown')
        have C5 := Lib.hid ((C4.out.below (below_alloc _ _)).kept hgrow (own_not_entry (O4.out.alloc _) (by decide)))
        have Q5 := Lib.hid ((Q4.out.below (below_alloc _ _)).kept hgrow (own_not_entry (O4.out.alloc _) (by decide)))
        obtain ⟨av', cv', rfl⟩ := own_slice2 hown'
        clear hown' hgrow
        go_wp2_with fail
        go_roundw
        case rel => exact ⟨k + 1, by omega, by go_num, O5, B5, C5, Q5⟩
        case measure => simp [intOf]; omega
    · obtain rfl : k = ms.length := by omega
      go_wp2_with fail
      go_ret
      exact ⟨_, rfl, by rw [FIN.out]; exact HO.out, HB.out⟩

end Go.Proofs.Ytilkphehonilbaa
