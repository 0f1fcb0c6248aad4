/-
  The least free time of a section, by the model.
-/
import Derived.Test.YtoebgdcgcdigaabOrd
namespace Go.Proofs.Ytoebgdcgcdigaab
open Go.RowKit Go.Sort

set_option maxRecDepth 100000 in
set_option maxHeartbeats 4000000 in
theorem specGoOn {w : World} {v : Value} {n s r : Int} {k : Nat} {ps : List (List Int × List Int)} (h : Paths w v ps) (hp : pathsB n ps = true) (hk : (k : Int) < n) (h0 : 0 ≤ s) (h2 : s ≤ 2000) (hr1 : 1 ≤ r) (hr2 : r ≤ 100) :
    Calls Try.prog 42 #[v, .int .i64 k, .int .i64 s, .int .i64 r] w fun e w' => e = .returned (.int .i64 (freeT ps k r s)) ∧ Below w.heap.size w w' := by
  have hh := h
  obtain ⟨a, cap, rfl, hl, -⟩ := h
  have HH := Lib.hid (fun (i : Nat) (hi : i < ps.length) => paths_at hh hi)
  have OR := Lib.hid (specOrder hh hp hk)
  have HP := Lib.hid hp
  have GB := Lib.hid (goTo_bounds hp hk h0 h2 (r := r) (xs := orderOf ps k) (fun m hm => order_get hm))
  have GT := Lib.hid (goTo_is (r := r) hp hk h0 h2)
  have OG := Lib.hid (fun (m : Nat) (hm : m < (orderOf ps k).length) => order_get hm)
  have hol := order_len ps k
  have h8 : ps.length ≤ 8 := (pathsB_is hp).2.1
  obtain ⟨xs, hxs⟩ : ∃ xs, xs = orderOf ps k := ⟨_, rfl⟩
  rw [← hxs] at OR GB GT OG hol
  clear hh hp hxs
  go_enter Try.func42, Try.ntmps42
  go_wp2_with (go_at_call 55; refine OR.out.mono ?_)
  rintro e w1 ⟨vo, rfl, oo, b1⟩
  have hoi := oo.ints (by omega)
  obtain ⟨a2, c2, rfl, hcl, -⟩ := hoi
  have OO := Lib.hid oo
  have B1 := Lib.hid b1
  clear oo b1
  go_wp2_with fail
  go_loopw [2, 10] (fun t i wr => ∃ m : Nat, m ≤ xs.length ∧ i = .int .i64 m ∧ t = .int .i64 (goTo ps k r s xs m) ∧ Below w1.heap.size w1 wr) (fun _ i _ => xs.length - (intOf i).toNat)
  case atStart => exact ⟨0, by omega, rfl, rfl, Below.refl _ _⟩
  case round =>
    obtain ⟨m, hm, rfl, rfl, hbel⟩ := hrel
    have hgb := GB.out m hm
    obtain ⟨t, ht⟩ : ∃ t, t = goTo ps k r s xs m := ⟨_, rfl⟩
    have hnext : goTo ps k r s xs (m + 1) = goOn ps k r t (xs.getD m 0) := by rw [ht]; rfl
    rw [← ht] at hgb ⊢
    have TT := Lib.hid ht
    clear ht
    by_cases hlt : m < xs.length
    · obtain ⟨y0, yl⟩ := OG.out m hlt
      obtain ⟨q, hq⟩ : ∃ q : Nat, xs.getD m 0 = (q : Int) := ⟨(xs.getD m 0).toNat, by omega⟩
      rw [hq, Int.toNat_natCast] at yl
      rw [hq] at hnext
      have hg : goOn ps k r t (q : Int) = if meetsAt ps k t r q then outAt ps k q else t := by unfold goOn; rw [Int.toNat_natCast]
      have hY : (ps.getD q noPath).1.getD k 0 < t + r → t < (ps.getD q noPath).2.getD k 0 → goTo ps k r s xs (m + 1) = (ps.getD q noPath).2.getD k 0 := fun a b => by rw [hnext, hg, if_pos (show meetsAt ps k t r q from ⟨a, b⟩)]; rfl
      have hN : ¬ ((ps.getD q noPath).1.getD k 0 < t + r ∧ t < (ps.getD q noPath).2.getD k 0) → goTo ps k r s xs (m + 1) = t := fun a => by rw [hnext, hg, if_neg (show ¬ meetsAt ps k t r q from a)]
      rcases OO.out.shape with ⟨e, e2⟩ | ⟨g, c', e, hgb', hgw⟩
      · rw [e2] at hlt; simp at hlt
      simp only [Value.slice.injEq] at e
      obtain ⟨rfl, -, rfl⟩ := e
      have o1 := (OO.out.below hbel).readAt m hlt
      rw [hq] at o1
      obtain ⟨b, o, rfl, hb, hat⟩ := HH.out q yl
      have hbw := B1.out.trans (hbel.mono B1.out.size)
      obtain ⟨b1', o1', k1, b2, o2, k2, c1, c2', -, hb1, hb2, d1, d2⟩ := paths_cells hat HP.out yl hk
      obtain ⟨q1, q2, q3, q4, q5⟩ := sec_bounds HP.out yl hk
      have f1 := (hbw.cell (p := ⟨b, o + q * 2, none⟩) hb).trans c1
      have f2 := (hbw.cell (p := ⟨b, o + q * 2 + 1, none⟩) hb).trans c2'
      generalize (ps.getD q noPath).1.length = l1 at f1 q1
      generalize (ps.getD q noPath).2.length = l2 at f2 q2
      have e1 := below_alloc wr (.cells #[.slice (some ⟨b1', o1', none⟩) l1 k1, .slice (some ⟨b2, o2, none⟩) l2 k2] 32)
      have p1 := Pair.new wr (.slice (some ⟨b1', o1', none⟩) l1 k1) (.slice (some ⟨b2, o2, none⟩) l2 k2) 32
      obtain ⟨W, hW⟩ : ∃ X, X = wr.alloc (.cells #[.slice (some ⟨b1', o1', none⟩) l1 k1, .slice (some ⟨b2, o2, none⟩) l2 k2] 32) := ⟨_, rfl⟩
      rw [← hW] at e1 p1
      have HW := Lib.hid hW.symm
      have hbW := hbw.trans (e1.mono hbw.size)
      have HB := Lib.hid (hbel.trans (e1.mono hbel.size))
      have f3 := (hbW.cell (p := ⟨b1', o1' + k, none⟩) hb1).trans d1
      have f4 := (hbW.cell (p := ⟨b2, o2 + k, none⟩) hb2).trans d2
      have g1 := p1.cell0
      have g2 := p1.cell1
      generalize (ps.getD q noPath).1.getD k 0 = x at f3 hY hN q3 q4
      generalize (ps.getD q noPath).2.getD k 0 = y at f4 hY hN q4 q5
      have hw1 : IntKind.i64.wrap (t + r) = t + r := IntWalk.i64_in _ (by omega)
      have hw1' : wrap64 (t + r) = t + r := (IntWalk.i64_left _).symm.trans hw1
      have hkl1 : (k : Int) < (l1 : Int) := by omega
      have hkl2 : (k : Int) < (l2 : Int) := by omega
      have hql : (q : Int) < (ps.length : Int) := by omega
      have hml : (m : Int) < (xs.length : Int) := by omega
      have GY := Lib.hid hY
      have GN := Lib.hid hN
      clear hat c1 c2' d1 d2 hW p1 e1 hbw hbW hbel hq hnext hg hY hN y0
      by_cases h1 : t < y
      · have hd1 := decide_eq_true h1
        by_cases h3 : x < t + r
        · have hd2 := decide_eq_true h3
          have HG := Lib.hid (show goTo ps k r s xs (m + 1) = y from GY.out h3 h1)
          clear h1 h3
          go_upto_region 6 with fail
          rw [HW.out]
          go_wp2_with fail
          go_roundw
          case rel => exact ⟨m + 1, by omega, by go_num, ret_val HG.out.symm, HB.out⟩
          case measure => simp [intOf]; omega
        · have hd2 := decide_eq_false h3
          have HG := Lib.hid (show goTo ps k r s xs (m + 1) = t from GN.out (fun e => h3 e.1))
          clear h1 h3
          go_upto_region 6 with fail
          rw [HW.out]
          go_wp2_with fail
          go_roundw
          case rel => exact ⟨m + 1, by omega, by go_num, ret_val HG.out.symm, HB.out⟩
          case measure => simp [intOf]; omega
      · have hd1 := decide_eq_false h1
        have HG := Lib.hid (show goTo ps k r s xs (m + 1) = t from GN.out (fun e => h1 e.2))
        clear h1
        go_upto_region 6 with fail
        rw [HW.out]
        go_wp2_with fail
        go_roundw
        case rel => exact ⟨m + 1, by omega, by go_num, ret_val HG.out.symm, HB.out⟩
        case measure => simp [intOf]; omega
    · obtain rfl : m = xs.length := by omega
      have HF := Lib.hid (show t = freeT ps k r s by rw [TT.out]; exact GT.out)
      have BB := Lib.hid (B1.out.trans (hbel.mono B1.out.size))
      clear hnext hbel
      go_wp2_with fail
      go_ret
      exact ⟨ret_int HF.out, BB.out⟩

set_option maxHeartbeats 4000000 in
theorem specFree {w : World} {n k s r : Int} {v : Value} {ps : List (List Int × List Int)} (h : Paths w v ps) :
    Calls Try.prog 15 #[.int .i64 n, v, .int .i64 k, .int .i64 s, .int .i64 r] w fun e w' => ∃ x b, e = .returned (.tuple #[.int .i64 x, .bool b]) ∧ FreePost n ps k s r x b ∧ Below w.heap.size w w' := by
  have SV := Lib.hid (specPaths (n := n) h)
  cases hp : pathsB n ps
  · have HN := Lib.hid (freePost_no (freeB_has (s := s) (r := r) (hasB_paths (k := k) hp)))
    rw [hp] at SV
    clear hp h
    go_enter Try.func15, Try.ntmps15
    go_wp2_with (go_at_call 31; refine SV.out.mono ?_)
    rintro e w1 ⟨rfl, b1⟩
    go_wp2_with fail
    go_ret2
    exact ⟨_, _, rfl, HN.out, b1⟩
  rw [hp] at SV
  obtain ⟨⟨hn1, hn5⟩, h8, _⟩ := pathsB_is hp
  have hw1 : IntKind.i64.wrap (n - 1) = n - 1 := IntWalk.i64_in _ (by omega)
  by_cases hk : 0 ≤ k ∧ k < n
  · obtain ⟨hk0, hk2⟩ := hk
    have hk1 : k ≤ n - 1 := by omega
    by_cases hr : 1 ≤ r ∧ r ≤ 100
    · obtain ⟨hr1, hr2⟩ := hr
      by_cases hs : 0 ≤ s ∧ s ≤ 2000
      · obtain ⟨hs1, hs2⟩ := hs
        have HAS := Lib.hid (hasB_yes (k := k) hp ⟨hk0, hk2⟩)
        obtain ⟨k, rfl⟩ : ∃ m : Nat, k = (m : Int) := ⟨k.toNat, by omega⟩
        have GO := Lib.hid (fun (X : World) (b : Below w.heap.size w X) => specGoOn (s := s) (r := r) (h.below b) hp hk2 hs1 hs2 hr1 hr2)
        obtain ⟨T, hT⟩ : ∃ T, T = freeT ps k r s := ⟨_, rfl⟩
        rw [← hT] at GO
        have HT := Lib.hid hT
        have HTB : 0 ≤ T ∧ T ≤ 2000 := by
          have q := goTo_bounds hp hk2 hs1 hs2 (r := r) (xs := orderOf ps k) (fun m hm => order_get hm) _ (Nat.le_refl _)
          rw [goTo_is (r := r) hp hk2 hs1 hs2, ← hT] at q
          exact q
        have hw2 : IntKind.i64.wrap (T + r) = T + r := IntWalk.i64_in _ (by omega)
        clear hp h hT
        by_cases h3 : T + r ≤ 2000
        · have HN := Lib.hid (show FreePost n ps (k : Int) s r T true by
            have q := freePost_yes (freeB_yes (r := r) (s := s) HAS.out ⟨⟨hr1, hr2⟩, hs1, hs2⟩ (by rw [Int.toNat_natCast, ← HT.out]; exact h3))
            rw [Int.toNat_natCast, ← HT.out] at q
            exact q)
          have h3' : decide ((2000 : Int) < T + r) = false := by simp; omega
          clear h3
          go_enter Try.func15, Try.ntmps15
          go_wp2_with (go_at_call 31; refine SV.out.mono ?_)
          rintro e w1 ⟨rfl, b1⟩
          go_wp2_with (first | (go_at_call 41; refine (in_yes _ _ _ _ (by omega) (by omega)).mono ?_; rintro e w' ⟨rfl, rfl⟩) | (go_at_call 42; refine (GO.out _ b1).mono ?_))
          rintro e w2 ⟨rfl, b2⟩
          go_wp2_with fail
          go_ret2
          exact ⟨_, _, rfl, HN.out, b1.trans (b2.mono b1.size)⟩
        · have HN := Lib.hid (freePost_no (freeB_late (n := n) (k := (k : Int)) (s := s) (r := r) (ps := ps) (by rw [Int.toNat_natCast, ← HT.out]; exact h3)))
          have h3' : decide ((2000 : Int) < T + r) = true := decide_eq_true (by omega)
          clear h3
          go_enter Try.func15, Try.ntmps15
          go_wp2_with (go_at_call 31; refine SV.out.mono ?_)
          rintro e w1 ⟨rfl, b1⟩
          go_wp2_with (first | (go_at_call 41; refine (in_yes _ _ _ _ (by omega) (by omega)).mono ?_; rintro e w' ⟨rfl, rfl⟩) | (go_at_call 42; refine (GO.out _ b1).mono ?_))
          rintro e w2 ⟨rfl, b2⟩
          go_wp2_with fail
          go_ret2
          exact ⟨_, _, rfl, HN.out, b1.trans (b2.mono b1.size)⟩
      · have HN := Lib.hid (freePost_no (freeB_args (n := n) (k := k) (s := s) (r := r) (ps := ps) (fun q => hs q.2)))
        have hs' : s < 0 ∨ 2000 < s := by omega
        clear hs
        clear hp h
        go_enter Try.func15, Try.ntmps15
        go_wp2_with (go_at_call 31; refine SV.out.mono ?_)
        rintro e w1 ⟨rfl, b1⟩
        go_wp2_with (first | (go_at_call 41; refine (in_yes _ _ _ _ (by omega) (by omega)).mono ?_; rintro e w' ⟨rfl, rfl⟩) | (go_at_call 41; refine (in_no _ _ _ _ (by omega)).mono ?_; rintro e w' ⟨rfl, rfl⟩))
        go_ret2
        exact ⟨_, _, rfl, HN.out, b1⟩
    · have HN := Lib.hid (freePost_no (freeB_args (n := n) (k := k) (s := s) (r := r) (ps := ps) (fun q => hr q.1)))
      have hr' : r < 1 ∨ 100 < r := by omega
      clear hr
      clear hp h
      go_enter Try.func15, Try.ntmps15
      go_wp2_with (go_at_call 31; refine SV.out.mono ?_)
      rintro e w1 ⟨rfl, b1⟩
      go_wp2_with (first | (go_at_call 41; refine (in_yes _ _ _ _ (by omega) (by omega)).mono ?_; rintro e w' ⟨rfl, rfl⟩) | (go_at_call 41; refine (in_no _ _ _ _ (by omega)).mono ?_; rintro e w' ⟨rfl, rfl⟩))
      go_ret2
      exact ⟨_, _, rfl, HN.out, b1⟩
  · have HN := Lib.hid (freePost_no (freeB_has (s := s) (r := r) (hasB_sec (n := n) (ps := ps) hk)))
    have hk' : k < 0 ∨ n - 1 < k := by omega
    clear hk
    clear hp h
    go_enter Try.func15, Try.ntmps15
    go_wp2_with (go_at_call 31; refine SV.out.mono ?_)
    rintro e w1 ⟨rfl, b1⟩
    go_wp2_with (first | (go_at_call 41; refine (in_yes _ _ _ _ (by omega) (by omega)).mono ?_; rintro e w' ⟨rfl, rfl⟩) | (go_at_call 41; refine (in_no _ _ _ _ (by omega)).mono ?_; rintro e w' ⟨rfl, rfl⟩))
    go_ret2
    exact ⟨_, _, rfl, HN.out, b1⟩

end Go.Proofs.Ytoebgdcgcdigaab
