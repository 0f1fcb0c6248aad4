/-
  What the model's and the program's PathClash return: 'clashOf', for every number of sections and all paths.
-/
import Derived.Test.YtoebgdcgcdigaabClash
import Derived.Deep.DeepCutAuto
namespace Go.Proofs.Ytoebgdcgcdigaab
open Go.RowKit Go.Sort

theorem PathV.cells {w : World} {v : Value} {n : Int} {p : List Int × List Int} (h : PathV w v p) (hb : pathB n p = true) :
    ∃ (b1 o1 k1 b2 o2 k2 : Nat), v = .agg #[.slice (some ⟨b1, o1, none⟩) p.1.length k1, .slice (some ⟨b2, o2, none⟩) p.2.length k2] ∧ b1 < w.heap.size ∧ b2 < w.heap.size ∧
      (∀ i, i < p.1.length → w.cell? ⟨b1, o1 + i, none⟩ = some (.int .i64 (p.1.getD i 0))) ∧ ∀ i, i < p.2.length → w.cell? ⟨b2, o2 + i, none⟩ = some (.int .i64 (p.2.getD i 0)) := by
  obtain ⟨u1, u2, rfl, ⟨a1, k1, rfl, l1, i1⟩, ⟨a2, k2, rfl, l2, i2⟩⟩ := h
  obtain ⟨⟨hn1, hn5⟩, hx, hy, hs⟩ := pathB_is hb
  rcases i1 with e | ⟨b1, o1, rfl, hb1, d1⟩
  · rw [e] at hx; simp at hx; omega
  rcases i2 with e | ⟨b2, o2, rfl, hb2, d2⟩
  · rw [e] at hy; simp at hy; omega
  exact ⟨b1, o1, k1, b2, o2, k2, rfl, hb1, hb2, d1, d2⟩

/-- Two values boxed, one behind the other. -/
theorem two_boxes (w : World) (x y x' y' : Value) (t : TypeId) : ∃ W, (w.alloc (.cells #[x, y] t)).alloc (.cells #[x', y'] t) = W ∧ Pair W w.heap.size x y t ∧ Pair W (w.heap.size + 1) x' y' t ∧ Below w.heap.size w W := by
  have ea := below_alloc w (.cells #[x, y] t)
  have pa := Pair.new w x y t
  have sa : (w.alloc (.cells #[x, y] t)).heap.size = w.heap.size + 1 := Go.Deep.nblk_alloc _ _
  have eb := below_alloc (w.alloc (.cells #[x, y] t)) (.cells #[x', y'] t)
  have pb := Pair.new (w.alloc (.cells #[x, y] t)) x' y' t
  rw [sa] at pb
  exact ⟨_, rfl, pa.below eb, pb, ea.trans (eb.mono ea.size)⟩

set_option maxHeartbeats 1000000 in
theorem specClashAt {w : World} {u v : Value} {n : Int} {p q : List Int × List Int} {k : Nat} (h : PathV w u p) (h' : PathV w v q) (hb : clashB n p q = true) (hk : k < p.1.length) :
    Calls Try.prog 57 #[u, v, .int .i64 k] w fun e w' => e = .returned (.bool (clashAt p q k)) ∧ Below w.heap.size w w' := by
  have hl : p.1.length = p.2.length := by have := (pathB_is (clashB_is hb).1).2.1; have := (pathB_is (clashB_is hb).1).2.2.1; omega
  have hl' : p.1.length = q.1.length := by have := (pathB_is (clashB_is hb).1).2.1; have := (pathB_is (clashB_is hb).2).2.1; omega
  have hl'' : p.1.length = q.2.length := by have := (pathB_is (clashB_is hb).1).2.1; have := (pathB_is (clashB_is hb).2).2.2.1; omega
  have hl5 : p.1.length ≤ 5 := by have := (pathB_is (clashB_is hb).1).2.1; have := (pathB_is (clashB_is hb).1).1.2; omega
  obtain ⟨b1, o1, k1, b2, o2, k2, rfl, hb1, hb2, d1, d2⟩ := h.cells (clashB_is hb).1
  obtain ⟨b3, o3, k3, b4, o4, k4, rfl, hb3, hb4, d3, d4⟩ := h'.cells (clashB_is hb).2
  obtain ⟨W, hW, pa, pb, hE⟩ := two_boxes w (.slice (some ⟨b1, o1, none⟩) p.1.length k1) (.slice (some ⟨b2, o2, none⟩) p.2.length k2) (.slice (some ⟨b3, o3, none⟩) q.1.length k3) (.slice (some ⟨b4, o4, none⟩) q.2.length k4) 32
  have e1 := (hE.cell (p := ⟨b1, o1 + k, none⟩) hb1).trans (d1 k hk)
  have e2 := (hE.cell (p := ⟨b2, o2 + k, none⟩) hb2).trans (d2 k (by omega))
  have e3 := (hE.cell (p := ⟨b3, o3 + k, none⟩) hb3).trans (d3 k (by omega))
  have e4 := (hE.cell (p := ⟨b4, o4 + k, none⟩) hb4).trans (d4 k (by omega))
  have g1 := pa.cell0
  have g2 := pa.cell1
  have g3 := pb.cell0
  have g4 := pb.cell1
  have m1 : (k : Int) < (p.1.length : Int) := by omega
  have m2 : (k : Int) < (p.2.length : Int) := by omega
  have m3 : (k : Int) < (q.1.length : Int) := by omega
  have m4 : (k : Int) < (q.2.length : Int) := by omega
  have i2 : k < p.2.length := by omega
  have i3 : k < q.1.length := by omega
  have i4 : k < q.2.length := by omega
  have HW := Lib.hid hW
  unfold clashAt
  generalize p.1.getD k 0 = s1 at e1 ⊢
  generalize p.2.getD k 0 = s2 at e2 ⊢
  generalize q.1.getD k 0 = s3 at e3 ⊢
  generalize q.2.getD k 0 = s4 at e4 ⊢
  clear d1 d2 d3 d4 hW pa pb h h' hl hl' hl'' hb
  by_cases h1 : s1 < s4
  · by_cases h2 : s3 < s2
    · rw [decide_eq_true (And.intro h1 h2)]
      have h1' : decide (s1 < s4) = true := decide_eq_true h1
      go_enter Try.func57, Try.ntmps57
      go_upto_region 1 with fail
      rw [HW.out]
      go_quiet (fail)
      go_wp2_with fail
      go_ret
      exact ⟨rfl, below_drewN hE _⟩
    · rw [decide_eq_false (fun q => h2 q.2)]
      have h2' : decide (s3 < s2) = false := by simpa using h2
      have h1' : decide (s1 < s4) = true := decide_eq_true h1
      clear h2
      go_enter Try.func57, Try.ntmps57
      go_upto_region 1 with fail
      rw [HW.out]
      go_quiet (fail)
      go_wp2_with fail
      go_ret
      exact ⟨rfl, below_drewN hE _⟩
  · rw [decide_eq_false (fun q => h1 q.1)]
    have h1' : decide (s1 < s4) = false := by simpa using h1
    clear h1
    go_enter Try.func57, Try.ntmps57
    go_upto_region 1 with fail
    rw [HW.out]
    go_quiet (fail)
    go_wp2_with fail
    go_ret
    exact ⟨rfl, below_drewN hE _⟩

theorem made_ints {w : World} {xs ys : List Int} {v : Value} {w' : World} (h : OwnI w' w.heap.size v xs) (hb : Below w.heap.size w w') (hx : xs = ys) : MadeInts w ys (.returned v) w' := by
  subst hx
  exact ⟨_, rfl, h, hb⟩

set_option maxHeartbeats 2000000 in
theorem specClash {w : World} {u v : Value} {n : Int} {p q : List Int × List Int} (h : PathV w u p) (h' : PathV w v q) :
    Calls Try.prog 52 #[.int .i64 n, u, v] w (MadeInts w (clashOf n p q)) := by
  have hv1 := h
  have hv2 := h'
  obtain ⟨u1, u2, rfl, -, -⟩ := h
  obtain ⟨v1, v2, rfl, -, -⟩ := h'
  obtain ⟨W0, hW, pa, pb, hE⟩ := two_boxes w u1 u2 v1 v2 32
  have hal := below_alloc W0 (.cells #[] 3)
  have ho := own_empty W0
  obtain ⟨W, hW2⟩ : ∃ W, W = W0.alloc (.cells #[] 3) := ⟨_, rfl⟩
  rw [← hW2] at hal ho
  have HW := Lib.hid hW
  have HW2 := Lib.hid hW2.symm
  have PA := Lib.hid pa
  have PB := Lib.hid pb
  have V1 := Lib.hid (fun (X : World) (c : Below W0.heap.size W0 X) => specValid (n := n) ((hv1.below hE).below c))
  have V2 := Lib.hid (fun (X : World) (c : Below W0.heap.size W0 X) => specValid (n := n) ((hv2.below hE).below c))
  have w0s : W0.heap.size = w.heap.size + 1 + 1 := by rw [← hW, Go.Deep.nblk_alloc, Go.Deep.nblk_alloc]
  rw [w0s] at ho
  have h0s : w.heap.size ≤ w.heap.size + 1 + 1 := by omega
  clear hW hW2 pa pb
  by_cases hn : 0 < n
  · cases hb1 : pathB n p
    · have HN := Lib.hid (clashOf_no (clashB_1 (q := q) hb1))
      have HB := Lib.hid hb1
      have k0 := (PA.out.below hal).cell0
      have k1 := (PA.out.below hal).cell1
      clear hb1
      go_enter Try.func52, Try.ntmps52
      go_upto_region 1 with fail
      rw [HW.out]
      go_wp2_with fail
      rw [HW2.out]
      refine wp_loop_rounds 1 ?_
      rw [rounds_succ]
      go_wp2_with fail
      refine (V1.out W hal).mono ?_
      rintro e w1 ⟨rfl, b1⟩
      rw [HB.out]
      go_wp2_with fail
      go_ret
      exact made_ints ((ho.below b1).mono h0s) (hE.trans ((hal.trans (b1.mono hal.size)).mono hE.size)) HN.out.symm
    · cases hb2 : pathB n q
      · have HN := Lib.hid (clashOf_no (clashB_2 (p := p) hb2))
        have HB := Lib.hid hb1
        have HB2 := Lib.hid hb2
        have k0 := (PA.out.below hal).cell0
        have k1 := (PA.out.below hal).cell1
        clear hb1 hb2
        go_enter Try.func52, Try.ntmps52
        go_upto_region 1 with fail
        rw [HW.out]
        go_wp2_with fail
        rw [HW2.out]
        refine wp_loop_rounds 1 ?_
        rw [rounds_succ]
        go_wp2_with fail
        refine (V1.out W hal).mono ?_
        rintro e w1 ⟨rfl, b1⟩
        rw [HB.out]
        have k2 := (PB.out.below (hal.trans (b1.mono hal.size))).cell0
        have k3 := (PB.out.below (hal.trans (b1.mono hal.size))).cell1
        go_wp2_with fail
        refine (V2.out w1 (hal.trans (b1.mono hal.size))).mono ?_
        rintro e w2 ⟨rfl, b2⟩
        rw [HB2.out]
        go_wp2_with fail
        go_ret
        exact made_ints (((ho.below b1).below b2).mono h0s) (hE.trans ((hal.trans ((b1.trans (b2.mono b1.size)).mono hal.size)).mono hE.size)) HN.out.symm
      · have hpq : clashB n p q = true := by unfold clashB; rw [hb1, hb2]; rfl
        have HN := Lib.hid (clashOf_yes hpq)
        have HB := Lib.hid hb1
        have HB2 := Lib.hid hb2
        have hnx : (p.1.length : Int) = n := (pathB_is hb1).2.1
        have hl5 : p.1.length ≤ 5 := by have := (pathB_is hb1).1.2; omega
        have CA := Lib.hid (fun (X : World) (k : Nat) (c : Below W0.heap.size W0 X) (hk : k < p.1.length) => specClashAt (k := k) ((hv1.below hE).below c) ((hv2.below hE).below c) hpq hk)
        obtain ⟨i0, hi, hz0, hz1, hz2⟩ := info_parts info_int
        have HX := Lib.hid hnx
        clear hb1 hb2 hpq hnx
        go_enter Try.func52, Try.ntmps52
        go_upto_region 1 with fail
        rw [HW.out]
        go_wp2_with fail
        rw [HW2.out]
        go_loopw [7, 8] (fun v i wr => ∃ k : Nat, k ≤ p.1.length ∧ i = .int .i64 k ∧ OwnI wr (w.heap.size + 1 + 1) v (clashTo p q k) ∧ Below W0.heap.size W0 wr) (fun _ i _ => p.1.length - (intOf i).toNat)
        case atStart => exact ⟨0, by omega, rfl, ho, hal⟩
        case round =>
          obtain ⟨k, hk, rfl, hown, hbel⟩ := hrel
          by_cases hlt : k < p.1.length
          · have hki : (k : Int) < n := by have := HX.out; omega
            have k0 := (PA.out.below hbel).cell0
            have k1 := (PA.out.below hbel).cell1
            have hown0 := hown
            obtain ⟨av, nv, cv, rfl⟩ := own_is_slice hown0
            have HO := Lib.hid hown
            clear hown hown0
            go_wp2_with fail
            refine (V1.out wr hbel).mono ?_
            rintro e w1 ⟨rfl, b1⟩
            rw [HB.out]
            have c1 := hbel.trans (b1.mono hbel.size)
            have k2 := (PB.out.below c1).cell0
            have k3 := (PB.out.below c1).cell1
            go_wp2_with fail
            refine (V2.out w1 c1).mono ?_
            rintro e w2 ⟨rfl, b2⟩
            rw [HB2.out]
            have c2 := c1.trans (b2.mono c1.size)
            have k4 := (PA.out.below c2).cell0
            have k5 := (PA.out.below c2).cell1
            have k6 := (PB.out.below c2).cell0
            have k7 := (PB.out.below c2).cell1
            go_wp2_with fail
            refine (CA.out w2 k c2 hlt).mono ?_
            rintro e w3 ⟨rfl, b3⟩
            have c3 := c2.trans (b3.mono c2.size)
            have hown := ((HO.out.below b1).below b2).below b3
            cases hc : clashAt p q k
            · have HO3 := Lib.hid (show OwnI w3 (w.heap.size + 1 + 1) _ (clashTo p q (k + 1)) from (clashTo_no hc) ▸ hown)
              clear hown hc b1 b2 b3 c1 c2 k0 k1 k2 k3 k4 k5 k6 k7
              go_wp2_with fail
              go_roundw
              case rel => exact ⟨k + 1, by omega, by go_num, HO3.out, c3⟩
              case measure => simp [intOf]; omega
            · obtain ⟨m, hm⟩ : ∃ m, m = (clashTo p q k).length := ⟨_, rfl⟩
              have hm5 : m ≤ 5 := by have := clashTo_length p q k; omega
              have HC := Lib.hid (clashTo_yes hc)
              unfold OwnI at hown
              rw [← hm] at hown
              obtain ⟨av2, cv2, e3⟩ := own_slice2 hown
              simp only [Value.slice.injEq] at e3
              obtain ⟨-, rfl, -⟩ := e3
              have HM := Lib.hid hm
              have hsz3 : w.heap.size + 1 + 1 ≤ w3.heap.size := by rw [← w0s]; exact c3.size
              clear hc hm b1 b2 b3 c1 c2 k0 k1 k2 k3 k4 k5 k6 k7
              go_wp2_with (at_builtin; refine wpList_append_own _ rfl _ _ 27 rfl (w.heap.size + 1 + 1) 3 i0 (.int .i64 0) 1 8 Try.underlying27 hi hz0 hz1 hz2 rfl (by decide) _ _ _ rfl (hown.alloc _) ⟨w3.heap.size, 0, none⟩ 1 1 [.int .i64 k] rfl rfl ?c1 ?c2 ?c3 ?c4 ?c5 ?_)
              case c1 => exact cell_one_new _ _ _
              case c2 => intro u hu; simp at hu; subst hu; rfl
              case c3 => simp only [maxLen]; omega
              case c4 => omega
              case c5 => simp; omega
              intro v' w4 hown' hgrow _
              have HB4 := Lib.hid ((c3.alloc c3.size _).grown hgrow (Nat.le_trans c3.size (by simp)) (fun g hg => by have := (hown.lt g hg).1; omega))
              have HO4 := Lib.hid (show OwnI w4 (w.heap.size + 1 + 1) v' (clashTo p q (k + 1)) by
                unfold OwnI
                rw [HC.out, List.length_append, List.map_append, ← HM.out]
                exact hown')
              obtain ⟨av', cv', rfl⟩ := own_slice2 hown'
              clear hown' hgrow hown c3
              go_wp2_with fail
              go_roundw
              case rel => exact ⟨k + 1, by omega, by go_num, HO4.out, HB4.out⟩
              case measure => simp [intOf]; omega
          · obtain rfl : k = p.1.length := by omega
            have hkn : ¬ (p.1.length : Int) < n := by have := HX.out; omega
            go_wp2_with fail
            go_ret
            exact made_ints (hown.mono h0s) (hE.trans (hbel.mono hE.size)) HN.out.symm
  · have HN := Lib.hid (clashOf_no (clashB_1 (q := q) (pathB_n (p := p) (n := n) (by omega))))
    go_enter Try.func52, Try.ntmps52
    go_upto_region 1 with fail
    rw [HW.out]
    go_wp2_with fail
    rw [HW2.out]
    refine wp_loop_rounds 1 ?_
    rw [rounds_succ]
    go_wp2_with fail
    go_ret
    exact made_ints (ho.mono h0s) (hE.trans (hal.mono hE.size)) HN.out.symm

set_option maxHeartbeats 1000000 in
theorem implClash {w : World} {u v : Value} {n : Int} {p q : List Int × List Int} (h : PathV w u p) (h' : PathV w v q) :
    Calls Try.prog 20 #[.int .i64 n, u, v] w (MadeInts w (clashOf n p q)) := by
  have hv1 := h
  have hv2 := h'
  obtain ⟨u1, u2, rfl, i1, i2⟩ := h
  obtain ⟨v1, v2, rfl, j1, j2⟩ := h'
  obtain ⟨W0, hW, pa, pb, hE⟩ := two_boxes w u1 u2 v1 v2 32
  have HW := Lib.hid hW
  have w0s : W0.heap.size = w.heap.size + 1 + 1 := by rw [← hW, Go.Deep.nblk_alloc, Go.Deep.nblk_alloc]
  have h0s : w.heap.size ≤ w.heap.size + 1 + 1 := by omega
  have at1 : PathAt W0 w.heap.size 0 p := ⟨u1, u2, pa.cell0, pa.cell1, pa.lt, i1.below hE, i2.below hE⟩
  have at2 : PathAt W0 (w.heap.size + 1) 0 q := ⟨v1, v2, pb.cell0, pb.cell1, pb.lt, j1.below hE, j2.below hE⟩
  have O1 := Lib.hid (isOver (n := n) at1)
  have O2 := Lib.hid (isOver (n := n) at2)
  have AT := Lib.hid (And.intro at1 at2)
  clear hW pa pb hv1 hv2 i1 i2 j1 j2 at1 at2
  cases hb1 : pathB n p
  · rw [hb1] at O1
    have HN := Lib.hid (clashOf_no (clashB_1 (q := q) hb1))
    have ho := Lib.hid (own_empty W0)
    have hal := below_alloc W0 (.cells #[] 3)
    rw [w0s] at ho
    clear hb1
    go_enter Try.func20, Try.ntmps20
    go_upto_region 1 with fail
    rw [HW.out]
    go_wp2_with (go_at_call 47; refine O1.out.mono ?_; rintro e w' ⟨rfl, rfl⟩)
    go_ret
    exact made_ints (ho.out.mono h0s) (hE.trans (hal.mono hE.size)) HN.out.symm
  · rw [hb1] at O1
    cases hb2 : pathB n q
    · rw [hb2] at O2
      have HN := Lib.hid (clashOf_no (clashB_2 (p := p) hb2))
      have ho := Lib.hid (own_empty W0)
      have hal := below_alloc W0 (.cells #[] 3)
      rw [w0s] at ho
      clear hb1 hb2
      go_enter Try.func20, Try.ntmps20
      go_upto_region 1 with fail
      rw [HW.out]
      go_wp2_with fail
      refine O1.out.mono ?_
      rintro e w' ⟨rfl, rfl⟩
      go_wp2_with fail
      refine O2.out.mono ?_
      rintro e w' ⟨rfl, rfl⟩
      go_wp2_with fail
      go_ret
      exact made_ints (ho.out.mono h0s) (hE.trans (hal.mono hE.size)) HN.out.symm
    · rw [hb2] at O2
      have hpq : clashB n p q = true := by unfold clashB; rw [hb1, hb2]; rfl
      have HN := Lib.hid (clashOf_yes hpq)
      have HC := Lib.hid (clashes AT.out.1 AT.out.2 hpq)
      clear hb1 hb2 hpq
      go_enter Try.func20, Try.ntmps20
      go_upto_region 1 with fail
      rw [HW.out]
      go_wp2_with fail
      refine O1.out.mono ?_
      rintro e w' ⟨rfl, rfl⟩
      go_wp2_with fail
      refine O2.out.mono ?_
      rintro e w' ⟨rfl, rfl⟩
      go_wp2_with fail
      refine HC.out.mono ?_
      rintro e w2 ⟨v2, rfl, o2, b2⟩
      go_wp2_with fail
      go_ret
      exact made_ints (o2.mono hE.size) (hE.trans (b2.mono hE.size)) HN.out.symm

end Go.Proofs.Ytoebgdcgcdigaab
