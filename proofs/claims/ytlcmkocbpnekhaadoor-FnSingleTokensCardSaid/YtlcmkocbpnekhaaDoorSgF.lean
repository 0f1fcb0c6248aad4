/-
  The starts of all trains in an order: the model's. For texts of at most 1048576 bytes.
-/
import Derived.Test.YtlcmkocbpnekhaaDoorSgE
namespace Go.Proofs.YtlcmkocbpnekhaaDoor
open Go.RowKit Go.Sort

theorem ints_at {w : World} {v : Value} {xs : List Int} (h : Ints w v xs) (h0 : 0 < xs.length) : ∃ b o c, v = .slice (some ⟨b, o, none⟩) xs.length c ∧ b < w.heap.size ∧ ∀ i, i < xs.length → w.cell? ⟨b, o + i, none⟩ = some (.int .i64 (xs.getD i 0)) := by
  obtain ⟨a, c, rfl, -, h2⟩ := h
  rcases h2 with rfl | ⟨b, o, rfl, hb, hc⟩
  · simp at h0
  · exact ⟨b, o, c, rfl, hb, hc⟩
theorem slice_len {w : World} {a : Option Addr} {n c : Nat} {xs : List Int} (h : Ints w (.slice a n c) xs) : n = xs.length := by
  obtain ⟨_, _, e, _⟩ := h; simp only [Value.slice.injEq] at e; exact e.2.1

/-- The box stands behind an append to a list that was made later. -/
theorem box_kept {w0 w' : World} {base b : Nat} {x y z u : Value} {t : TypeId} (hb : b < base) (k : ∀ n W, Below n W w0 → n ≤ base → Below n W w') (h : Quad w0 b x y z u t) : Quad w' b x y z u t := by
  have q := k (b + 1) w0 (Below.refl _ _) (by omega)
  exact h.of (q.block _ (by omega))

set_option maxRecDepth 100000 in
set_option maxHeartbeats 2000000 in
theorem specStarts {w : World} {v : Value} {s : Sg} {S : ByteArray} (h : SgV w v s) (hS : S.size ≤ 1048576) :
    Calls Tryd.prog 6 #[v, .string S] w (MadeIntsB w (stV s S) (sgO s S)) := by
  obtain ⟨a, n, c, a', n', c', rfl, i1, i2⟩ := h.form
  have GR := Lib.hid (fun (q : SgOk s) (k : Nat) => gap_range q S k)
  have hS' : (S.size : Int) ≤ 1048576 := by omega
  have SV := Lib.hid (fun (X : World) (b : Below w.heap.size w X) => specSingle (h.below b))
  have SO := Lib.hid (fun (q : SgOk s) (X : World) (b : Below w.heap.size w X) => specOrder (h.below b) q.lenA q.lenB hS)
  obtain ⟨r, hr⟩ : ∃ r, r = s.run := ⟨_, rfl⟩
  obtain ⟨hd, hh⟩ : ∃ r, r = s.head := ⟨_, rfl⟩
  rw [← hr, ← hh] at SV SO ⊢
  have ea := below_alloc w (.cells #[.slice a n c, .slice a' n' c', .int .i64 r, .int .i64 hd] 25)
  have pa := Quad.new w (.slice a n c) (.slice a' n' c') (.int .i64 r) (.int .i64 hd) 25
  obtain ⟨W, hW⟩ : ∃ W, W = w.alloc (.cells #[.slice a n c, .slice a' n' c', .int .i64 r, .int .i64 hd] 25) := ⟨_, rfl⟩
  rw [← hW] at ea pa
  have HW := Lib.hid hW.symm
  have EA := Lib.hid ea
  have PA := Lib.hid pa
  have p0 := pa.cell0
  have p1 := pa.cell1
  have p2 := pa.cell2
  have p3 := pa.cell3
  have HR := Lib.hid (And.intro hr hh)
  have HSZ := Lib.hid hS
  have I1 := Lib.hid i1
  have I2 := Lib.hid i2
  clear hW h i1 i2 hS hr hh pa ea
  go_enter Tryd.func6, Tryd.ntmps6
  obtain ⟨t1, ht1⟩ : ∃ t, t = sgB s := ⟨_, rfl⟩
  rw [← ht1] at SV
  cases t1
  · have E := Lib.hid (sgO_bad (S := S) ht1.symm)
    clear ht1
    go_upto_region 1 with fail
    rw [HW.out]
    go_upto_region 2 with (go_at_call 18; refine (SV.out _ EA.out).mono ?_; rintro e w2 ⟨rfl, b2⟩)
    have B2 := Lib.hid (EA.out.trans (b2.mono EA.out.size))
    have O2 := Lib.hid (own_empty w2)
    have B3 := Lib.hid (B2.out.alloc B2.out.size (.cells #[] 3))
    clear b2
    go_wp2_with fail
    go_ret2
    exact ⟨.slice (some ⟨w2.heap.size, 0, none⟩) 0 0, by rw [E.out]; rfl, by rw [stV_no E.out]; exact O2.out.mono B2.out.size, B3.out⟩
  have HT1 := Lib.hid ht1.symm
  have SO := Lib.hid (SO.out (sgB_of ht1.symm))
  clear ht1
  obtain ⟨t2, ht2⟩ : ∃ t, t = ordB s.A.length s.B.length S := ⟨_, rfl⟩
  rw [← ht2] at SO
  cases t2
  · have E := Lib.hid (sgO_not (s := s) (S := S) ht2.symm)
    clear ht2
    go_upto_region 1 with fail
    rw [HW.out]
    go_upto_region 2 with (first
      | (go_at_call 18; refine (SV.out _ EA.out).mono ?_; rintro e w2 ⟨rfl, b2⟩; have P2 := PA.out.below b2; have q0 := P2.cell0; have q1 := P2.cell1; have q2 := P2.cell2; have q3 := P2.cell3)
      | (go_at_call 19; refine (SO.out _ (EA.out.trans (b2.mono EA.out.size))).mono ?_; rintro e w3 ⟨rfl, b3⟩))
    have B2 := Lib.hid ((EA.out.trans (b2.mono EA.out.size)).trans (b3.mono (Nat.le_trans EA.out.size b2.size)))
    have O2 := Lib.hid (own_empty w3)
    have B3 := Lib.hid (B2.out.alloc B2.out.size (.cells #[] 3))
    clear b2 b3
    go_wp2_with fail
    go_ret2
    exact ⟨.slice (some ⟨w3.heap.size, 0, none⟩) 0 0, by rw [E.out]; rfl, by rw [stV_no E.out]; exact O2.out.mono B2.out.size, B3.out⟩
  have hok := sgO_yes (S := S) HT1.out ht2.symm
  have HO := Lib.hid hok
  have OO := Lib.hid (ordB_of ht2.symm)
  have hn12 : (S.size : Int) ≤ 12 := by have := sgO_size hok; omega
  have SR := Lib.hid (fun (k : Nat) (hk : k < S.size) => stA_nonneg hok hk)
  have RR := Lib.hid (fun (k : Nat) (hk : k < S.size) => rdy_range hok hk)
  have HG := Lib.hid (GR.out (sgB_of HT1.out))
  clear ht2 hok
  go_upto_region 1 with fail
  rw [HW.out]
  go_upto_region 3 with (first
      | (go_at_call 18; refine (SV.out _ EA.out).mono ?_; rintro e w2 ⟨rfl, b2⟩; have P2 := PA.out.below b2; have q0 := P2.cell0; have q1 := P2.cell1; have q2 := P2.cell2; have q3 := P2.cell3)
      | (go_at_call 19; refine (SO.out _ (EA.out.trans (b2.mono EA.out.size))).mono ?_; rintro e w3 ⟨rfl, b3⟩))
  have B3 := Lib.hid ((EA.out.trans (b2.mono EA.out.size)).trans (b3.mono (Nat.le_trans EA.out.size b2.size)))
  have P3 := Lib.hid (P2.below b3)
  have O3 := own_empty w3
  have S3 := Lib.hid B3.out.size
  have B4 := Lib.hid (B3.out.alloc B3.out.size (.cells #[] 3))
  have P4 := Lib.hid (P3.out.alloc (.cells #[] 3))
  have W3 := Lib.hid P3.out.lt
  have Z4 := Lib.hid (show w3.heap.size ≤ (w3.alloc (.cells #[] 3)).heap.size by simp)
  have O3 := Lib.hid (show OwnI (w3.alloc (.cells #[] 3)) w3.heap.size (.slice (some ⟨w3.heap.size, 0, none⟩) 0 0) (stL s S 0) from O3)
  clear q0 q1 q2 q3 p0 p1 p2 p3 P2 b2 b3
  go_wp2_with fail
  go_loopw [6, 7, 8, 9] (fun t ua ub i wr => ∃ (k : Nat), k ≤ S.size ∧ i = .int .i64 k ∧ ua = .int .i64 (upTo S k : Nat) ∧ ub = .int .i64 ((k - upTo S k : Nat) : Int) ∧ Hid (OwnI wr w3.heap.size t (stL s S k)) ∧ Hid (Quad wr w.heap.size (.slice a n c) (.slice a' n' c') (.int .i64 r) (.int .i64 hd) 25) ∧ Hid (Below w.heap.size w wr) ∧ Hid (w3.heap.size ≤ wr.heap.size)) (fun _ _ _ i _ => S.size - (intOf i).toNat)
  case atStart => exact ⟨0, by omega, rfl, rfl, rfl, O3, P4, B4, Z4⟩
  case round =>
    obtain ⟨k, hk, rfl, rfl, rfl, ho, hp, hbel, hsz⟩ := hrel
    by_cases hlt : k < S.size
    · have hki : (k : Int) < (S.size : Int) := by omega
      have hix := index_at hlt
      have UU := Lib.hid (@upTo_U S k)
      have UD := Lib.hid (@upTo_D S k)
      have hup := upTo_le S k
      have uk := OO.out.upAt hlt
      have dk := OO.out.downAt hlt
      have RU := Lib.hid (@rdy_U s S k)
      have RD := Lib.hid (@rdy_D s S k)
      have z0 := hp.out.cell0
      have z1 := hp.out.cell1
      have AB : ∃ (m m2 : Nat), m = upTo S (k + 1) ∧ m2 = k + 1 - upTo S (k + 1) := ⟨_, _, rfl, rfl⟩
      obtain ⟨m', m2', hm', hm2'⟩ := AB
      rw [← hm'] at UU UD hm2'
      have HM1 := Lib.hid hm'
      clear hm'
      obtain ⟨m, hm⟩ : ∃ m, m = upTo S k := ⟨_, rfl⟩
      rw [← hm] at UU UD hup uk dk RU RD ⊢
      obtain ⟨x, hx⟩ : ∃ x, x = bt S k := ⟨_, rfl⟩
      rw [← hx] at hix UU UD uk dk RU RD
      obtain ⟨y, hy⟩ : ∃ y, y = rdy s S k := ⟨_, rfl⟩
      rw [← hy] at RU RD
      have HX := Lib.hid hx
      have HY := Lib.hid hy
      have HMK := Lib.hid (And.intro hm hup)
      have HM2 := Lib.hid hm2'
      clear hx hy hm hm2'
      have hmS : (m : Int) ≤ 12 := by omega
      have hkS : ((k - m : Nat) : Int) ≤ 12 := by omega
      go_upto_region 10 with fail
      obtain ⟨tx, htx⟩ : ∃ t, t = (x == 85) := ⟨_, rfl⟩
      have TX := htx.symm
      have HTX := Lib.hid htx
      clear htx
      go_cut [31] (fun v wx => v = .bool tx ∧ wr = wx)
      case first =>
        go_wp2_with fail
        go_meet
        exact ⟨rfl, rfl⟩
      case rest =>
      obtain ⟨rfl, rfl⟩ := hcut
      rename_i K1 hK1
      refine hK1 _ _ ?_
      clear hK1
      go_cut [7, 8, 10] (fun ua ub rd wx => ua = .int .i64 (m' : Int) ∧ ub = .int .i64 (m2' : Int) ∧ rd = .int .i64 y ∧ wr = wx)
      case first =>
        by_cases h1 : x = 85
        · have q1 := UU.out h1
          have hmA := uk h1
          obtain ⟨b, o, c1, e, hb, hc⟩ := ints_at I1.out (by omega)
          simp only [Value.slice.injEq] at e
          obtain ⟨rfl, rfl, rfl⟩ := e
          have hcell := (hbel.out.cell (p := ⟨b, o + m, none⟩) hb).trans (hc m hmA)
          rw [← RU.out h1] at hcell
          have hmi : (m : Int) < (s.A.length : Int) := by omega
          have E1 := Lib.hid (show (m : Int) + 1 = (m' : Int) by omega)
          have E2 := Lib.hid (show ((k - m : Nat) : Int) = (m2' : Int) by have := HM2.out; have := HMK.out.2; omega)
          obtain rfl : tx = true := by rw [HTX.out]; simp [h1]
          clear hc uk dk q1 hup h1 TX
          go_wp2_with fail
          go_meet
          exact ⟨by rw [E1.out], by rw [E2.out], rfl, rfl⟩
        · have q1 := UD.out h1
          have hmB := dk h1
          obtain ⟨b, o, c1, e, hb, hc⟩ := ints_at I2.out (by omega)
          simp only [Value.slice.injEq] at e
          obtain ⟨rfl, rfl, rfl⟩ := e
          obtain rfl : tx = false := by rw [HTX.out]; simp [h1]
          have hcell := (hbel.out.cell (p := ⟨b, o + (k - m), none⟩) hb).trans (hc (k - m) hmB)
          rw [← RD.out h1] at hcell
          have E1 := Lib.hid (show (m : Int) = (m' : Int) by omega)
          have E2 := Lib.hid (show ((k - m : Nat) : Int) + 1 = (m2' : Int) by have := HM2.out; have := HMK.out.2; omega)
          obtain ⟨d, hd2⟩ : ∃ d, d = k - m := ⟨_, rfl⟩
          rw [← hd2] at hcell hmB E2 hkS ⊢
          have hmi : (d : Int) < (s.B.length : Int) := by omega
          clear hc uk dk q1 hup h1 hd2 TX
          go_wp2_with fail
          go_meet
          exact ⟨by rw [E1.out], by rw [E2.out], rfl, rfl⟩
      case rest =>
        obtain ⟨rfl, rfl, rfl, rfl⟩ := hcut
        have LK := Lib.hid (show (stL s S k).length ≤ 1048576 by rw [stL_len]; have := HSZ.out; omega)
        have GK := Lib.hid W3.out
        clear z0 z1 UU UD uk dk hup TX
        rcases Nat.eq_zero_or_pos k with h0 | h0
        · have FK := Lib.hid (show stL s S (k + 1) = stL s S k ++ [y] by rw [stL_succ, HY.out, h0]; rfl)
          have e1 : decide ((0 : Int) < (k : Int)) = false := decide_eq_false (by omega)
          have e2 : decide (0 < k) = false := decide_eq_false (by omega)
          clear h0
          go_wp2_with fail
          refine wp_region_quiet_below (by kernel_rfl) (by kernel_rfl) ?_
          repeat (go_big_quiet_step (skip))
          refine wpQuiet_nil ?_
          intro _ hw'
          obtain ⟨⟨dq, osq⟩, hw''⟩ := hw'
          subst hw''
          have BR := below_regrown wr dq osq
          obtain ⟨V1, hV⟩ : ∃ X, X = grow (redrawn wr dq) osq := ⟨_, rfl⟩
          rw [← hV] at BR ⊢
          have ho := Lib.hid (ho.out.below BR)
          have hp := Lib.hid (hp.out.below BR)
          have hsz := Lib.hid (Nat.le_trans hsz.out BR.size)
          have hbel := Lib.hid (hbel.out.trans (BR.mono hbel.out.size))
          clear hV BR
          go_wp2_with fail
          refine wp_region_quiet_below (by kernel_rfl) (by kernel_rfl) ?_
          repeat (go_big_quiet_step (skip))
          refine wpQuiet_nil ?_
          intro _ hw'
          obtain ⟨⟨dq, osq⟩, hw''⟩ := hw'
          subst hw''
          have BR := below_regrown V1 dq osq
          obtain ⟨V2, hV⟩ : ∃ X, X = grow (redrawn V1 dq) osq := ⟨_, rfl⟩
          rw [← hV] at BR ⊢
          have ho := Lib.hid (ho.out.below BR)
          have hp := Lib.hid (hp.out.below BR)
          have hsz := Lib.hid (Nat.le_trans hsz.out BR.size)
          have hbel := Lib.hid (hbel.out.trans (BR.mono hbel.out.size))
          clear hV BR
          go_wp2_with (at_builtin; refine wpList_addI _ _ rfl rfl rfl rfl ho.out LK.out hsz.out ?_; intro v' w' o' b')
          go_roundw
          case rel => exact ⟨k + 1, by omega, by go_num, by rw [HM1.out], by rw [HM2.out, HM1.out], Lib.hid (by rw [FK.out]; exact o'), Lib.hid (box_kept W3.out b' hp.out), Lib.hid (b' _ _ hbel.out S3.out), Lib.hid (Nat.le_trans hsz.out (b' 0 _ (below_zero _) (Nat.zero_le _)).size)⟩
          case measure => simp [intOf]; omega
        obtain ⟨j, rfl⟩ : ∃ j, k = j + 1 := ⟨k - 1, by omega⟩
        have hiy := index_at (S := S) (k := j) (by omega)
        have hst : stA s S (j + 1) = max (rdy s S (j + 1)) (stA s S j + gap s S (j + 1)) := rfl
        have hgp : gap s S (j + 1) = if bt S (j + 1) = bt S j then s.head else s.run := rfl
        have sj := SR.out j (by omega)
        have gk := HG.out (j + 1)
        have rk := RR.out (j + 1) hlt
        have FK := stL_succ s S (j + 1)
        have SL := Lib.hid (stL_len s S (j + 1))
        have SA := Lib.hid (@stL_at s S (j + 1) j (by omega))
        rw [← HX.out] at hgp
        rw [← HY.out] at hst rk
        obtain ⟨p, hpx⟩ : ∃ x, x = bt S j := ⟨_, rfl⟩
        rw [← hpx] at hiy hgp
        obtain ⟨sj0, hsj⟩ : ∃ x, x = stA s S j := ⟨_, rfl⟩
        rw [← hsj] at sj hst
        have SA := Lib.hid (SA.out.trans hsj.symm)
        rw [← HR.out.1, ← HR.out.2] at hgp
        obtain ⟨kk, hkk⟩ : ∃ kk, kk = j + 1 := ⟨_, rfl⟩
        rw [← hkk] at hst hgp gk FK SL SA LK hix HX HY HM1 HM2 HMK ho hlt hk hki ⊢
        have hw1 : IntKind.i64.wrap ((kk : Int) - 1) = (j : Int) := by rw [hkk, show (((j + 1 : Nat) : Int)) - 1 = (j : Int) by omega]; exact IntWalk.i64_in _ (by omega)
        have e1 : decide ((0 : Int) < (kk : Int)) = true := decide_eq_true (by omega)
        have e2 : decide (0 < kk) = true := decide_eq_true (by omega)
        have HK := Lib.hid hkk
        have FK := Lib.hid FK
        clear hpx hsj hkk h0
        obtain ⟨g, cap, rfl⟩ := ho.out.some (by rw [SL.out]; have := HK.out; omega)
        rw [SL.out] at ho ⊢
        have ij : (j : Int) < (kk : Int) := by have := HK.out; omega
        by_cases hxp : x = p
        · have t1 : (x == p) = true := by simp [hxp]
          have t2 : (x != p) = false := by simp [hxp]
          rw [if_pos hxp] at hgp
          rw [hgp] at hst gk
          have HST := Lib.hid hst
          have hw2 : IntKind.i64.wrap (sj0 + hd) = sj0 + hd := IntWalk.i64_in _ (by omega)
          have HW2 := Lib.hid hw2
          clear hw2 hst hgp hxp sj gk rk
          go_wp2_with fail
          refine wp_region_quiet_below (by kernel_rfl) (by kernel_rfl) ?_
          repeat (go_big_quiet_step (skip))
          refine wpQuiet_nil ?_
          intro _ hw'
          obtain ⟨⟨dq, osq⟩, hw''⟩ := hw'
          subst hw''
          have BR := below_regrown wr dq osq
          obtain ⟨V1, hV⟩ : ∃ X, X = grow (redrawn wr dq) osq := ⟨_, rfl⟩
          rw [← hV] at BR ⊢
          have ho := Lib.hid (ho.out.below BR)
          have hp := Lib.hid (hp.out.below BR)
          have hsz := Lib.hid (Nat.le_trans hsz.out BR.size)
          have hbel := Lib.hid (hbel.out.trans (BR.mono hbel.out.size))
          clear hV BR
          go_upto_region 16 with fail
          have c1 := ho.out.at (j := j) (by rw [SL.out]; have := HK.out; omega)
          rw [SA.out] at c1
          have c3 := hp.out.cell3
          have E1 := fun d os => cell_regrown c1 d os
          have E3 := fun d os => cell_regrown c3 d os
          clear c1 c3
          have hw2 := HW2.out
          refine wp_region_quiet_below (by kernel_rfl) (by kernel_rfl) ?_
          repeat (go_big_quiet_step (skip))
          refine wpQuiet_nil ?_
          intro _ hw'
          obtain ⟨⟨dq, osq⟩, hw''⟩ := hw'
          subst hw''
          have BR := below_regrown V1 dq osq
          obtain ⟨V2, hV⟩ : ∃ X, X = grow (redrawn V1 dq) osq := ⟨_, rfl⟩
          rw [← hV] at BR ⊢
          have ho := Lib.hid (ho.out.below BR)
          have hp := Lib.hid (hp.out.below BR)
          have hsz := Lib.hid (Nat.le_trans hsz.out BR.size)
          have hbel := Lib.hid (hbel.out.trans (BR.mono hbel.out.size))
          clear hV BR
          clear hw2 E1 E3
          go_upto_region 17 with fail
          refine wp_region_quiet_below (by kernel_rfl) (by kernel_rfl) ?_
          repeat (go_big_quiet_step (skip))
          refine wpQuiet_nil ?_
          intro _ hw'
          obtain ⟨⟨dq, osq⟩, hw''⟩ := hw'
          subst hw''
          have BR := below_regrown V2 dq osq
          obtain ⟨V3, hV⟩ : ∃ X, X = grow (redrawn V2 dq) osq := ⟨_, rfl⟩
          rw [← hV] at BR ⊢
          have ho := Lib.hid (ho.out.below BR)
          have hp := Lib.hid (hp.out.below BR)
          have hsz := Lib.hid (Nat.le_trans hsz.out BR.size)
          have hbel := Lib.hid (hbel.out.trans (BR.mono hbel.out.size))
          clear hV BR
          go_wp2_with (at_builtin; refine wpList_addI _ _ rfl rfl rfl rfl ho.out LK.out hsz.out ?_; intro v' w' o' b')
          go_roundw
          case rel => exact ⟨kk + 1, by omega, by go_num, by rw [HM1.out], by rw [HM2.out, HM1.out], Lib.hid (by rw [FK.out, HST.out]; exact o'), Lib.hid (box_kept W3.out b' hp.out), Lib.hid (b' _ _ hbel.out S3.out), Lib.hid (Nat.le_trans hsz.out (b' 0 _ (below_zero _) (Nat.zero_le _)).size)⟩
          case measure => simp [intOf]; omega
        · have t1 : (x == p) = false := by simp [hxp]
          have t2 : (x != p) = true := by simp [hxp]
          rw [if_neg hxp] at hgp
          rw [hgp] at hst gk
          have HST := Lib.hid hst
          have hw2 : IntKind.i64.wrap (sj0 + r) = sj0 + r := IntWalk.i64_in _ (by omega)
          have HW2 := Lib.hid hw2
          clear hw2 hst hgp hxp sj gk rk
          go_wp2_with fail
          refine wp_region_quiet_below (by kernel_rfl) (by kernel_rfl) ?_
          repeat (go_big_quiet_step (skip))
          refine wpQuiet_nil ?_
          intro _ hw'
          obtain ⟨⟨dq, osq⟩, hw''⟩ := hw'
          subst hw''
          have BR := below_regrown wr dq osq
          obtain ⟨V1, hV⟩ : ∃ X, X = grow (redrawn wr dq) osq := ⟨_, rfl⟩
          rw [← hV] at BR ⊢
          have ho := Lib.hid (ho.out.below BR)
          have hp := Lib.hid (hp.out.below BR)
          have hsz := Lib.hid (Nat.le_trans hsz.out BR.size)
          have hbel := Lib.hid (hbel.out.trans (BR.mono hbel.out.size))
          clear hV BR
          go_upto_region 17 with fail
          refine wp_region_quiet_below (by kernel_rfl) (by kernel_rfl) ?_
          repeat (go_big_quiet_step (skip))
          refine wpQuiet_nil ?_
          intro _ hw'
          obtain ⟨⟨dq, osq⟩, hw''⟩ := hw'
          subst hw''
          have BR := below_regrown V1 dq osq
          obtain ⟨V2, hV⟩ : ∃ X, X = grow (redrawn V1 dq) osq := ⟨_, rfl⟩
          rw [← hV] at BR ⊢
          have ho := Lib.hid (ho.out.below BR)
          have hp := Lib.hid (hp.out.below BR)
          have hsz := Lib.hid (Nat.le_trans hsz.out BR.size)
          have hbel := Lib.hid (hbel.out.trans (BR.mono hbel.out.size))
          clear hV BR
          go_upto_region 18 with fail
          have c1 := ho.out.at (j := j) (by rw [SL.out]; have := HK.out; omega)
          rw [SA.out] at c1
          have c3 := hp.out.cell2
          have E1 := fun d os => cell_regrown c1 d os
          have E3 := fun d os => cell_regrown c3 d os
          clear c1 c3
          have hw2 := HW2.out
          refine wp_region_quiet_below (by kernel_rfl) (by kernel_rfl) ?_
          repeat (go_big_quiet_step (skip))
          refine wpQuiet_nil ?_
          intro _ hw'
          obtain ⟨⟨dq, osq⟩, hw''⟩ := hw'
          subst hw''
          have BR := below_regrown V2 dq osq
          obtain ⟨V3, hV⟩ : ∃ X, X = grow (redrawn V2 dq) osq := ⟨_, rfl⟩
          rw [← hV] at BR ⊢
          have ho := Lib.hid (ho.out.below BR)
          have hp := Lib.hid (hp.out.below BR)
          have hsz := Lib.hid (Nat.le_trans hsz.out BR.size)
          have hbel := Lib.hid (hbel.out.trans (BR.mono hbel.out.size))
          clear hV BR
          clear hw2 E1 E3
          go_wp2_with (at_builtin; refine wpList_addI _ _ rfl rfl rfl rfl ho.out LK.out hsz.out ?_; intro v' w' o' b')
          go_roundw
          case rel => exact ⟨kk + 1, by omega, by go_num, by rw [HM1.out], by rw [HM2.out, HM1.out], Lib.hid (by rw [FK.out, HST.out]; exact o'), Lib.hid (box_kept W3.out b' hp.out), Lib.hid (b' _ _ hbel.out S3.out), Lib.hid (Nat.le_trans hsz.out (b' 0 _ (below_zero _) (Nat.zero_le _)).size)⟩
          case measure => simp [intOf]; omega
    · obtain rfl : k = S.size := by omega
      have E := Lib.hid (stV_yes HO.out)
      have O6 := Lib.hid (ho.out.mono S3.out)
      go_wp2_with fail
      go_ret2
      exact ⟨_, by rw [HO.out]; rfl, by rw [E.out]; exact O6.out, hbel.out⟩

end Go.Proofs.YtlcmkocbpnekhaaDoor
