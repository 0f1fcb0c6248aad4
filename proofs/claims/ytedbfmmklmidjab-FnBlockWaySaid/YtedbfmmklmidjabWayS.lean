/-
  The model's ways: l3Way, BlockWay. No condition.
-/
import Derived.Test.YtedbfmmklmidjabWayI
import Derived.Test.YtedbfmmklmidjabBlockN
namespace Go.Proofs.Ytedbfmmklmidjab
open Go.RowKit Go.Sort

theorem nxS_part {i q : Nat} (hi : i < 5) (hq : q < nl i) (w : World) : (Instr.slice 9 (.string (nxS (bkAt i))) (some (.int .i64 q)) (some (.int .i64 ((q : Int) + 1))) none).run Try.prog w = .ok (.string (lS i q)) w := by
  rw [run_slice_string _ _ _ _ _ _ _ Try.underlying9 (by omega) (by omega) (by rw [nxS_size]; omega)]
  have e1 : (q : Int).toNat = q := by omega
  have e2 : ((q : Int) + 1).toNat = q + 1 := by omega
  rw [e1, e2]
  have h2 := nl_le hi
  have hn : q = 0 ∨ q = 1 := by omega
  match i, hi with
  | 0, _ | 1, _ | 2, _ | 3, _ | 4, _ => rcases hn with rfl | rfl <;> first | rfl | exact absurd hq (by decide)
theorem str_front (c : UInt8) (l : List UInt8) : (⟨#[c]⟩ : ByteArray) ++ strOf l = strOf (c :: l) := by
  unfold strOf
  rw [ByteArray.mk_append_mk]
  simp
/-- The answer. -/
def wyR (o : Option (List UInt8)) : Value := .tuple #[.string (strOf (o.getD [])), .bool o.isSome]

set_option maxRecDepth 100000 in
set_option maxHeartbeats 4000000 in
theorem l3Way (n : Nat) : n < 10 → ∀ (i j : Nat), i < 5 → j < 5 → ∀ w : World,
    Calls Try.prog 48 #[bkV (bkAt i), bkV (bkAt j), .int .i64 n] w fun e w' => e = .returned (wyR (wy n i j)) ∧ Below w.heap.size w w' := by
  induction n with
  | zero =>
    intro _ i j hi hj w
    unfold bkV
    obtain ⟨x, hx⟩ : ∃ x, x = bkAt i := ⟨_, rfl⟩
    obtain ⟨y, hy⟩ : ∃ y, y = bkAt j := ⟨_, rfl⟩
    obtain ⟨t, ht⟩ : ∃ t, t = decide (x = y) := ⟨_, rfl⟩
    have HT := Lib.hid (show wyR (wy 0 i j) = .tuple #[.string ⟨#[]⟩, .bool t] by
      have : (x = y) ↔ (i = j) := by
        rw [hx, hy]
        exact ⟨fun e => by rw [← (bkIx_at hi).2, ← (bkIx_at hj).2, e], fun e => by rw [e]⟩
      unfold wyR wy
      by_cases e : i = j
      · simp [ht, this, e, strOf]
      · simp [ht, this, e, strOf])
    have EQ : ∀ (w : World), (binOp .eql 25 (.agg #[.int .i64 x.1, .bool x.2.1, .bool x.2.2]) (.agg #[.int .i64 y.1, .bool y.2.1, .bool y.2.2])).run Try.prog w = .ok (.bool t) w := by rw [ht]; exact eqBlk x y
    rw [← hx, ← hy]
    obtain ⟨W, hW⟩ : ∃ W, W = (w.alloc (.cells #[.int .i64 x.1, .bool x.2.1, .bool x.2.2] 25)).alloc (.cells #[.int .i64 y.1, .bool y.2.1, .bool y.2.2] 25) := ⟨_, rfl⟩
    obtain ⟨T1, T2, B0, SZ⟩ := two_tri _ _ _ _ _ _ _ _ _ W hW
    have HW := Lib.hid hW
    have HB := Lib.hid B0
    have c0 := T1.cell0
    have c1 := T1.cell1
    have c2 := T1.cell2
    have d0 := T2.cell0
    have d1 := T2.cell1
    have d2 := T2.cell2
    clear hW B0 SZ T1 T2 hx hy ht
    go_enter Try.func48, Try.ntmps48
    go_upto_region 2 with (rw [← HW.out])
    go_quiet (fail)
    go_wp2_with fail
    go_ret2
    exact ⟨by rw [HT.out]; rfl, below_drewN HB.out _⟩
  | succ n ih =>
    intro hn i j hi hj w
    unfold bkV
    have IH := Lib.hid (ih (by omega))
    clear ih
    obtain ⟨x, hx⟩ : ∃ x, x = bkAt i := ⟨_, rfl⟩
    obtain ⟨y, hy⟩ : ∃ y, y = bkAt j := ⟨_, rfl⟩
    obtain ⟨m, hm⟩ : ∃ m : Int, m = ((n + 1 : Nat) : Int) := ⟨_, rfl⟩
    rw [← hx, ← hy, ← hm]
    have hm0 : 1 ≤ m := by omega
    have hm1 : m ≤ 10 := by omega
    have hmt : (m == 0) = false := by simp; omega
    have HM := Lib.hid hm
    have HX := Lib.hid hx
    have HY := Lib.hid hy
    obtain ⟨W, hW⟩ : ∃ W, W = (w.alloc (.cells #[.int .i64 x.1, .bool x.2.1, .bool x.2.2] 25)).alloc (.cells #[.int .i64 y.1, .bool y.2.1, .bool y.2.2] 25) := ⟨_, rfl⟩
    obtain ⟨T1, T2, B0, SZ⟩ := two_tri _ _ _ _ _ _ _ _ _ W hW
    have HW := Lib.hid hW
    have HB := Lib.hid B0
    have HT := Lib.hid (And.intro T1 T2)
    have NX := Lib.hid (show ∀ w : World, Calls Try.prog 26 #[.agg #[.int .i64 x.1, .bool x.2.1, .bool x.2.2]] w fun e w' => e = .returned (.string (nxS x)) ∧ Below w.heap.size w w' from specNext x)
    have hsz := nxS_size i
    rw [← hx] at hsz
    obtain ⟨S, hS⟩ : ∃ S, S = nxS x := ⟨_, rfl⟩
    rw [← hS] at NX hsz
    have HS := Lib.hid (hS.trans (by rw [hx]))
    have HSZ := Lib.hid hsz
    have hn2 := nl_le hi
    clear hS hsz hx hy hm hW B0 SZ T1 T2
    go_enter Try.func48, Try.ntmps48
    go_wp2_with (rw [← HW.out]; go_at_call 26; refine (NX.out _).mono ?_)
    rintro e w1 ⟨rfl, b1⟩
    have R1 := Lib.hid (And.intro (HT.out.1.below b1) (And.intro (HT.out.2.below b1) (HB.out.trans (b1.mono HB.out.size))))
    clear b1
    go_wp2_with fail
    go_loopw [9] (fun k wr => ∃ q : Nat, q ≤ nl i ∧ k = .int .i64 q ∧ Hid ((∀ p, p < q → wy n (tg i p) j = none) ∧ Tri3 wr w.heap.size (.int .i64 x.1) (.bool x.2.1) (.bool x.2.2) 25 ∧ Tri3 wr (w.heap.size + 1) (.int .i64 y.1) (.bool y.2.1) (.bool y.2.2) 25 ∧ Below w.heap.size w wr)) (fun k _ => 2 - (intOf k).toNat)
    case atStart => exact ⟨0, by omega, rfl, fun p hp => absurd hp (by omega), R1.out⟩
    case round =>
      obtain ⟨q, hq, rfl, RR⟩ := hrel
      have hsz : S.size = nl i := HSZ.out
      by_cases hlt : q < nl i
      · have hqs : (q : Int) < (S.size : Int) := by omega
        have hqn : q < S.size := by omega
        obtain ⟨c, hc⟩ : ∃ c : Int, c = (lb i q).toNat := ⟨_, rfl⟩
        obtain ⟨z, hz⟩ : ∃ z, z = bkAt (tg i q) := ⟨_, rfl⟩
        have ht5 := (tg_is hi hlt).1
        have hix : ∀ (w : World), (Instr.index 9 (.string S) (.int .i64 q)).run Try.prog w = .ok (.int .u8 c) w := by
          intro w
          rw [run_index_string _ _ _ _ _ Try.underlying9, dif_pos ⟨by omega, hqs⟩]
          have e2 : bt S q = c := by rw [HS.out, nxS_bt, hc]
          rw [← e2, ← bt_get hqn]
          rfl
        have L3 := Lib.hid (show ∀ w : World, Calls Try.prog 45 #[.agg #[.int .i64 x.1, .bool x.2.1, .bool x.2.2], .int .u8 c] w fun e w' => e = .returned (.tuple #[.agg #[.int .i64 z.1, .bool z.2.1, .bool z.2.2], .bool true]) ∧ Below w.heap.size w w' by
          intro w
          have := l3StepE x c (by rw [HX.out]; exact (bkIx_at hi).1) w
          rw [show bkStep x c = some z by rw [HX.out, hc, hz]; exact (tg_is hi hlt).2] at this
          exact this)
        obtain ⟨o, ho⟩ : ∃ o, o = wy n (tg i q) j := ⟨_, rfl⟩
        obtain ⟨sr, hsr⟩ : ∃ s, s = strOf (o.getD []) := ⟨_, rfl⟩
        obtain ⟨ok, hok⟩ : ∃ b, b = o.isSome := ⟨_, rfl⟩
        have WY := Lib.hid (show ∀ w : World, Calls Try.prog 48 #[.agg #[.int .i64 z.1, .bool z.2.1, .bool z.2.2], .agg #[.int .i64 y.1, .bool y.2.1, .bool y.2.2], .int .i64 (m - 1)] w fun e w' => e = .returned (.tuple #[.string sr, .bool ok]) ∧ Below w.heap.size w w' by
          intro w
          have := IH.out (tg i q) j ht5 hj w
          rw [← hz, ← HY.out, ← ho] at this
          rw [show m - 1 = (n : Int) by rw [HM.out]; omega, hsr, hok]
          exact this)
        have hsl : ∀ w, (Instr.slice 9 (.string S) (some (.int .i64 q)) (some (.int .i64 ((q : Int) + 1))) none).run Try.prog w = .ok (.string (lS i q)) w := by rw [HS.out]; exact fun w => nxS_part hi hlt w
        obtain ⟨L, hL⟩ : ∃ L, L = lS i q := ⟨_, rfl⟩
        rw [← hL] at hsl
        have hLs : L.size = 1 := by rw [hL]; rfl
        have hrs : sr.size ≤ 10 := by rw [hsr, strOf_size, ho]; exact wy_short n (by omega) _ ht5 j hj
        have hadd : ¬ 9223372036854775807 < L.size + sr.size := by omega
        have HO := Lib.hid (And.intro ho (And.intro hsr (And.intro hok hL)))
        have c0 := RR.out.2.1.cell0
        have c1 := RR.out.2.1.cell1
        have c2 := RR.out.2.1.cell2
        have HQ0 : (0 : Int) ≤ q := by omega
        clear hc hz ho hsr hok hL hLs hrs
        go_upto_region 7 with fail
        go_cut [10, 11] (fun p u wx => ∃ (gx : Nat), p = .pointer (some ⟨gx, 0, none⟩) ∧ u = .bool true ∧ Tri3 wx gx (.int .i64 z.1) (.bool z.2.1) (.bool z.2.2) 25 ∧ Below wr.heap.size wr wx)
        case first =>
          --A
          have d0 : Below wr.heap.size wr wr.drew := (Below.refl _ _).drew
          have l0 : w.heap.size < wr.heap.size := RR.out.2.1.lt
          go_region_with (go_at_call 45; refine (L3.out _).mono ?_; rintro e wA ⟨rfl, bA⟩; first | (have z' : Tri3 wA wr.heap.size (.int .i64 0) (.bool false) (.bool false) 25 := (Tri3.new wr.drew (.int .i64 0) (.bool false) (.bool false) 25).below bA; have z0 := z'.cell0; have z1 := z'.cell1; have z2 := z'.cell2; have g0 := z'.frozen 0; have g1 := z'.frozen 1; have g2 := z'.frozen 2) | (have z' := d0.trans bA))
          all_goals (go_wp2_with fail; go_meet; first
            | with_reducible exact step_endA z' _ _ _ _
            | with_reducible exact step_endB bA z' _ _ _ _)
          --B
        case rest =>
        obtain ⟨gx, rfl, rfl, tg6, b6⟩ := hcut
        have S6 := Lib.hid (And.intro (RR.out.2.1.below b6) (And.intro (RR.out.2.2.1.below b6) (RR.out.2.2.2.trans (b6.mono RR.out.2.2.2.size))))
        have a0 := tg6.cell0
        have a1 := tg6.cell1
        have a2 := tg6.cell2
        have e0 := S6.out.2.1.cell0
        have e1 := S6.out.2.1.cell1
        have e2 := S6.out.2.1.cell2
        clear b6 c0 c1 c2 tg6
        go_wp2_with (go_at_call 48; refine (WY.out _).mono ?_)
        rintro e w2 ⟨rfl, b2⟩
        have S7 := Lib.hid (And.intro (S6.out.1.below b2) (And.intro (S6.out.2.1.below b2) (S6.out.2.2.trans (b2.mono S6.out.2.2.size))))
        clear b2 a0 a1 a2 e0 e1 e2
        cases ok
        · have hno : ∀ p, p < q + 1 → wy n (tg i p) j = none := by
            intro p hp
            by_cases e : p = q
            · subst e
              have h1 := HO.out.2.2.1
              rw [← HO.out.1]
              cases o
              · rfl
              · cases h1
            · exact RR.out.1 p (by omega)
          have HN := Lib.hid hno
          clear hno
          go_wp2_with fail
          go_roundw
          case rel => exact ⟨q + 1, by omega, by go_num, HN.out, S7.out⟩
          case measure => simp [intOf]; omega
        · have hr : ∃ r, o = some r := by
            have h1 := HO.out.2.2.1
            cases o
            · cases h1
            · exact ⟨_, rfl⟩
          obtain ⟨r, hr⟩ := hr
          have HR := Lib.hid (show wyR (wy (n + 1) i j) = .tuple #[.string (L ++ sr), .bool true] by
            rw [wy_some hi hlt RR.out.1 (HO.out.1.symm.trans hr), HO.out.2.1, HO.out.2.2.2, hr]
            show Value.tuple #[.string (strOf (lb i q :: r)), .bool true] = .tuple #[.string (lS i q ++ strOf r), .bool true]
            rw [show lS i q ++ strOf r = strOf (lb i q :: r) from str_front _ _])
          clear hr
          go_wp2_with fail
          go_ret2
          exact ⟨by rw [HR.out]; rfl, S7.out.2.2⟩
      · obtain rfl : q = nl i := by omega
        have hqs : decide ((nl i : Int) < (S.size : Int)) = false := by simp; omega
        have HR := Lib.hid (show wyR (wy (n + 1) i j) = .tuple #[.string ⟨#[]⟩, .bool false] by
          rw [wy_none hi RR.out.1]; rfl)
        go_wp2_with fail
        go_ret2
        exact ⟨by rw [HR.out]; rfl, RR.out.2.2.2⟩

set_option maxRecDepth 100000 in
set_option maxHeartbeats 1000000 in
theorem specWay (a b : Blk) (w : World) :
    Calls Try.prog 16 #[bkV a, bkV b] w fun e w' => e = .returned (.tuple #[.string (bkWay a b), .bool (bkBoth a b)]) ∧ Below w.heap.size w w' := by
  unfold bkV
  obtain ⟨W, hW⟩ : ∃ W, W = (w.alloc (.cells #[.int .i64 a.1, .bool a.2.1, .bool a.2.2] 25)).alloc (.cells #[.int .i64 b.1, .bool b.2.1, .bool b.2.2] 25) := ⟨_, rfl⟩
  obtain ⟨T1, T2, B0, SZ⟩ := two_tri _ _ _ _ _ _ _ _ _ W hW
  have HW := Lib.hid hW
  have HB := Lib.hid B0
  have HT := Lib.hid (And.intro T1 T2)
  clear hW B0 SZ T1 T2
  have PA := Lib.hid (show ∀ w : World, Calls Try.prog 42 #[.agg #[.int .i64 a.1, .bool a.2.1, .bool a.2.2]] w fun e w' => e = .returned (.bool (bkPos a)) ∧ Below w.heap.size w w' from specPossible a)
  have PB := Lib.hid (show ∀ w : World, Calls Try.prog 42 #[.agg #[.int .i64 b.1, .bool b.2.1, .bool b.2.2]] w fun e w' => e = .returned (.bool (bkPos b)) ∧ Below w.heap.size w w' from specPossible b)
  by_cases hno : bkPos a = false ∨ bkPos b = false
  · have N := Lib.hid (bkWay_no hno)
    obtain ⟨p, hp⟩ : ∃ p, p = bkPos a := ⟨_, rfl⟩
    rw [← hp] at PA hno
    clear hp
    cases p
    · clear hno
      go_enter Try.func16, Try.ntmps16
      go_wp2_with (rw [← HW.out]; go_at_call 42; refine (PA.out _).mono ?_)
      rintro e w1 ⟨rfl, b1⟩
      go_wp2_with fail
      go_ret2
      exact ⟨by rw [N.out.1, N.out.2]; rfl, HB.out.trans (b1.mono HB.out.size)⟩
    · have hb : bkPos b = false := by simpa using hno
      rw [hb] at PB
      clear hno hb
      go_enter Try.func16, Try.ntmps16
      go_wp2_with (rw [← HW.out]; go_at_call 42; refine (PA.out _).mono ?_)
      rintro e w1 ⟨rfl, b1⟩
      have t2 := HT.out.2.below b1
      have c0 := t2.cell0
      have c1 := t2.cell1
      have c2 := t2.cell2
      clear t2
      go_wp2_with (go_at_call 42; refine (PB.out _).mono ?_)
      rintro e w2 ⟨rfl, b2⟩
      go_wp2_with fail
      go_ret2
      exact ⟨by rw [N.out.1, N.out.2]; rfl, HB.out.trans ((b1.trans (b2.mono b1.size)).mono HB.out.size)⟩
  · have ha : bkPos a = true := by
      cases e : bkPos a
      · exact absurd (.inl e) hno
      · rfl
    have hb : bkPos b = true := by
      cases e : bkPos b
      · exact absurd (.inr e) hno
      · rfl
    have N := Lib.hid (bkWay_yes ha hb)
    rw [ha] at PA
    rw [hb] at PB
    obtain ⟨s, hs⟩ : ∃ s, s = bkIx a := ⟨_, rfl⟩
    obtain ⟨u, hu⟩ : ∃ u, u = bkIx b := ⟨_, rfl⟩
    have IA := Lib.hid (bkAt_ix ha)
    have IB := Lib.hid (bkAt_ix hb)
    rw [← hs] at N IA
    rw [← hu] at N IB
    clear hno ha hb hs hu
    go_enter Try.func16, Try.ntmps16
    go_wp2_with (rw [← HW.out]; go_at_call 42; refine (PA.out _).mono ?_)
    rintro e w1 ⟨rfl, b1⟩
    have t2 := HT.out.2.below b1
    have c0 := t2.cell0
    have c1 := t2.cell1
    have c2 := t2.cell2
    clear t2
    go_wp2_with (go_at_call 42; refine (PB.out _).mono ?_)
    rintro e w2 ⟨rfl, b2⟩
    have b12 := b1.trans (b2.mono b1.size)
    have R2 := Lib.hid (And.intro (HT.out.1.below b12) (And.intro (HT.out.2.below b12) (HB.out.trans (b12.mono HB.out.size))))
    clear b1 b2 b12 c0 c1 c2
    go_wp2_with fail
    go_loopw [6] (fun k wr => ∃ n : Nat, n ≤ 10 ∧ k = .int .i64 n ∧ Hid ((∀ m, m < n → wy m s u = none) ∧ Tri3 wr w.heap.size (.int .i64 a.1) (.bool a.2.1) (.bool a.2.2) 25 ∧ Tri3 wr (w.heap.size + 1) (.int .i64 b.1) (.bool b.2.1) (.bool b.2.2) 25 ∧ Below w.heap.size w wr)) (fun k _ => 10 - (intOf k).toNat)
    case atStart => exact ⟨0, by omega, rfl, fun m hm => absurd hm (by omega), R2.out⟩
    case round =>
      obtain ⟨n, hn, rfl, RR⟩ := hrel
      by_cases hlt : n < 10
      · have hni : (n : Int) < 10 := by omega
        obtain ⟨o, ho⟩ : ∃ o, o = wy n s u := ⟨_, rfl⟩
        obtain ⟨sr, hsr⟩ : ∃ s, s = strOf (o.getD []) := ⟨_, rfl⟩
        obtain ⟨ok, hok⟩ : ∃ b, b = o.isSome := ⟨_, rfl⟩
        have WY := Lib.hid (show ∀ w : World, Calls Try.prog 48 #[.agg #[.int .i64 a.1, .bool a.2.1, .bool a.2.2], .agg #[.int .i64 b.1, .bool b.2.1, .bool b.2.2], .int .i64 n] w fun e w' => e = .returned (.tuple #[.string sr, .bool ok]) ∧ Below w.heap.size w w' by
          intro w
          have := l3Way n hlt s u IA.out.1 IB.out.1 w
          rw [IA.out.2, IB.out.2, ← ho] at this
          rw [hsr, hok]
          exact this)
        have HO := Lib.hid (And.intro ho (And.intro hsr hok))
        have c0 := RR.out.2.1.cell0
        have c1 := RR.out.2.1.cell1
        have c2 := RR.out.2.1.cell2
        have d0 := RR.out.2.2.1.cell0
        have d1 := RR.out.2.2.1.cell1
        have d2 := RR.out.2.2.1.cell2
        clear ho hsr hok
        go_wp2_with (go_at_call 48; refine (WY.out _).mono ?_)
        rintro e w3 ⟨rfl, b3⟩
        have S3 := Lib.hid (And.intro (RR.out.2.1.below b3) (And.intro (RR.out.2.2.1.below b3) (RR.out.2.2.2.trans (b3.mono RR.out.2.2.2.size))))
        clear b3 c0 c1 c2 d0 d1 d2
        cases ok
        · have hno : ∀ m, m < n + 1 → wy m s u = none := by
            intro m hm
            by_cases e : m = n
            · subst e
              have h1 := HO.out.2.2
              rw [← HO.out.1]
              cases o
              · rfl
              · cases h1
            · exact RR.out.1 m (by omega)
          have HN := Lib.hid hno
          clear hno
          go_wp2_with fail
          go_roundw
          case rel => exact ⟨n + 1, by omega, by go_num, HN.out, S3.out⟩
          case measure => simp [intOf]; omega
        · have hr : ∃ r, o = some r := by
            have h1 := HO.out.2.2
            cases o
            · cases h1
            · exact ⟨_, rfl⟩
          obtain ⟨r, hr⟩ := hr
          have HR := Lib.hid (show bkWay a b = sr by
            rw [N.out.1, way_is hlt RR.out.1 (HO.out.1.symm.trans hr), HO.out.2.1, hr])
          clear hr
          go_wp2_with fail
          go_ret2
          exact ⟨by rw [HR.out, N.out.2]; rfl, S3.out.2.2⟩
      · exact absurd (way_found IA.out.1 IB.out.1 (fun m hm => RR.out.1 m (by omega))) id

end Go.Proofs.Ytedbfmmklmidjab
