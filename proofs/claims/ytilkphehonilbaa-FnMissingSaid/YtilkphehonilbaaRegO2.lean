/-
  Offsets and slacks of two registers, by the program. For lists of at most 1048576 notes.
-/
import Derived.Test.YtilkphehonilbaaRegS
import Derived.Test.YtilkphehonilbaaNoteP
namespace Go.Proofs.Ytilkphehonilbaa
open Go.RowKit Go.Sort

/-- What offset hands back for two registers. -/
theorem offV_none : offV none = .tuple #[.int .i64 0, .bool false] := rfl
theorem offV_some (x : Int) : offV (some x) = .tuple #[.int .i64 x, .bool true] := rfl

set_option maxRecDepth 100000 in
set_option maxHeartbeats 4000000 in
theorem implOffset {w : World} {p q : Value} {ms ns : List Mv} (hp : Chain w p ms) (hq : Chain w q ns) (h1 : regB ms = true) (h2 : regB ns = true) (sl : Int) :
    Calls Try.prog 24 #[p, q, .int .i64 sl] w fun e w' => e = .returned (offV (offO ms ns sl)) ∧ Below w.heap.size w w' := by
  obtain ⟨ap, rfl⟩ := hp.ptr
  obtain ⟨aq, rfl⟩ := hq.ptr
  have HP := Lib.hid hp
  have HQ := Lib.hid hq
  have T1 := Lib.hid (fun (X : World) (c : Below w.heap.size w X) => implText (hp.below c) h1)
  have T2 := Lib.hid (fun (X : World) (c : Below w.heap.size w X) => implText (hq.below c) h2)
  by_cases s0 : sl < 0
  · have d0 : decide (sl < 0) = true := decide_eq_true s0
    have R := Lib.hid (offO_slack (ms := ms) (ns := ns) (.inl s0))
    clear hp hq h1 h2
    go_enter Try.func24, Try.ntmps24
    go_wp2_with fail
    go_ret2
    exact ⟨by rw [R.out]; rfl, below_self _⟩
  have d0 : decide (sl < 0) = false := decide_eq_false s0
  by_cases s5 : 5 < sl
  · have d5 : decide (5 < sl) = true := decide_eq_true s5
    have R := Lib.hid (offO_slack (ms := ms) (ns := ns) (.inr s5))
    clear hp hq h1 h2
    go_enter Try.func24, Try.ntmps24
    go_wp2_with fail
    go_ret2
    exact ⟨by rw [R.out]; rfl, below_self _⟩
  have d5 : decide (5 < sl) = false := decide_eq_false s5
  by_cases e : nTx ms = nTx ns
  · have hlen := text_length h1 h2 e
    have t1 := str_eq e
    have LR := Lib.hid (fun k (hk : k ≤ ms.length) => off_range ms ns sl (by omega) (by omega) k (fun i hi => reg_lat h1 h2 hlen (by omega)))
    have NR := Lib.hid (fun i (hi : i < ms.length) => And.intro (reg_note h1 hi) (reg_note h2 (i := i) (by omega)))
    have RY := Lib.hid (fun (g : offL ms ns sl ms.length ≤ offG ms ns sl ms.length) => offO_yes h1 h2 e (by omega) (by omega) g)
    have RN := Lib.hid (fun (g : offG ms ns sl ms.length < offL ms ns sl ms.length) => offO_no g)
    have LN := Lib.hid hlen
    have EE := Lib.hid e
    clear hp hq h1 h2 e hlen
    go_enter Try.func24, Try.ntmps24
    go_wp2_with (first | (go_at_call_of 29 (Value.pointer ap); refine (T1.out _ (Below.refl _ _)).mono ?_; rintro e w1 ⟨rfl, b1⟩; clear T1) | (go_at_call_of 29 (Value.pointer aq); refine (T2.out _ b1).mono ?_; rintro e w2 ⟨rfl, b2⟩; clear T2))
    have B2 := Lib.hid (chain b1 b2)
    clear b1 b2
    go_loopw [0, 1, 8, 9] (fun p q L G wr => ∃ j : Nat, j ≤ ms.length ∧ Hid (Chain w p (ms.drop j)) ∧ Hid (Chain w q (ns.drop j)) ∧ L = .int .i64 (offL ms ns sl j) ∧ G = .int .i64 (offG ms ns sl j) ∧ Hid (Below w.heap.size w wr)) (fun p _ _ _ _ => left w p)
    case atStart => exact ⟨0, by omega, HP, HQ, rfl, rfl, B2⟩
    case round =>
      obtain ⟨j, hj, HC, HD, rfl, rfl, HB⟩ := hrel
      have hc := HC.out
      have hd := HD.out
      have ML := Lib.hid (left_eq hc)
      by_cases hlt : j < ms.length
      · rw [drop_get hlt] at hc
        rw [drop_get (show j < ns.length by rw [LN.out]; exact hlt)] at hd
        obtain ⟨b, p', rfl, hb, k0, k1, k2, hn⟩ := hc.cells
        obtain ⟨b', q', rfl, hb', k0', k1', k2', hn'⟩ := hd.cells
        obtain ⟨ap', rfl⟩ := hn.ptr
        obtain ⟨aq', rfl⟩ := hn'.ptr
        have HN := Lib.hid hn
        have HN' := Lib.hid hn'
        have c0 := (HB.out.cell (p := ⟨b, 0, none⟩) hb).trans k0
        have c2 := (HB.out.cell (p := ⟨b, 2, none⟩) hb).trans k2
        have c0' := (HB.out.cell (p := ⟨b', 0, none⟩) hb').trans k0'
        have c2' := (HB.out.cell (p := ⟨b', 2, none⟩) hb').trans k2'
        obtain ⟨⟨n1, n2, _⟩, n3, n4, _⟩ := NR.out j hlt
        have l1 := LR.out j hj
        have EL := Lib.hid (show offL ms ns sl (j + 1) = max (offL ms ns sl j) (latN ms ns j - sl) from rfl)
        have EG := Lib.hid (show offG ms ns sl (j + 1) = min (offG ms ns sl j) (latN ms ns j + sl) from rfl)
        have ED : latN ms ns j = (ns.getD j noMv).1 - (ms.getD j noMv).1 := rfl
        obtain ⟨x, hx⟩ : ∃ x, x = (ms.getD j noMv).1 := ⟨_, rfl⟩
        obtain ⟨y, hy⟩ : ∃ y, y = (ns.getD j noMv).1 := ⟨_, rfl⟩
        rw [← hx] at c0 n1 n2 ED
        rw [← hy] at c0' n3 n4 ED
        obtain ⟨D, hD⟩ : ∃ D, D = latN ms ns j := ⟨_, rfl⟩
        rw [← hD] at EL EG ED
        obtain ⟨L, hL⟩ : ∃ L, L = offL ms ns sl j := ⟨_, rfl⟩
        obtain ⟨G, hG⟩ : ∃ G, G = offG ms ns sl j := ⟨_, rfl⟩
        rw [← hL] at EL l1 ⊢
        rw [← hG] at EG l1 ⊢
        have hw1 : IntKind.i64.wrap (y - x) = D := by rw [← ED]; exact IntWalk.i64_in _ (by omega)
        have hw2 : wrap64 (D - sl) = D - sl := (IntWalk.i64_left _).symm.trans (IntWalk.i64_in _ (by omega))
        have hw3 : wrap64 (D + sl) = D + sl := (IntWalk.i64_left _).symm.trans (IntWalk.i64_in _ (by omega))
        have hw4 : wrap64 (y - x) = D := (IntWalk.i64_left _).symm.trans hw1
        have g0 := fun d os => cell_regrown c0 d os
        have g0' := fun d os => cell_regrown c0' d os
        obtain ⟨V, hV⟩ : ∃ V, V = wr := ⟨_, rfl⟩
        have B0 := Lib.hid hb
        have B0' := Lib.hid hb'
        have C2 := Lib.hid c2
        have C2' := Lib.hid c2'
        clear hx hy hD hL hG ED k0 k1 k2 k0' k1' k2' hc hd hn hn' hV
        go_wp2_with fail
        refine wp_region_quiet_below (by kernel_rfl) (by kernel_rfl) ?_
        repeat (go_big_quiet_step (fail))
        refine wpQuiet_nil ?_
        intro _ hw'
        obtain ⟨⟨dq, osq⟩, hw''⟩ := hw'
        subst hw''
        have br := below_regrown wr dq osq
        obtain ⟨wz, hwz⟩ : ∃ X, X = grow (redrawn wr dq) osq := ⟨_, rfl⟩
        rw [← hwz] at br ⊢
        have B3 := Lib.hid (HB.out.trans (br.mono HB.out.size))
        have m0 := fun d os => cell_regrown ((HB.out.trans (br.mono HB.out.size)).cell (p := ⟨b, 2, none⟩) B0.out |>.trans ((HB.out.cell (p := ⟨b, 2, none⟩) B0.out).symm.trans C2.out)) d os
        have m1 := fun d os => cell_regrown ((HB.out.trans (br.mono HB.out.size)).cell (p := ⟨b', 2, none⟩) B0'.out |>.trans ((HB.out.cell (p := ⟨b', 2, none⟩) B0'.out).symm.trans C2'.out)) d os
        clear br hwz g0 g0' c0 c0' c2 c2'
        go_wp2_with fail
        refine wp_region_quiet_below (by kernel_rfl) (by kernel_rfl) ?_
        repeat (go_big_quiet_step (fail))
        refine wpQuiet_nil ?_
        intro _ hw'
        obtain ⟨⟨dq', osq'⟩, hw''⟩ := hw'
        subst hw''
        have br := below_regrown wz dq' osq'
        obtain ⟨wy, hwy⟩ : ∃ X, X = grow (redrawn wz dq') osq' := ⟨_, rfl⟩
        rw [← hwy] at br ⊢
        have B4 := Lib.hid (B3.out.trans (br.mono B3.out.size))
        clear br hwy m0 m1
        go_wp2_with fail
        go_roundw
        case rel => exact ⟨j + 1, by omega, HN, HN', by rw [EL.out], by rw [EG.out], B4⟩
        case measure => rw [ML.out, left_eq HN.out, List.length_drop, List.length_drop]; omega
      · obtain rfl : j = ms.length := by omega
        rw [List.drop_length] at hc
        rw [← LN.out, List.drop_length] at hd
        have hp' : _ = Value.pointer none := hc
        have hq' : _ = Value.pointer none := hd
        subst hp'
        subst hq'
        obtain ⟨L, hL⟩ : ∃ L, L = offL ms ns sl ms.length := ⟨_, rfl⟩
        obtain ⟨G, hG⟩ : ∃ G, G = offG ms ns sl ms.length := ⟨_, rfl⟩
        rw [← hL, ← hG] at RY RN ⊢
        clear HC HD ML hL hG
        by_cases g : G < L
        · have hd : decide (G < L) = true := decide_eq_true g
          have R := Lib.hid (RN.out g)
          clear RY RN
          go_wp2_with fail
          go_ret2
          exact ⟨by rw [R.out]; rfl, HB.out⟩
        · have hd : decide (G < L) = false := decide_eq_false g
          have R := Lib.hid (RY.out (by omega))
          clear RY RN
          go_wp2_with fail
          go_ret2
          exact ⟨by rw [R.out]; rfl, HB.out⟩
  · have t1 := str_ne e
    have R := Lib.hid (offO_text (sl := sl) e)
    clear hp hq h1 h2 e
    go_enter Try.func24, Try.ntmps24
    go_wp2_with (first | (go_at_call_of 29 (Value.pointer ap); refine (T1.out _ (Below.refl _ _)).mono ?_; rintro e w1 ⟨rfl, b1⟩; clear T1) | (go_at_call_of 29 (Value.pointer aq); refine (T2.out _ b1).mono ?_; rintro e w2 ⟨rfl, b2⟩; clear T2))
    go_ret2
    exact ⟨by rw [R.out]; rfl, chain b1 b2⟩

end Go.Proofs.Ytilkphehonilbaa

/-
  RegisterOffset and RegisterSlack, by the program and by the model. For lists of at most 1048576 notes.
-/
namespace Go.Proofs.Ytilkphehonilbaa
open Go.RowKit Go.Sort

set_option maxHeartbeats 2000000 in
theorem implRegisterOffset {w : World} {u v : Value} {ms ns : List Mv} (h : Mvs w u ms) (h' : Mvs w v ns) (sl : Int) :
    Calls Try.prog 27 #[u, v, .int .i64 sl] w fun e w' => e = .returned (offV (offO ms ns sl)) ∧ Below w.heap.size w w' := by
  have R1 := Lib.hid (implRegisterOf h)
  have R2 := Lib.hid (fun (X : World) (c : Below w.heap.size w X) => implRegisterOf (Rd.below h' c))
  obtain ⟨au, cu, rfl⟩ := Rd.slice h
  obtain ⟨av, cv, rfl⟩ := Rd.slice h'
  cases hr : regB ms
  · have O := Lib.hid (offO_first (ns := ns) (sl := sl) hr)
    have P := Lib.hid hr
    clear h h' hr
    go_enter Try.func27, Try.ntmps27
    go_wp2_with (go_at_call 22; refine R1.out.mono ?_)
    rintro e w1 ⟨p, rfl, ch, b1⟩
    rw [P.out]
    obtain ⟨a, rfl⟩ := ch.ptr
    clear ch
    go_wp2_with fail
    go_ret2
    exact ⟨by rw [O.out]; rfl, b1⟩
  · cases hr2 : regB ns
    · have O := Lib.hid (offO_second (ms := ms) (sl := sl) hr2)
      have P := Lib.hid hr
      have P2 := Lib.hid hr2
      clear h h' hr hr2
      go_enter Try.func27, Try.ntmps27
      go_wp2_with (go_at_call 22; refine R1.out.mono ?_)
      rintro e w1 ⟨p, rfl, ch, b1⟩
      rw [P.out]
      obtain ⟨a, rfl⟩ := ch.ptr
      clear ch
      go_wp2_with (go_at_call 22; refine (R2.out _ b1).mono ?_)
      rintro e w2 ⟨p, rfl, ch, b2⟩
      rw [P2.out]
      obtain ⟨a2, rfl⟩ := ch.ptr
      clear ch
      go_wp2_with fail
      go_ret2
      exact ⟨by rw [O.out]; rfl, chain b1 b2⟩
    · have P := Lib.hid hr
      have P2 := Lib.hid hr2
      obtain ⟨o, ho⟩ : ∃ o, o = offO ms ns sl := ⟨_, rfl⟩
      have HO := Lib.hid ho
      clear h h' hr hr2 ho
      go_enter Try.func27, Try.ntmps27
      go_wp2_with (go_at_call 22; refine R1.out.mono ?_)
      rintro e w1 ⟨p, rfl, ch, b1⟩
      rw [P.out]
      rw [regL_yes P.out] at ch
      obtain ⟨a, rfl⟩ := ch.ptr
      have CH := Lib.hid ch
      clear ch
      go_wp2_with (go_at_call 22; refine (R2.out _ b1).mono ?_)
      rintro e w2 ⟨p, rfl, ch, b2⟩
      rw [P2.out]
      rw [regL_yes P2.out] at ch
      obtain ⟨a2, rfl⟩ := ch.ptr
      have OF := Lib.hid (implOffset (CH.out.below b2) ch P.out P2.out sl)
      rw [← HO.out] at OF
      have OF := Lib.hid (show Calls Try.prog 24 #[.pointer a, .pointer a2, .int .i64 sl] w2 fun e w' => e = .returned (.tuple #[.int .i64 (o.getD 0), .bool o.isSome]) ∧ Below w2.heap.size w2 w' from OF.out)
      clear ch
      go_wp2_with (go_at_call 24; refine OF.out.mono ?_)
      rintro e w3 ⟨rfl, b3⟩
      go_wp2_with fail
      go_ret2
      exact ⟨by rw [← HO.out]; rfl, chain (chain b1 b2) b3⟩

/-- Do two registers agree with an offset? -/
def agrB (ms ns : List Mv) (o sl : Int) : Bool := (List.range ms.length).all fun i => decide (-sl ≤ latN ms ns i - o ∧ latN ms ns i - o ≤ sl)
theorem agrB_is {ms ns : List Mv} {o sl : Int} (h : agrB ms ns o sl = true) : ∀ i, i < ms.length → -sl ≤ latN ms ns i - o ∧ latN ms ns i - o ≤ sl := by
  unfold agrB at h
  rw [List.all_eq_true] at h
  intro i hi
  have := of_decide_eq_true (h i (List.mem_range.2 hi))
  omega
theorem agrB_yes {ms ns : List Mv} {o sl : Int} (h : ∀ i, i < ms.length → decide (-sl ≤ latN ms ns i - o ∧ latN ms ns i - o ≤ sl) = true) : agrB ms ns o sl = true := by
  unfold agrB
  rw [List.all_eq_true]
  exact fun i hi => h i (List.mem_range.1 hi)
theorem agrB_no {ms ns : List Mv} {o sl : Int} {i : Nat} (hi : i < ms.length) (h : decide (-sl ≤ latN ms ns i - o ∧ latN ms ns i - o ≤ sl) = false) : agrB ms ns o sl = false := by
  cases e : agrB ms ns o sl with
  | false => rfl
  | true =>
    have := agrB_is e i hi
    have h := of_decide_eq_false h
    omega
theorem agr_first {ms ns : List Mv} {sl o : Int} (h : agrB ms ns o sl = true) (ho : -30 ≤ o ∧ o ≤ 30) (hn : ∀ o', -30 ≤ o' → o' < o → agrB ms ns o' sl = false) : offL ms ns sl ms.length ≤ offG ms ns sl ms.length ∧ o = offL ms ns sl ms.length := by
  have h1 := (off_agree ms ns sl o ms.length).1 ⟨agrB_is h, ho⟩
  refine ⟨by omega, ?_⟩
  by_cases e : o = offL ms ns sl ms.length
  · exact e
  · have h2 := (off_agree ms ns sl (offL ms ns sl ms.length) ms.length).2 ⟨Int.le_refl _, by omega⟩
    have h3 := hn (offL ms ns sl ms.length) h2.2.1 (by omega)
    rw [agrB_yes (fun i hi => decide_eq_true (by have := h2.1 i hi; omega))] at h3
    cases h3
theorem agr_none {ms ns : List Mv} {sl : Int} (hn : ∀ o', -30 ≤ o' → o' ≤ 30 → agrB ms ns o' sl = false) : offG ms ns sl ms.length < offL ms ns sl ms.length := by
  by_cases e : offG ms ns sl ms.length < offL ms ns sl ms.length
  · exact e
  · have h2 := (off_agree ms ns sl (offL ms ns sl ms.length) ms.length).2 ⟨Int.le_refl _, by omega⟩
    have h3 := hn (offL ms ns sl ms.length) h2.2.1 h2.2.2
    rw [agrB_yes (fun i hi => decide_eq_true (by have := h2.1 i hi; omega))] at h3
    cases h3

set_option maxRecDepth 100000 in
set_option maxHeartbeats 4000000 in
theorem specAgree {w : World} {u v : Value} {ms ns : List Mv} (h : Mvs w u ms) (h' : Mvs w v ns) (h1 : regB ms = true) (h2 : regB ns = true) (hlen : ns.length = ms.length) {o sl : Int} (ho : -30 ≤ o ∧ o ≤ 30) (hs : 0 ≤ sl ∧ sl ≤ 5) :
    Calls Try.prog 39 #[u, v, .int .i64 o, .int .i64 sl] w fun e w' => e = .returned (.bool (agrB ms ns o sl)) ∧ Below w.heap.size w w' := by
  obtain ⟨au, cu, rfl⟩ := Rd.slice h
  obtain ⟨av, cv, rfl⟩ := Rd.slice h'
  have hl' : (ms.length : Int) ≤ 30 := by have := (regB_is h1).1; omega
  have AT := Lib.hid (fun (i : Nat) (hi : i < ms.length) => Mvs.at h hi)
  have AT' := Lib.hid (fun (i : Nat) (hi : i < ns.length) => Mvs.at h' hi)
  have NR := Lib.hid (fun i (hi : i < ms.length) => And.intro (reg_note h1 hi) (reg_note h2 (i := i) (by omega)))
  have LN := Lib.hid hlen
  have hw0 : IntKind.i64.wrap (-sl) = -sl := IntWalk.i64_in _ (by omega)
  have hw0' : wrap64 (-sl) = -sl := (IntWalk.i64_left _).symm.trans hw0
  rw [hlen]
  clear h h' h1 h2 hlen
  go_enter Try.func39, Try.ntmps39
  go_wp2_with fail
  go_loopw [9] (fun i wr => ∃ k : Nat, k ≤ ms.length ∧ i = .int .i64 k ∧ Hid (∀ j, j < k → decide (-sl ≤ latN ms ns j - o ∧ latN ms ns j - o ≤ sl) = true) ∧ Hid (Below w.heap.size w wr)) (fun i _ => ms.length - (intOf i).toNat)
  case atStart => exact ⟨0, by omega, rfl, Lib.hid (fun j hj => absurd hj (by omega)), Lib.hid (below_self _)⟩
  case round =>
    obtain ⟨k, hk, rfl, HA, HB⟩ := hrel
    by_cases hlt : k < ms.length
    · obtain ⟨b, o1, rfl, hb, hcell⟩ := AT.out k hlt
      obtain ⟨b', o2, rfl, hb', hcell'⟩ := AT'.out k (by rw [LN.out]; exact hlt)
      have e0 := (hcell k hlt).1
      have e0' := (hcell' k (by rw [LN.out]; exact hlt)).1
      have c0 := (HB.out.cell (p := ⟨b, o1 + k * 2, none⟩) hb).trans e0
      have c0' := (HB.out.cell (p := ⟨b', o2 + k * 2, none⟩) hb').trans e0'
      have hki : (k : Int) < (ms.length : Int) := by omega
      obtain ⟨⟨n1, n2, _⟩, n3, n4, _⟩ := NR.out k hlt
      have NO := Lib.hid (fun (q : decide (-sl ≤ latN ms ns k - o ∧ latN ms ns k - o ≤ sl) = false) => agrB_no hlt q)
      have ED : latN ms ns k = (ns.getD k noMv).1 - (ms.getD k noMv).1 := rfl
      have DD := Lib.hid (show decide (-sl ≤ latN ms ns k - o ∧ latN ms ns k - o ≤ sl) = decide (-sl ≤ latN ms ns k - o ∧ latN ms ns k - o ≤ sl) from rfl)
      obtain ⟨x, hx⟩ : ∃ x, x = (ms.getD k noMv).1 := ⟨_, rfl⟩
      obtain ⟨y, hy⟩ : ∃ y, y = (ns.getD k noMv).1 := ⟨_, rfl⟩
      rw [← hx] at c0 n1 n2 ED
      rw [← hy] at c0' n3 n4 ED
      obtain ⟨D, hD⟩ : ∃ D, D = latN ms ns k := ⟨_, rfl⟩
      rw [← hD] at ED
      have HD := Lib.hid hD
      have hw1 : IntKind.i64.wrap (y - x) = D := by rw [← ED]; exact IntWalk.i64_in _ (by omega)
      have hw2 : IntKind.i64.wrap (D - o) = D - o := IntWalk.i64_in _ (by omega)
      have g0 := fun d os => cell_regrown c0 d os
      have g0' := fun d os => cell_regrown c0' d os
      obtain ⟨t, ht⟩ : ∃ t, t = decide (-sl ≤ D - o ∧ D - o ≤ sl) := ⟨_, rfl⟩
      have I1 := Lib.hid (in_quiet (D - o) (-sl) sl t ht.symm wr)
      have HT := Lib.hid (show decide (-sl ≤ latN ms ns k - o ∧ latN ms ns k - o ≤ sl) = t by rw [ht, HD.out])
      clear hx hy hD ED ht e0 e0' hcell hcell' DD HD
      cases t
      · have R := Lib.hid (NO.out HT.out)
        go_wp2_with fail
        refine wp_region_quiet_below (by kernel_rfl) (by kernel_rfl) ?_
        repeat (go_big_quiet_step (exact I1.out _ _))
        refine wpQuiet_nil ?_
        intro _ hw'
        obtain ⟨⟨dq, osq⟩, hw''⟩ := hw'
        subst hw''
        have BR := Lib.hid (HB.out.trans ((below_regrown wr dq osq).mono HB.out.size))
        go_wp2_with fail
        go_ret
        exact ⟨ret_bool R.out.symm, BR.out⟩
      · have R := Lib.hid (show ∀ j, j < k + 1 → decide (-sl ≤ latN ms ns j - o ∧ latN ms ns j - o ≤ sl) = true from fun j hj => by
          by_cases q : j = k
          · rw [q]; exact HT.out
          · exact HA.out j (by omega))
        go_wp2_with fail
        refine wp_region_quiet_below (by kernel_rfl) (by kernel_rfl) ?_
        repeat (go_big_quiet_step (exact I1.out _ _))
        refine wpQuiet_nil ?_
        intro _ hw'
        obtain ⟨⟨dq, osq⟩, hw''⟩ := hw'
        subst hw''
        have BR := Lib.hid (HB.out.trans ((below_regrown wr dq osq).mono HB.out.size))
        go_wp2_with fail
        go_roundw
        case rel => exact ⟨k + 1, by omega, by go_num, R, BR⟩
        case measure => simp [intOf]; omega
    · obtain rfl : k = ms.length := by omega
      have R := Lib.hid (agrB_yes HA.out)
      go_wp2_with fail
      go_ret
      exact ⟨ret_bool R.out.symm, HB.out⟩

set_option maxRecDepth 100000 in
set_option maxHeartbeats 4000000 in
theorem specRegisterOffset {w : World} {u v : Value} {ms ns : List Mv} (h : Mvs w u ms) (h' : Mvs w v ns) (sl : Int) :
    Calls Try.prog 26 #[u, v, .int .i64 sl] w fun e w' => e = .returned (offV (offO ms ns sl)) ∧ Below w.heap.size w w' := by
  have V1 := Lib.hid (specRegisterValid h)
  have V2 := Lib.hid (fun (X : World) (c : Below w.heap.size w X) => specRegisterValid (Rd.below h' c))
  obtain ⟨au, cu, hu⟩ := Rd.slice h
  obtain ⟨av, cv, hv⟩ := Rd.slice h'
  cases hr : regB ms
  · have O := Lib.hid (offO_first (ns := ns) (sl := sl) hr)
    rw [hr] at V1
    clear h h' hr hu hv
    go_enter Try.func26, Try.ntmps26
    go_wp2_with (go_at_call 25; refine V1.out.mono ?_; rintro e w1 ⟨rfl, b1⟩)
    go_ret2
    exact ⟨by rw [O.out]; rfl, b1⟩
  rw [hr] at V1
  cases hr2 : regB ns
  · have O := Lib.hid (offO_second (ms := ms) (sl := sl) hr2)
    rw [hr2] at V2
    clear h h' hr hr2 hu hv
    go_enter Try.func26, Try.ntmps26
    go_wp2_with (first | (go_at_call 25; refine V1.out.mono ?_; rintro e w1 ⟨rfl, b1⟩; clear V1) | (go_at_call 25; refine (V2.out _ b1).mono ?_; rintro e w2 ⟨rfl, b2⟩; clear V2))
    go_ret2
    exact ⟨by rw [O.out]; rfl, chain b1 b2⟩
  rw [hr2] at V2
  have T1 := Lib.hid (fun (X : World) (c : Below w.heap.size w X) => specText (Rd.below h c) hr)
  have T2 := Lib.hid (fun (X : World) (c : Below w.heap.size w X) => specText (Rd.below h' c) hr2)
  by_cases e : nTx ms = nTx ns
  · have t1 := str_eq e
    have IN := Lib.hid (fun (X : World) => in_is sl 0 5 X)
    by_cases hs : 0 ≤ sl ∧ sl ≤ 5
    · have hlen := text_length hr hr2 e
      have AG := Lib.hid (fun (X : World) (c : Below w.heap.size w X) (o : Int) (ho : -30 ≤ o ∧ o ≤ 30) => specAgree (Rd.below h c) (Rd.below h' c) hr hr2 hlen ho hs)
      have RY := Lib.hid (fun (g : offL ms ns sl ms.length ≤ offG ms ns sl ms.length) => offO_yes hr hr2 e hs.1 hs.2 g)
      have RN := Lib.hid (fun (g : offG ms ns sl ms.length < offL ms ns sl ms.length) => offO_no g)
      rw [decide_eq_true hs] at IN
      have EE := Lib.hid e
      subst hu
      subst hv
      clear h h' hr hr2 hs e hlen
      go_enter Try.func26, Try.ntmps26
      go_wp2_with (first
        | (go_at_call_of 25 (Value.slice au ms.length cu); refine V1.out.mono ?_; rintro e w1 ⟨rfl, b1⟩; clear V1)
        | (go_at_call_of 25 (Value.slice av ns.length cv); refine (V2.out _ b1).mono ?_; rintro e w2 ⟨rfl, b2⟩; clear V2; have B2 := chain b1 b2)
        | (go_at_call_of 31 (Value.slice au ms.length cu); refine (T1.out _ B2).mono ?_; rintro e w3 ⟨rfl, rfl⟩; clear T1)
        | (go_at_call_of 31 (Value.slice av ns.length cv); refine (T2.out _ B2).mono ?_; rintro e w4 ⟨rfl, rfl⟩; clear T2)
        | (go_at_call 37; refine (IN.out _).mono ?_; rintro e w5 ⟨rfl, rfl⟩))
      have B3 := Lib.hid B2
      clear B2 b1 b2
      go_loopw [8] (fun o wr => ∃ x : Int, -30 ≤ x ∧ x ≤ 31 ∧ o = .int .i64 x ∧ Hid (∀ o', -30 ≤ o' → o' < x → agrB ms ns o' sl = false) ∧ Hid (Below w.heap.size w wr)) (fun o _ => (31 - intOf o).toNat)
      case atStart => exact ⟨-30, by omega, by omega, rfl, Lib.hid (fun o' h1 h2 => absurd h2 (by omega)), B3⟩
      case round =>
        obtain ⟨x, hx0, hx1, rfl, HN, HB⟩ := hrel
        by_cases hlt : x ≤ 30
        · have A := Lib.hid (AG.out _ HB.out x ⟨hx0, hlt⟩)
          have F := Lib.hid (fun (g : agrB ms ns x sl = true) => agr_first g ⟨hx0, hlt⟩ HN.out)
          obtain ⟨t, ht⟩ : ∃ t, t = agrB ms ns x sl := ⟨_, rfl⟩
          rw [← ht] at A F
          have HT := Lib.hid ht
          clear ht
          cases t
          · have N := Lib.hid (show ∀ o', -30 ≤ o' → o' < x + 1 → agrB ms ns o' sl = false from fun o' g1 g2 => by
              by_cases q : o' = x
              · rw [q]; exact HT.out.symm
              · exact HN.out o' g1 (by omega))
            go_wp2_with (go_at_call 39; refine A.out.mono ?_; rintro e w6 ⟨rfl, b6⟩; have B6 := Lib.hid (HB.out.trans (b6.mono HB.out.size)); clear b6)
            go_roundw
            case rel => exact ⟨x + 1, by omega, by omega, by go_num, N, B6⟩
            case measure => simp [intOf]; omega
          · have R := Lib.hid (show offO ms ns sl = some x by rw [RY.out (F.out rfl).1, ← (F.out rfl).2])
            go_wp2_with (go_at_call 39; refine A.out.mono ?_; rintro e w6 ⟨rfl, b6⟩; have B6 := Lib.hid (HB.out.trans (b6.mono HB.out.size)); clear b6)
            go_ret2
            exact ⟨by rw [R.out]; rfl, B6.out⟩
        · have hx : x = 31 := by omega
          have R := Lib.hid (RN.out (agr_none fun o' g1 g2 => HN.out o' g1 (by omega)))
          have hd : decide (x ≤ 30) = false := decide_eq_false hlt
          clear hx
          go_wp2_with fail
          go_ret2
          exact ⟨by rw [R.out]; rfl, HB.out⟩
    · have O := Lib.hid (offO_slack (ms := ms) (ns := ns) (sl := sl) (by omega))
      rw [decide_eq_false hs] at IN
      subst hu
      subst hv
      clear h h' hr hr2 hs e
      go_enter Try.func26, Try.ntmps26
      go_wp2_with (first
        | (go_at_call_of 25 (Value.slice au ms.length cu); refine V1.out.mono ?_; rintro e w1 ⟨rfl, b1⟩; clear V1)
        | (go_at_call_of 25 (Value.slice av ns.length cv); refine (V2.out _ b1).mono ?_; rintro e w2 ⟨rfl, b2⟩; clear V2; have B2 := chain b1 b2)
        | (go_at_call_of 31 (Value.slice au ms.length cu); refine (T1.out _ B2).mono ?_; rintro e w3 ⟨rfl, rfl⟩; clear T1)
        | (go_at_call_of 31 (Value.slice av ns.length cv); refine (T2.out _ B2).mono ?_; rintro e w4 ⟨rfl, rfl⟩; clear T2)
        | (go_at_call 37; refine (IN.out _).mono ?_; rintro e w5 ⟨rfl, rfl⟩))
      go_ret2
      exact ⟨by rw [O.out]; rfl, chain b1 b2⟩
  · have t1 := str_ne e
    have O := Lib.hid (offO_text (sl := sl) e)
    subst hu
    subst hv
    clear h h' hr hr2 e
    go_enter Try.func26, Try.ntmps26
    go_wp2_with (first
      | (go_at_call_of 25 (Value.slice au ms.length cu); refine V1.out.mono ?_; rintro e w1 ⟨rfl, b1⟩; clear V1)
      | (go_at_call_of 25 (Value.slice av ns.length cv); refine (V2.out _ b1).mono ?_; rintro e w2 ⟨rfl, b2⟩; clear V2; have B2 := chain b1 b2)
      | (go_at_call_of 31 (Value.slice au ms.length cu); refine (T1.out _ B2).mono ?_; rintro e w3 ⟨rfl, rfl⟩; clear T1)
      | (go_at_call_of 31 (Value.slice av ns.length cv); refine (T2.out _ B2).mono ?_; rintro e w4 ⟨rfl, rfl⟩; clear T2))
    go_ret2
    exact ⟨by rw [O.out]; rfl, chain b1 b2⟩

set_option maxHeartbeats 2000000 in
theorem implRegisterSlack {w : World} {u v : Value} {ms ns : List Mv} (h : Mvs w u ms) (h' : Mvs w v ns) :
    Calls Try.prog 9 #[u, v] w fun e w' => e = .returned (offV (slkO ms ns)) ∧ Below w.heap.size w w' := by
  have OF := Lib.hid (fun (X : World) (c : Below w.heap.size w X) (sl : Int) => show Calls Try.prog 27 #[u, v, .int .i64 sl] X fun e w' => e = .returned (.tuple #[.int .i64 ((offO ms ns sl).getD 0), .bool (offO ms ns sl).isSome]) ∧ Below X.heap.size X w' from implRegisterOffset (Rd.below h c) (Rd.below h' c) sl)
  obtain ⟨au, cu, rfl⟩ := Rd.slice h
  obtain ⟨av, cv, rfl⟩ := Rd.slice h'
  clear h h'
  go_enter Try.func9, Try.ntmps9
  go_wp2_with fail
  go_loopw [9] (fun i wr => ∃ k : Nat, k ≤ 6 ∧ i = .int .i64 k ∧ Hid (∀ j, j < k → offO ms ns ((j : Nat) : Int) = none) ∧ Hid (Below w.heap.size w wr)) (fun i _ => 6 - (intOf i).toNat)
  case atStart => exact ⟨0, by omega, rfl, Lib.hid (fun j hj => absurd hj (by omega)), Lib.hid (below_self _)⟩
  case round =>
    obtain ⟨k, hk, rfl, HN, HB⟩ := hrel
    by_cases hlt : k < 6
    · have hki : (k : Int) < 6 := by omega
      have A := Lib.hid (OF.out _ HB.out (k : Int))
      have SA := Lib.hid (fun (g : (offO ms ns ((k : Nat) : Int)).isSome = true) => slkO_at hlt HN.out g)
      have NA := Lib.hid (fun (g : (offO ms ns ((k : Nat) : Int)).isSome = false) => show ∀ j, j < k + 1 → offO ms ns ((j : Nat) : Int) = none from fun j hj => by
        by_cases q : j = k
        · rw [q]; cases e : offO ms ns ((k : Nat) : Int) with
          | none => rfl
          | some x => rw [e] at g; cases g
        · exact HN.out j (by omega))
      obtain ⟨x, hx⟩ : ∃ x, x = (offO ms ns (k : Int)).getD 0 := ⟨_, rfl⟩
      obtain ⟨t, ht⟩ : ∃ t, t = (offO ms ns (k : Int)).isSome := ⟨_, rfl⟩
      rw [← hx, ← ht] at A
      rw [← ht] at SA NA
      clear hx ht
      cases t
      · have N := Lib.hid (NA.out rfl)
        go_wp2_with (go_at_call 27; refine A.out.mono ?_; rintro e w6 ⟨rfl, b6⟩; have B6 := Lib.hid (HB.out.trans (b6.mono HB.out.size)); clear b6)
        go_roundw
        case rel => exact ⟨k + 1, by omega, by go_num, N, B6⟩
        case measure => simp [intOf]; omega
      · have R := Lib.hid (SA.out rfl)
        go_wp2_with (go_at_call 27; refine A.out.mono ?_; rintro e w6 ⟨rfl, b6⟩; have B6 := Lib.hid (HB.out.trans (b6.mono HB.out.size)); clear b6)
        go_ret2
        exact ⟨by rw [R.out]; rfl, B6.out⟩
    · obtain rfl : k = 6 := by omega
      have R := Lib.hid (slkO_none HN.out)
      go_wp2_with fail
      go_ret2
      exact ⟨by rw [R.out]; rfl, HB.out⟩

end Go.Proofs.Ytilkphehonilbaa
