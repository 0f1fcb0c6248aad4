/-
  Offsets and slacks of two registers, by the program. For lists of at most 1048576 notes.
-/
import Derived.Test.YtodknakemgmhkaaRegS
import Derived.Test.YtodknakemgmhkaaNoteO
namespace Go.Proofs.Ytodknakemgmhkaa
open Go.RowKit Go.Sort

/-- What offset hands back for two registers. -/
theorem offV_none : offV none = .tuple #[.int .i64 0, .bool false] := rfl
theorem offV_some (x : Int) : offV (some x) = .tuple #[.int .i64 x, .bool true] := rfl

set_option maxRecDepth 100000 in
set_option maxHeartbeats 4000000 in
theorem implOffset {w : World} {p q : Value} {ms ns : List Mv} (hp : Chain w p ms) (hq : Chain w q ns) (h1 : regB ms = true) (h2 : regB ns = true) (sl : Int) :
    Calls Try.prog 67 #[p, q, .int .i64 sl] w fun e w' => e = .returned (offV (offO ms ns sl)) ∧ Below w.heap.size w w' := by
  obtain ⟨ap, rfl⟩ := hp.ptr
  obtain ⟨aq, rfl⟩ := hq.ptr
  have HP := Lib.hid hp
  have HQ := Lib.hid hq
  have T1 := Lib.hid (fun (X : World) (c : Below w.heap.size w X) => implText (hp.below c) h1)
  have T2 := Lib.hid (fun (X : World) (c : Below w.heap.size w X) => implText (hq.below c) h2)
  by_cases s0 : sl < 0
  · have d0 : decide (sl < 0) = true := decide_eq_true s0
    have R := Lib.hid (offO_slack (ms := ms) (ns := ns) (.inl s0))
    clear hp hq h1 h2
    go_enter Try.func67, Try.ntmps67
    go_wp2_with fail
    go_ret2
    exact ⟨by rw [R.out]; rfl, below_self _⟩
  have d0 : decide (sl < 0) = false := decide_eq_false s0
  by_cases s5 : 5 < sl
  · have d5 : decide (5 < sl) = true := decide_eq_true s5
    have R := Lib.hid (offO_slack (ms := ms) (ns := ns) (.inr s5))
    clear hp hq h1 h2
    go_enter Try.func67, Try.ntmps67
    go_wp2_with fail
    go_ret2
    exact ⟨by rw [R.out]; rfl, below_self _⟩
  have d5 : decide (5 < sl) = false := decide_eq_false s5
  by_cases e : nTx ms = nTx ns
  · have hlen := text_length h1 h2 e
    have t1 := str_eq e
    have LR := Lib.hid (fun k (hk : k ≤ ms.length) => off_range ms ns sl (by omega) (by omega) k (fun i hi => reg_lat h1 h2 hlen (by omega)))
    have NR := Lib.hid (fun i (hi : i < ms.length) => And.intro (reg_note h1 hi) (reg_note h2 (i := i) (by omega)))
    have RY := Lib.hid (fun (g : offL ms ns sl ms.length ≤ offG ms ns sl ms.length) => offO_yes h1 h2 e (by omega) (by omega) g)
    have RN := Lib.hid (fun (g : offG ms ns sl ms.length < offL ms ns sl ms.length) => offO_no g)
    have LN := Lib.hid hlen
    have EE := Lib.hid e
    clear hp hq h1 h2 e hlen
    go_enter Try.func67, Try.ntmps67
    go_wp2_with (first | (go_at_call_of 63 (Value.pointer ap); refine (T1.out _ (Below.refl _ _)).mono ?_; rintro e w1 ⟨rfl, b1⟩; clear T1) | (go_at_call_of 63 (Value.pointer aq); refine (T2.out _ b1).mono ?_; rintro e w2 ⟨rfl, b2⟩; clear T2))
    have B2 := Lib.hid (chain b1 b2)
    clear b1 b2
    go_loopw [0, 1, 8, 9] (fun p q L G wr => ∃ j : Nat, j ≤ ms.length ∧ Hid (Chain w p (ms.drop j)) ∧ Hid (Chain w q (ns.drop j)) ∧ L = .int .i64 (offL ms ns sl j) ∧ G = .int .i64 (offG ms ns sl j) ∧ Hid (Below w.heap.size w wr)) (fun p _ _ _ _ => left w p)
    case atStart => exact ⟨0, by omega, HP, HQ, rfl, rfl, B2⟩
    case round =>
      obtain ⟨j, hj, HC, HD, rfl, rfl, HB⟩ := hrel
      have hc := HC.out
      have hd := HD.out
      have ML := Lib.hid (left_eq hc)
      by_cases hlt : j < ms.length
      · rw [drop_get hlt] at hc
        rw [drop_get (show j < ns.length by rw [LN.out]; exact hlt)] at hd
        obtain ⟨b, p', rfl, hb, k0, k1, k2, hn⟩ := hc.cells
        obtain ⟨b', q', rfl, hb', k0', k1', k2', hn'⟩ := hd.cells
        obtain ⟨ap', rfl⟩ := hn.ptr
        obtain ⟨aq', rfl⟩ := hn'.ptr
        have HN := Lib.hid hn
        have HN' := Lib.hid hn'
        have c0 := (HB.out.cell (p := ⟨b, 0, none⟩) hb).trans k0
        have c2 := (HB.out.cell (p := ⟨b, 2, none⟩) hb).trans k2
        have c0' := (HB.out.cell (p := ⟨b', 0, none⟩) hb').trans k0'
        have c2' := (HB.out.cell (p := ⟨b', 2, none⟩) hb').trans k2'
        obtain ⟨⟨n1, n2, _⟩, n3, n4, _⟩ := NR.out j hlt
        have l1 := LR.out j hj
        have EL := Lib.hid (show offL ms ns sl (j + 1) = max (offL ms ns sl j) (latN ms ns j - sl) from rfl)
        have EG := Lib.hid (show offG ms ns sl (j + 1) = min (offG ms ns sl j) (latN ms ns j + sl) from rfl)
        have ED : latN ms ns j = (ns.getD j noMv).1 - (ms.getD j noMv).1 := rfl
        obtain ⟨x, hx⟩ : ∃ x, x = (ms.getD j noMv).1 := ⟨_, rfl⟩
        obtain ⟨y, hy⟩ : ∃ y, y = (ns.getD j noMv).1 := ⟨_, rfl⟩
        rw [← hx] at c0 n1 n2 ED
        rw [← hy] at c0' n3 n4 ED
        obtain ⟨D, hD⟩ : ∃ D, D = latN ms ns j := ⟨_, rfl⟩
        rw [← hD] at EL EG ED
        obtain ⟨L, hL⟩ : ∃ L, L = offL ms ns sl j := ⟨_, rfl⟩
        obtain ⟨G, hG⟩ : ∃ G, G = offG ms ns sl j := ⟨_, rfl⟩
        rw [← hL] at EL l1 ⊢
        rw [← hG] at EG l1 ⊢
        have hw1 : IntKind.i64.wrap (y - x) = D := by rw [← ED]; exact IntWalk.i64_in _ (by omega)
        have hw2 : wrap64 (D - sl) = D - sl := (IntWalk.i64_left _).symm.trans (IntWalk.i64_in _ (by omega))
        have hw3 : wrap64 (D + sl) = D + sl := (IntWalk.i64_left _).symm.trans (IntWalk.i64_in _ (by omega))
        have hw4 : wrap64 (y - x) = D := (IntWalk.i64_left _).symm.trans hw1
        have g0 := fun d os => cell_regrown c0 d os
        have g0' := fun d os => cell_regrown c0' d os
        obtain ⟨V, hV⟩ : ∃ V, V = wr := ⟨_, rfl⟩
        have B0 := Lib.hid hb
        have B0' := Lib.hid hb'
        have C2 := Lib.hid c2
        have C2' := Lib.hid c2'
        clear hx hy hD hL hG ED k0 k1 k2 k0' k1' k2' hc hd hn hn' hV
        go_wp2_with fail
        refine wp_region_quiet_below (by kernel_rfl) (by kernel_rfl) ?_
        repeat (go_big_quiet_step (fail))
        refine wpQuiet_nil ?_
        intro _ hw'
        obtain ⟨⟨dq, osq⟩, hw''⟩ := hw'
        subst hw''
        have br := below_regrown wr dq osq
        obtain ⟨wz, hwz⟩ : ∃ X, X = grow (redrawn wr dq) osq := ⟨_, rfl⟩
        rw [← hwz] at br ⊢
        have B3 := Lib.hid (HB.out.trans (br.mono HB.out.size))
        have m0 := fun d os => cell_regrown ((HB.out.trans (br.mono HB.out.size)).cell (p := ⟨b, 2, none⟩) B0.out |>.trans ((HB.out.cell (p := ⟨b, 2, none⟩) B0.out).symm.trans C2.out)) d os
        have m1 := fun d os => cell_regrown ((HB.out.trans (br.mono HB.out.size)).cell (p := ⟨b', 2, none⟩) B0'.out |>.trans ((HB.out.cell (p := ⟨b', 2, none⟩) B0'.out).symm.trans C2'.out)) d os
        clear br hwz g0 g0' c0 c0' c2 c2'
        go_wp2_with fail
        refine wp_region_quiet_below (by kernel_rfl) (by kernel_rfl) ?_
        repeat (go_big_quiet_step (fail))
        refine wpQuiet_nil ?_
        intro _ hw'
        obtain ⟨⟨dq', osq'⟩, hw''⟩ := hw'
        subst hw''
        have br := below_regrown wz dq' osq'
        obtain ⟨wy, hwy⟩ : ∃ X, X = grow (redrawn wz dq') osq' := ⟨_, rfl⟩
        rw [← hwy] at br ⊢
        have B4 := Lib.hid (B3.out.trans (br.mono B3.out.size))
        clear br hwy m0 m1
        go_wp2_with fail
        go_roundw
        case rel => exact ⟨j + 1, by omega, HN, HN', by rw [EL.out], by rw [EG.out], B4⟩
        case measure => rw [ML.out, left_eq HN.out, List.length_drop, List.length_drop]; omega
      · obtain rfl : j = ms.length := by omega
        rw [List.drop_length] at hc
        rw [← LN.out, List.drop_length] at hd
        have hp' : _ = Value.pointer none := hc
        have hq' : _ = Value.pointer none := hd
        subst hp'
        subst hq'
        obtain ⟨L, hL⟩ : ∃ L, L = offL ms ns sl ms.length := ⟨_, rfl⟩
        obtain ⟨G, hG⟩ : ∃ G, G = offG ms ns sl ms.length := ⟨_, rfl⟩
        rw [← hL, ← hG] at RY RN ⊢
        clear HC HD ML hL hG
        by_cases g : G < L
        · have hd : decide (G < L) = true := decide_eq_true g
          have R := Lib.hid (RN.out g)
          clear RY RN
          go_wp2_with fail
          go_ret2
          exact ⟨by rw [R.out]; rfl, HB.out⟩
        · have hd : decide (G < L) = false := decide_eq_false g
          have R := Lib.hid (RY.out (by omega))
          clear RY RN
          go_wp2_with fail
          go_ret2
          exact ⟨by rw [R.out]; rfl, HB.out⟩
  · have t1 := str_ne e
    have R := Lib.hid (offO_text (sl := sl) e)
    clear hp hq h1 h2 e
    go_enter Try.func67, Try.ntmps67
    go_wp2_with (first | (go_at_call_of 63 (Value.pointer ap); refine (T1.out _ (Below.refl _ _)).mono ?_; rintro e w1 ⟨rfl, b1⟩; clear T1) | (go_at_call_of 63 (Value.pointer aq); refine (T2.out _ b1).mono ?_; rintro e w2 ⟨rfl, b2⟩; clear T2))
    go_ret2
    exact ⟨by rw [R.out]; rfl, chain b1 b2⟩

end Go.Proofs.Ytodknakemgmhkaa
