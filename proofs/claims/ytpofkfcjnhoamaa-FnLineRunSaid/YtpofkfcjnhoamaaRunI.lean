/-
  The line behind moves, by the program. For at most 1048576 blocks, trains and moves, each letter of at most 2097152 bytes.
-/
import Derived.Test.YtpofkfcjnhoamaaDoJ
import Derived.Test.YtpofkfcjnhoamaaRunP
namespace Go.Proofs.Ytpofkfcjnhoamaa
open Go.RowKit Go.Sort

theorem two_pairs (w : World) (x y x' y' : Value) (t t' : TypeId) (W : World) (hW : W = (w.alloc (.cells #[x, y] t)).alloc (.cells #[x', y'] t')) :
    Pair W w.heap.size x y t ∧ Pair W (w.heap.size + 1) x' y' t' ∧ Below w.heap.size w W ∧ W.heap.size = w.heap.size + 2 := by
  have s1 : (w.alloc (.cells #[x, y] t)).heap.size = w.heap.size + 1 := Go.Deep.nblk_alloc _ _
  have s3 : W.heap.size = w.heap.size + 2 := by rw [hW, Go.Deep.nblk_alloc, s1]
  have p0 := Pair.new w x y t
  have p1 := Pair.new (w.alloc (.cells #[x, y] t)) x' y' t'
  rw [s1] at p1
  subst hW
  exact ⟨p0.alloc _, p1, (below_alloc w _).alloc (by omega) _, s3⟩

set_option maxHeartbeats 1000000 in
theorem lineT (a1 : Option Addr) (n1 c1 : Nat) (a2 : Option Addr) (n2 c2 : Nat) (w : World) : Calls Try.prog 55 #[.agg #[.slice a1 n1 c1, .slice a2 n2 c2]] w fun e w' => e = .returned (.agg #[.slice a1 n1 c1, .slice a2 n2 c2]) ∧ Below w.heap.size w w' := by
  go_enter Try.func55, Try.ntmps55
  go_wp2_with fail
  exact bodyPost_ret (v := .agg #[.slice a1 n1 c1, .slice a2 n2 c2]) (by simp [results, Try.results55, go_sem]) rfl ⟨rfl, ((below_self w).alloc (Nat.le_refl _) _).alloc (by simp) _⟩

set_option maxHeartbeats 4000000 in
theorem implLineRun {w : World} {v u : Value} {l : Ln} {ms : List Mv} (h : LineV w v l) (hm : Mvs w u ms) (hs : ∀ i, i < ms.length → (ms.getD i noMv).2.size ≤ 2097152) :
    Calls Try.prog 23 #[v, u] w (MadeLineB w ((lnRun l ms).getD noLn) (lnRun l ms).isSome) := by
  obtain ⟨u1, u2, rfl, h1, h2⟩ := h
  obtain ⟨a1, c1, rfl⟩ := Rd.slice h1
  obtain ⟨am, cm, rfl⟩ := Rd.slice hm
  have km := Rd.len hm
  have km' : (ms.length : Int) ≤ 1048576 := by omega
  obtain ⟨W, hW⟩ : ∃ X, X = (w.alloc (.cells #[.slice a1 l.1.length c1, u2] 26)).alloc (.cells #[.slice none 0 0, .slice none 0 0] 26) := ⟨_, rfl⟩
  obtain ⟨p0, p1, q0, s0⟩ := two_pairs w _ _ _ _ _ _ W hW
  have HW := Lib.hid hW.symm
  have Q0 := Lib.hid q0
  have P1 := Lib.hid p1
  have S0 := Lib.hid s0
  have e0 := p0.cell0
  have e1 := p0.cell1
  have AT := Lib.hid (fun (i : Nat) (hi : i < ms.length) => Mvs.at hm hi)
  have SS := Lib.hid hs
  have TO := Lib.hid (trafficOf (w := W) (v := .agg #[.slice a1 l.1.length c1, u2]) (l := l) ⟨_, _, rfl, Rd.below h1 q0, h2.below q0⟩)
  have ZERO := Lib.hid (fun (X : World) (c : Below W.heap.size W X) => show Pair X (w.heap.size + 1) (.slice none 0 0) (.slice none 0 0) 26 ∧ Pair ((X.setCell ⟨w.heap.size + 1, 0, none⟩ (.slice none 0 0)).setCell ⟨w.heap.size + 1, 1, none⟩ (.slice none 0 0)) (w.heap.size + 1) (.slice none 0 0) (.slice none 0 0) 26 ∧ Below w.heap.size w ((X.setCell ⟨w.heap.size + 1, 0, none⟩ (.slice none 0 0)).setCell ⟨w.heap.size + 1, 1, none⟩ (.slice none 0 0)) from
    ⟨p1.below c, stored_pair (p1.below c), ((q0.trans (c.mono q0.size)).setCell (p := ⟨w.heap.size + 1, 0, none⟩) (by simp only; omega) _).setCell (p := ⟨w.heap.size + 1, 1, none⟩) (by simp only; omega) _⟩)
  clear hW p0 q0 h1 h2 hm hs p1 s0
  cases hb : lnB l
  · have E := Lib.hid (lnRun_not (ms := ms) hb)
    rw [hb] at TO
    simp only [Bool.false_eq_true, ↓reduceIte] at TO
    rw [E.out]
    clear hb
    go_enter Try.func23, Try.ntmps23
    go_upto_region 1 with fail
    rw [HW.out]
    go_wp2_with (go_at_call 40; refine TO.out.mono ?_)
    rintro e w1 ⟨v1, rfl, o1, b1⟩
    obtain ⟨x1, x2, rfl, oB, oI, ap⟩ := o1
    obtain ⟨ya, yc, rfl⟩ := Ow.slice oB
    obtain ⟨za, zn, zc, rfl⟩ := own_is_slice oI
    have n0 : noLn.1.length = 0 := rfl
    rw [n0]
    have b2 := chain b1 (below_alloc w1 (.cells #[.slice ya 0 yc, .slice za zn zc] 67))
    obtain ⟨z1, z2, z3⟩ := ZERO.out _ b2
    have c0 := z1.cell0
    have c1' := z1.cell1
    have f0 := z1.frozen 0
    have f1 := z1.frozen 1
    have d0 := z2.cell0
    have d1 := z2.cell1
    have Z3 := Lib.hid z3
    clear z1 z2 z3 oB oI ap b1 b2 n0
    go_wp2_with fail
    exact bodyPost_ret (v := .tuple #[.agg #[.slice none 0 0, .slice none 0 0], .bool false]) (by simp [results, Try.results23, go_sem, d0, d1]) rfl ⟨_, rfl, ⟨_, _, rfl, ow_nil _ _ _ _ _, World.ownsRow_nil _ _ _ _, .inl rfl, .inl rfl⟩, Z3.out⟩
  · rw [hb] at TO
    simp only [↓reduceIte] at TO
    have k5 := ln_small hb
    have RI := Lib.hid (lnRun_is (ms := ms) hb)
    have RN := Lib.hid (fun (k : Nat) (hk : k ≤ ms.length) (h : lnTo l ms k = none) => lnRun_none hk h)
    obtain ⟨r, hr⟩ : ∃ r, r = lnRun l ms := ⟨_, rfl⟩
    rw [← hr] at RI RN ⊢
    clear hb hr
    go_enter Try.func23, Try.ntmps23
    go_upto_region 1 with fail
    rw [HW.out]
    go_wp2_with (go_at_call 40; refine TO.out.mono ?_)
    rintro e w1 ⟨v1, rfl, o1, b1⟩
    obtain ⟨x1, x2, rfl, oB, oI, ap1, ap2⟩ := o1
    have hz1 := Ow.under oB
    have hz2 := oI.under
    obtain ⟨ya, yc, rfl⟩ := Ow.slice oB
    obtain ⟨za, zn, zc, rfl⟩ := own_is_slice oI
    have q1 := below_alloc w1 (.cells #[.slice ya l.1.length yc, .slice za zn zc] 67)
    have HE := Lib.hid (show Held (w1.alloc (.cells #[.slice ya l.1.length yc, .slice za zn zc] 67)) w1.heap.size W.heap.size (.slice ya l.1.length yc) (.slice za zn zc) l from
      ⟨Pair.new _ _ _ _, Ow.below oB q1, oI.below q1, fun e => by have := (hz1 _ e).2; omega, fun e => by have := (hz2 _ e).2; omega, by
        rcases ap1 with q | q
        · rcases ap2 with q' | q'
          · exact .inr ⟨q, q'⟩
          · exact .inl (fun e => q' e.symm)
        · exact .inl q⟩)
    have B1 := Lib.hid (chain b1 q1)
    have ZS := Lib.hid b1.size
    obtain ⟨V, hV⟩ : ∃ X, X = w1.alloc (.cells #[.slice ya l.1.length yc, .slice za zn zc] 67) := ⟨_, rfl⟩
    rw [← hV] at HE B1
    have HV := Lib.hid hV.symm
    clear hV q1 oB oI ap1 ap2 b1 hz1 hz2
    go_upto_region 2 with fail
    rw [HV.out]
    go_wp2_with fail
    go_loopw [20] (fun i wr => ∃ (k : Nat) (x : Ln), k ≤ ms.length ∧ i = .int .i64 k ∧ Hid (lnTo l ms k = some x) ∧ Hid (Held wr w1.heap.size W.heap.size (.slice ya l.1.length yc) (.slice za zn zc) x) ∧ Below W.heap.size W wr) (fun i _ => ms.length - (intOf i).toNat)
    case atStart => exact ⟨0, l, by omega, rfl, Lib.hid rfl, HE, B1.out⟩
    case round =>
      obtain ⟨k, x, hk, rfl, HT, HX, hbel⟩ := hrel
      by_cases hlt : k < ms.length
      · have hki : (k : Int) < (ms.length : Int) := by omega
        obtain ⟨b, o, rfl, hb, hcell⟩ := AT.out k hlt
        obtain ⟨g0, g1⟩ := hcell k hlt
        have hbW := Nat.lt_of_lt_of_le hb Q0.out.size
        have d0 := (hbel.cell (p := ⟨b, o + k * 2, none⟩) hbW).trans ((Q0.out.cell (p := ⟨b, o + k * 2, none⟩) hb).trans g0)
        have d1 : wr.cell? ⟨b, o + k * 2 + 1, none⟩ = _ := (hbel.cell (p := ⟨b, o + k * 2 + 1, none⟩) hbW).trans ((Q0.out.cell (p := ⟨b, o + k * 2 + 1, none⟩) hb).trans g1)
        have hsz := SS.out k hlt
        have ST := Lib.hid (lnTo_succ HT.out)
        have LN := Lib.hid (lnTo_len HT.out)
        obtain ⟨m, hm⟩ : ∃ m, m = ms.getD k noMv := ⟨_, rfl⟩
        rw [← hm] at d0 d1 hsz ST
        have q2 := below_alloc wr (.cells #[.int .i64 m.1, .string m.2] 40)
        have pm := Pair.new wr (.int .i64 m.1) (.string m.2) 40
        have HX2 := Lib.hid (HX.out.below q2)
        have c2 := hbel.trans (q2.mono hbel.size)
        obtain ⟨X2, hX2⟩ : ∃ X, X = wr.alloc (.cells #[.int .i64 m.1, .string m.2] 40) := ⟨_, rfl⟩
        rw [← hX2] at q2 pm HX2 c2
        have C2 := Lib.hid c2
        have HV2 := Lib.hid hX2.symm
        have m0 := pm.cell0
        have m1 := pm.cell1
        have DM := Lib.hid (doMove (s := m.1) (S := m.2) HX2.out (by have := LN.out; omega) hsz c2.size)
        rw [show ((m.1, m.2) : Mv) = m from rfl] at DM
        obtain ⟨y, hy⟩ : ∃ y, y = lnDo x m := ⟨_, rfl⟩
        rw [← hy] at DM ST
        clear hm hX2 g0 g1 hcell hsz q2 pm c2 hy
        go_upto_region 7 with fail
        rw [HV2.out]
        cases y with
        | none =>
          have E := Lib.hid (RN.out (k + 1) hlt ST.out)
          go_wp2_with (go_at_call 54; refine DM.out.mono ?_; rintro e w5 ⟨rfl, _, b5⟩; have c5 := C2.out.trans b5; obtain ⟨z1, z2, z3⟩ := ZERO.out _ c5; have c0 := z1.cell0; have c1' := z1.cell1; have f0 := z1.frozen 0; have f1 := z1.frozen 1; have d0 := z2.cell0; have d1 := z2.cell1; have Z3 := Lib.hid z3; clear z1 z2 z3)
          rw [E.out]
          exact bodyPost_ret (v := .tuple #[.agg #[.slice none 0 0, .slice none 0 0], .bool false]) (by simp [results, Try.results23, go_sem, d0, d1]) rfl ⟨_, rfl, ⟨_, _, rfl, ow_nil _ _ _ _ _, World.ownsRow_nil _ _ _ _, .inl rfl, .inl rfl⟩, Z3.out⟩
        | some y =>
          go_wp2_with (go_at_call 54; refine DM.out.mono ?_; rintro e w5 ⟨rfl, h5, b5⟩)
          go_roundw
          case rel => exact ⟨k + 1, y, by omega, by go_num, ST, Lib.hid h5, C2.out.trans b5⟩
          case measure => simp [intOf]; omega
      · obtain rfl : k = ms.length := by omega
        have E := Lib.hid (show r = some x by rw [RI.out]; exact HT.out)
        have e2 := HX.out.box.cell0
        have e3 := HX.out.box.cell1
        go_wp2_with (go_at_call 55; refine (lineT _ _ _ _ _ _ _).mono ?_; rintro e w5 ⟨rfl, b5⟩; have c5 := hbel.trans (b5.mono hbel.size); have z1 := P1.out.below c5; have c0 := z1.cell0; have c1' := z1.cell1; have f0 := z1.frozen 0; have f1 := z1.frozen 1)
        have z2 := stored_pair (x' := .slice ya l.1.length yc) (y' := .slice za zn zc) z1
        have d0 := z2.cell0
        have d1 := z2.cell1
        have hlo : w.heap.size + 1 < W.heap.size := by have := S0.out; omega
        have Z3 := Lib.hid (((Q0.out.trans (c5.mono Q0.out.size)).setCell (p := ⟨w.heap.size + 1, 0, none⟩) (by simp only; omega) (.slice ya l.1.length yc)).setCell (p := ⟨w.heap.size + 1, 1, none⟩) (by simp only; omega) (.slice za zn zc))
        have oB := Ow.below HX.out.blocks b5
        have oI := HX.out.trains.below b5
        have OO := Lib.hid (show OwnLine ((w5.setCell ⟨w.heap.size + 1, 0, none⟩ (.slice ya l.1.length yc)).setCell ⟨w.heap.size + 1, 1, none⟩ (.slice za zn zc)) w.heap.size (.agg #[.slice ya l.1.length yc, .slice za zn zc]) x from
          ⟨_, _, rfl, Ow.mono (Ow.setBelow (Ow.setBelow oB (a := ⟨w.heap.size + 1, 0, none⟩) hlo _) (a := ⟨w.heap.size + 1, 1, none⟩) hlo _) (by omega), ((oI.setBelow (a := ⟨w.heap.size + 1, 0, none⟩) hlo _).setBelow (a := ⟨w.heap.size + 1, 1, none⟩) hlo _).mono (by omega),
            by rcases HX.out.apart with q | q
               · exact .inr q
               · exact .inl q.1, by rcases HX.out.apart with q | q
                                    · exact .inr (fun e => q e.symm)
                                    · exact .inl q.2⟩)
        rw [E.out]
        exact bodyPost_ret (v := .tuple #[.agg #[.slice ya l.1.length yc, .slice za zn zc], .bool true]) (by simp [results, Try.results23, go_sem, d0, d1]) rfl ⟨_, rfl, OO.out, Z3.out⟩

end Go.Proofs.Ytpofkfcjnhoamaa
