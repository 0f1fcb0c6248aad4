/-
  The moves that can be done, by the model. For lines of at most 1048576 elements.
-/
import Derived.Test.YtpofkfcjnhoamaaStepL
import Derived.Test.YtpofkfcjnhoamaaMvsL
import Derived.Laws.AppendOwn
namespace Go.Proofs.Ytpofkfcjnhoamaa
open Go.RowKit Go.Sort

def letS (i : Nat) : ByteArray := (⟨#[97, 99, 101, 102, 108, 111, 114]⟩ : ByteArray).extract i (i + 1)
def mvAt (k i : Nat) : Mv := ((k : Int), letS i)
def inTo (l : Ln) (k : Nat) : Nat → List Mv
  | 0 => []
  | i + 1 => if (lnDo l (mvAt k i)).isSome then inTo l k i ++ [mvAt k i] else inTo l k i
def mvsTo (l : Ln) : Nat → List Mv
  | 0 => []
  | k + 1 => mvsTo l k ++ inTo l k 7
noncomputable def lnMoves (l : Ln) : List Mv := if lnB l then mvsTo l l.1.length else []
theorem inTo_len (l : Ln) (k i : Nat) : (inTo l k i).length ≤ i := by
  induction i with
  | zero => simp [inTo]
  | succ i ih =>
    simp only [inTo]
    split
    · rw [List.length_append, List.length_singleton]; omega
    · omega
theorem mvsTo_len (l : Ln) (k : Nat) : (mvsTo l k).length ≤ k * 7 := by
  induction k with
  | zero => simp [mvsTo]
  | succ k ih => simp only [mvsTo, List.length_append]; have := inTo_len l k 7; omega
theorem inTo_yes {l : Ln} {k i : Nat} (h : (lnDo l (mvAt k i)).isSome = true) : inTo l k (i + 1) = inTo l k i ++ [mvAt k i] := by simp [inTo, h]
theorem inTo_no {l : Ln} {k i : Nat} (h : (lnDo l (mvAt k i)).isSome = false) : inTo l k (i + 1) = inTo l k i := by simp [inTo, h]
theorem mvs_cells (ms : List Mv) (m : Mv) : (List.range ((ms ++ [m]).length * 2)).map (mvF (ms ++ [m])) = (List.range (ms.length * 2)).map (mvF ms) ++ [.int .i64 m.1, .string m.2] := by
  have e : (ms ++ [m]).length * 2 = ms.length * 2 + 1 + 1 := by simp; omega
  rw [e, List.range_succ, List.range_succ, List.map_append, List.map_append, List.append_assoc]
  have g : (ms ++ [m]).getD ms.length noMv = m := by simp
  congr 1
  · refine List.map_congr_left fun q hq => ?_
    have hq' : q < ms.length * 2 := List.mem_range.1 hq
    have h2 : q / 2 < ms.length := by omega
    have h3 : (ms ++ [m]).getD (q / 2) noMv = ms.getD (q / 2) noMv := by
      simp [List.getD_eq_getElem?_getD, List.getElem?_append_left h2]
    unfold mvF
    rw [h3]
  · simp only [List.map_cons, List.map_nil, List.singleton_append]
    rw [mvF0, mvF1, g]

theorem lit_two (U : World) (x y : Value) (t : TypeId) : ∀ (j : Nat) (u : Value), [x, y][j]? = some u → (U.alloc (.cells #[x, y] t)).cell? ((⟨U.heap.size, 0, none⟩ : Addr).add j) = some u := by
  intro j u hu
  have p := Pair.new U x y t
  match j, hu with
  | 0, hu => simp at hu; subst hu; rw [Addr.add_lit]; exact p.cell0
  | 1, hu => simp at hu; subst hu; rw [Addr.add_lit]; exact p.cell1
  | j + 2, hu => simp at hu
set_option maxHeartbeats 4000000 in
theorem specLineMoves {w : World} {v : Value} {l : Ln} (h : LineV w v l) :
    Calls Try.prog 29 #[v] w fun e w' => ∃ v', e = .returned v' ∧ OwnM w' w.heap.size v' (lnMoves l) ∧ Below w.heap.size w w' := by
  have hv := h
  obtain ⟨u1, u2, rfl, h1, h2⟩ := h
  have k1 : (l.1.length : Int) ≤ 1048576 := by have := Rd.len h1; omega
  obtain ⟨a1, c1, rfl⟩ := Rd.slice h1
  obtain ⟨a2, c2, rfl, -, -⟩ := h2
  obtain ⟨W, hW⟩ : ∃ X, X = w.alloc (.cells #[.slice a1 l.1.length c1, .slice a2 l.2.length c2] 26) := ⟨_, rfl⟩
  have p0 := Pair.new w (.slice a1 l.1.length c1) (.slice a2 l.2.length c2) 26
  have q0 := below_alloc w (.cells #[.slice a1 l.1.length c1, .slice a2 l.2.length c2] 26)
  rw [← hW] at p0 q0
  have HW := Lib.hid hW.symm
  have P0 := Lib.hid p0
  have Q0 := Lib.hid q0
  have LV := Lib.hid (fun (X : World) (c : Below W.heap.size W X) => (hv.below q0).below c)
  have VA := Lib.hid (fun (X : World) (c : Below W.heap.size W X) => specLineValid (LV.out X c))
  clear hW p0 q0 hv h1
  obtain ⟨W1, hW1⟩ : ∃ X, X = W.alloc (.cells #[] 40) := ⟨_, rfl⟩
  have ow : OwnM W1 W.heap.size (.slice (some ⟨W.heap.size, 0, none⟩) 0 0) [] := by
    rw [hW1]
    exact ⟨by simp, .inr ⟨W.heap.size, 0, #[], rfl, Nat.le_refl _, Go.Deep.blk_alloc_new _ _, Nat.le_refl _, by simp [maxLen], rfl, by simp⟩⟩
  have B1 := Lib.hid (show Below W.heap.size W W1 by rw [hW1]; exact below_alloc _ _)
  have O1 := Lib.hid ow
  have HW1 := Lib.hid hW1.symm
  clear hW1 ow
  go_enter Try.func29, Try.ntmps29
  go_upto_region 1 with fail
  rw [HW.out]
  go_upto_region 2 with fail
  rw [HW1.out]
  go_wp2_with fail
  cases hb : lnB l
  · have E := Lib.hid (show lnMoves l = [] by unfold lnMoves; rw [hb]; rfl)
    rw [hb] at VA
    clear hb
    have e0 := (P0.out.below B1.out).cell0
    have e1 := (P0.out.below B1.out).cell1
    refine wp_loop_rounds 1 ?_
    rw [rounds_succ]
    rcases Nat.eq_zero_or_pos l.1.length with h0 | h0
    · have hg : ¬ (0 : Int) < (l.1.length : Int) := by omega
      clear h0
      go_wp2_with fail
      go_ret
      exact ⟨_, rfl, by rw [E.out]; exact Ow.mono O1.out Q0.out.size, Q0.out.trans (B1.out.mono Q0.out.size)⟩
    · have hg : (0 : Int) < (l.1.length : Int) := by omega
      clear h0
      go_wp2_with (go_at_call 11; refine (VA.out _ B1.out).mono ?_; rintro e w2 ⟨rfl, b2⟩)
      go_ret
      exact ⟨_, rfl, by rw [E.out]; exact Ow.mono (Ow.below O1.out b2) Q0.out.size, Q0.out.trans ((B1.out.trans (b2.mono B1.out.size)).mono Q0.out.size)⟩
  · have hl := lnOk_len hb
    have E := Lib.hid (show lnMoves l = mvsTo l l.1.length by unfold lnMoves; rw [hb]; rfl)
    rw [hb] at VA
    clear hb
    go_loopw [3, 5] (fun o i wr => ∃ (k : Nat), k ≤ l.1.length ∧ i = .int .i64 k ∧ Hid (OwnM wr W.heap.size o (mvsTo l k)) ∧ Hid (Below W.heap.size W wr)) (fun _ i _ => l.1.length - (intOf i).toNat)
    case atStart => exact ⟨0, by omega, rfl, O1, B1⟩
    case round =>
      obtain ⟨k, hk, rfl, OO, BO⟩ := hrel
      obtain ⟨wo, hwo⟩ : ∃ X, X = wr := ⟨_, rfl⟩
      rw [← hwo] at OO BO ⊢
      clear hwo
      obtain ⟨av, cv, rfl⟩ := Ow.slice OO.out
      have e0 := (P0.out.below BO.out).cell0
      have e1 := (P0.out.below BO.out).cell1
      by_cases hlt : k < l.1.length
      · have hki : (k : Int) < (l.1.length : Int) := by omega
        go_wp2_with (go_at_call 11; refine (VA.out _ BO.out).mono ?_; rintro e w2 ⟨rfl, b2⟩)
        have B2 := Lib.hid (BO.out.trans (b2.mono BO.out.size))
        have O2 := Lib.hid (show OwnM w2 W.heap.size (.slice av (mvsTo l k).length cv) (mvsTo l k ++ inTo l k 0) by
          have := Ow.below OO.out b2
          simpa [inTo, OwnM] using this)
        clear b2 e0 e1 OO BO
        go_loopw [3, 6] (fun o i wr => ∃ (j : Nat), j ≤ 7 ∧ i = .int .i64 j ∧ Hid (OwnM wr W.heap.size o (mvsTo l k ++ inTo l k j)) ∧ Hid (Below W.heap.size W wr)) (fun _ i _ => 7 - (intOf i).toNat)
        case atStart => exact ⟨0, by omega, rfl, O2, B2⟩
        case round =>
          obtain ⟨j, hj, rfl, OJ, BJ⟩ := hrel
          obtain ⟨wi, hwi⟩ : ∃ X, X = wr := ⟨_, rfl⟩
          rw [← hwi] at OJ BJ ⊢
          clear hwi
          obtain ⟨ai, ci, rfl⟩ := Ow.slice OJ.out
          obtain ⟨nn, hnn⟩ : ∃ nn, nn = (mvsTo l k ++ inTo l k j).length := ⟨_, rfl⟩
          rw [← hnn] at OJ ⊢
          have NN := Lib.hid hnn
          clear hnn
          by_cases hj7 : j < 7
          · have hj' : (j : Int) < 7 := by omega
            have e0 := (P0.out.below BJ.out).cell0
            have e1 := (P0.out.below BJ.out).cell1
            obtain ⟨S, hS⟩ : ∃ S, S = letS j := ⟨_, rfl⟩
            have hS' : (⟨#[97, 99, 101, 102, 108, 111, 114]⟩ : ByteArray).extract j (j + 1) = S := hS.symm
            have ST := Lib.hid (fun (X : World) (c : Below W.heap.size W X) => l4Step (s := (k : Int)) (S := S) (LV.out X c) hl)
            obtain ⟨r, hr⟩ : ∃ r, r = (lnDo l ((k : Int), S)).getD noLn := ⟨_, rfl⟩
            obtain ⟨t, ht⟩ : ∃ t, t = (lnDo l ((k : Int), S)).isSome := ⟨_, rfl⟩
            have ST2 := Lib.hid (fun (X : World) (c : Below W.heap.size W X) => show Calls Try.prog 50 #[.agg #[.slice a1 l.1.length c1, .slice a2 l.2.length c2], .agg #[.int .i64 (k : Int), .string S]] X (MadeLineB X r t) from by rw [hr, ht]; exact ST.out X c)
            have T := Lib.hid (show (lnDo l (mvAt k j)).isSome = t by rw [ht, hS]; rfl)
            have M := Lib.hid (show mvAt k j = ((k : Int), S) by rw [hS]; rfl)
            obtain ⟨V, hV⟩ : ∃ X, X = wi.alloc (.cells #[.int .i64 (k : Int), .string S] 40) := ⟨_, rfl⟩
            have pv := Pair.new wi (.int .i64 (k : Int)) (.string S) 40
            have bv := below_alloc wi (.cells #[.int .i64 (k : Int), .string S] 40)
            rw [← hV] at pv bv
            have HV := Lib.hid hV.symm
            have PV := Lib.hid pv
            have BV := Lib.hid (BJ.out.trans (bv.mono BJ.out.size))
            have OV := Lib.hid (show OwnM V W.heap.size _ _ from Ow.below OJ.out bv)
            have ln := mvsTo_len l k
            have ln2 := inTo_len l k j
            have LN := Lib.hid (show (mvsTo l k ++ inTo l k j).length ≤ 100 by rw [List.length_append]; omega)
            clear hr ht hV pv bv ST OJ BJ hS ln ln2
            go_upto_region 10 with fail
            rw [HV.out]
            clear e0 e1 hS'
            have e0 := (P0.out.below BV.out).cell0
            have e1 := (P0.out.below BV.out).cell1
            have m0 := PV.out.cell0
            have m1 := PV.out.cell1
            go_wp2_with (go_at_call 50; refine (ST2.out _ BV.out).mono ?_)
            rintro e w2 ⟨v2, rfl, o2, b2⟩
            obtain ⟨a5, n5, d5, a6, n6, d6, rfl⟩ := own_form o2
            obtain ⟨U, hU⟩ : ∃ X, X = w2.alloc (.cells #[.slice a5 n5 d5, .slice a6 n6 d6] 26) := ⟨_, rfl⟩
            have bu := below_alloc w2 (.cells #[.slice a5 n5 d5, .slice a6 n6 d6] 26)
            rw [← hU] at bu
            have HU := Lib.hid hU.symm
            have BU := Lib.hid (BV.out.trans ((b2.trans (bu.mono b2.size)).mono BV.out.size))
            have PU := Lib.hid ((PV.out.below b2).below bu)
            have OU := Lib.hid (show OwnM U W.heap.size _ _ from Ow.below (Ow.below OV.out b2) bu)
            clear hU bu b2 o2 e0 e1 m0 m1
            go_upto_region 11 with fail
            rw [HU.out]
            cases t
            · have I := Lib.hid (inTo_no T.out)
              go_wp2_with fail
              go_roundw
              case rel => exact ⟨j + 1, by omega, by go_num, by rw [I.out]; exact OU, BU⟩
              case measure => simp [intOf]; omega
            · have I := Lib.hid (inTo_yes T.out)
              have m0 := PU.out.cell0
              have m1 := PU.out.cell1
              obtain ⟨XS, hXS⟩ : ∃ XS, XS = (List.range ((mvsTo l k ++ inTo l k j).length * 2)).map (mvF (mvsTo l k ++ inTo l k j)) := ⟨_, rfl⟩
              have ownA : (U.alloc (.cells #[.int .i64 (k : Int), .string S] 40)).ownsRow W.heap.size 40 2 (.slice ai nn ci) nn XS := by
                have := Ow.below OU.out (below_alloc U (.cells #[.int .i64 (k : Int), .string S] 40))
                unfold Ow at this
                rw [← hXS, ← NN.out] at this
                exact this
              have hn100 : nn ≤ 100 := by rw [NN.out]; exact LN.out
              have LT := Lib.hid (fun g hg => (Ow.under OU.out g hg).1)
              have XSH := Lib.hid hXS
              clear hXS
              obtain ⟨i0, hi, hz0, hz1, hz2⟩ := info_parts info_move
              go_wp2_with (at_builtin; refine wpList_append_own _ rfl _ _ 47 rfl W.heap.size 40 i0 (.agg #[.int .i64 0, .string ⟨#[]⟩]) 2 24 Try.underlying47 hi hz0 hz1 hz2 rfl (by decide) _ _ _ rfl ownA ⟨U.heap.size, 0, none⟩ 1 1 [.int .i64 (k : Int), .string S] rfl rfl ?c1 ?c2 ?c3 ?c4 ?c5 ?_)
              case c1 => exact lit_two _ _ _ _
              case c2 => intro u hu; simp at hu; rcases hu with rfl | rfl <;> rfl
              case c3 => simp only [maxLen]; omega
              case c4 => omega
              case c5 => have := BU.out.size; simp; omega
              intro v' w5 hown' hgrow _
              have HB := Lib.hid (((BU.out.trans ((below_alloc U (.cells #[.int .i64 (k : Int), .string S] 40)).mono BU.out.size))).grown hgrow (Nat.le_trans BU.out.size (by simp)) LT.out)
              have HO := Lib.hid (show OwnM w5 W.heap.size v' (mvsTo l k ++ inTo l k (j + 1)) by
                rw [I.out, M.out, ← List.append_assoc]
                unfold OwnM Ow
                rw [mvs_cells, ← XSH.out, List.length_append, ← NN.out]
                exact hown')
              obtain ⟨av', cv', rfl⟩ := Ow.slice HO.out
              clear hown' hgrow
              go_wp2_with fail
              go_roundw
              case rel => exact ⟨j + 1, by omega, by go_num, HO, HB⟩
              case measure => simp [intOf]; omega
          · obtain rfl : j = 7 := by omega
            go_wp2_with fail
            go_roundw
            case rel => exact ⟨k + 1, by omega, by go_num, OJ, BJ⟩
            case measure => simp [intOf]; omega
      · obtain rfl : k = l.1.length := by omega
        go_wp2_with fail
        go_ret
        exact ⟨_, rfl, by rw [E.out]; exact Ow.mono OO.out Q0.out.size, Q0.out.trans (BO.out.mono Q0.out.size)⟩

end Go.Proofs.Ytpofkfcjnhoamaa
