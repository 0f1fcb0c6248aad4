/-
  The walk of a train through a free track: the model's and the program's TrackRun. No condition.
-/
import Derived.Test.YtilkphehonilbaaDoorTrkC
import Derived.Test.YtilkphehonilbaaDoorStrT
namespace Go.Proofs.YtilkphehonilbaaDoor
open Go.RowKit Go.Sort

/-! ### A train, plainly -/
/-- The circuits from t up to h, this excluded. -/
def sg (t h : Nat) : Nat := (2 ^ h - 1) ^^^ (2 ^ t - 1)
theorem sg_bit (t h i : Nat) : (sg t h).testBit i = (decide (i < h) != decide (i < t)) := by
  unfold sg
  rw [Nat.testBit_xor, Nat.testBit_two_pow_sub_one, Nat.testBit_two_pow_sub_one]
theorem sg_head {t h : Nat} (ht : t ≤ h) : fl (sg t h) h = sg t (h + 1) := by
  apply Nat.eq_of_testBit_eq
  intro i
  rw [fl_bit, sg_bit, sg_bit]
  rcases Nat.lt_trichotomy i h with e | e | e
  · have e1 : i < h + 1 := by omega
    have e2 : ¬ h = i := by omega
    simp [e, e1, e2]
  · subst e
    have e1 : ¬ i < t := by omega
    simp [e1]
  · have e1 : ¬ i < h := by omega
    have e2 : ¬ i < h + 1 := by omega
    have e3 : ¬ i < t := by omega
    have e4 : ¬ h = i := by omega
    simp [e1, e2, e3, e4]
theorem sg_tail {t h : Nat} (ht : t < h) : fl (sg t h) t = sg (t + 1) h := by
  apply Nat.eq_of_testBit_eq
  intro i
  rw [fl_bit, sg_bit, sg_bit]
  rcases Nat.lt_trichotomy i t with e | e | e
  · have e1 : i < t + 1 := by omega
    have e2 : ¬ t = i := by omega
    have e3 : i < h := by omega
    simp [e, e1, e2, e3]
  · subst e
    simp [ht]
  · have e1 : ¬ i < t := by omega
    have e2 : ¬ i < t + 1 := by omega
    have e4 : ¬ t = i := by omega
    simp [e1, e2, e4]
theorem sg_zero (t : Nat) : sg t t = 0 := Nat.xor_self _
theorem sg_lt {n t h : Nat} (ht : t ≤ n) (hh : h ≤ n) : sg t h < 2 ^ n := by
  apply Nat.lt_pow_two_of_testBit
  intro i hi
  rw [sg_bit]
  have e1 : ¬ i < h := by omega
  have e2 : ¬ i < t := by omega
  simp [e1, e2]
/-- Rear and front behind k moves. -/
def rnTo (n l : Nat) : Nat → Nat × Nat
  | 0 => (0, 0)
  | k + 1 => if (rnTo n l k).2 < n ∧ (rnTo n l k).2 - (rnTo n l k).1 ≤ l then ((rnTo n l k).1, (rnTo n l k).2 + 1) else ((rnTo n l k).1 + 1, (rnTo n l k).2)
theorem rn_head {n l k t h : Nat} (e : rnTo n l k = (t, h)) (h1 : h < n) (h2 : h - t ≤ l) : rnTo n l (k + 1) = (t, h + 1) := by
  simp only [rnTo, e]
  rw [if_pos ⟨h1, h2⟩]
theorem rn_tail {n l k t h : Nat} (e : rnTo n l k = (t, h)) (h1 : ¬ (h < n ∧ h - t ≤ l)) : rnTo n l (k + 1) = (t + 1, h) := by
  simp only [rnTo, e]
  rw [if_neg h1]
theorem rn_inv {n l : Nat} (hl : 1 ≤ l) (k : Nat) (hk : k ≤ 2 * n) : (rnTo n l k).1 ≤ (rnTo n l k).2 ∧ (rnTo n l k).2 ≤ n ∧ (rnTo n l k).1 + (rnTo n l k).2 = k := by
  induction k with
  | zero => simp [rnTo]
  | succ k ih =>
    have q := ih (by omega)
    simp only [rnTo]
    split
    · rename_i c; simp only; omega
    · rename_i c; simp only; omega
def rnL (n l m : Nat) : List ByteArray := (List.range m).map fun k => trS n (sg (rnTo n l k).1 (rnTo n l k).2)
theorem rnL_length (n l m : Nat) : (rnL n l m).length = m := by simp [rnL]
theorem rnL_succ {n l m t h : Nat} (e : rnTo n l m = (t, h)) : rnL n l (m + 1) = rnL n l m ++ [trS n (sg t h)] := by
  unfold rnL
  rw [List.range_succ, List.map_append, List.map_cons, List.map_nil, e]
theorem rnL_one (n l : Nat) : rnL n l (0 + 1) = [trS n 0] := by
  rw [rnL_succ (t := 0) (h := 0) rfl, sg_zero]
  rfl
def rnOk (n l : Int) : Bool := decide ((1 ≤ n ∧ n ≤ 8) ∧ (1 ≤ l ∧ l ≤ n))
def rnV (n l : Int) : List ByteArray := if rnOk n l then rnL n.toNat l.toNat (2 * n.toNat + 1) else []
theorem rnV_no {n l : Int} (h : rnOk n l = false) : rnV n l = [] := by unfold rnV; rw [h]; rfl
theorem rnV_yes {n l : Int} (h : rnOk n l = true) : rnV n l = rnL n.toNat l.toNat (2 * n.toNat + 1) := by unfold rnV; rw [h]; rfl
theorem rnV_length (n l : Int) : (rnV n l).length ≤ 17 := by
  unfold rnV
  split
  · rename_i h
    have := (of_decide_eq_true h : (1 ≤ n ∧ n ≤ 8) ∧ (1 ≤ l ∧ l ≤ n))
    rw [rnL_length]
    omega
  · exact Nat.zero_le _
/-- A call that hands back a new list of strings and a bool. -/
def MadeStrsB (w : World) (ss : List ByteArray) (b : Bool) (e : Ending) (w' : World) : Prop := ∃ v, e = .returned (.tuple #[v, .bool b]) ∧ OwnS w' w.heap.size v ss ∧ Below w.heap.size w w'
set_option maxRecDepth 100000 in
set_option maxHeartbeats 8000000 in
theorem implTrackRun (n l : Int) (_hn : -9223372036854775808 ≤ n ∧ n ≤ 9223372036854775807) (_hl : -9223372036854775808 ≤ l ∧ l ≤ 9223372036854775807) (w : World) :
    Calls Tryd.prog 14 #[.int .i64 n, .int .i64 l] w (MadeStrsB w (rnV n l) (rnOk n l)) := by
  obtain ⟨i0, hi, hz0, hz1, hz2⟩ := info_parts info_str
  have CV := circuits_is n
  by_cases hn : ¬ (1 ≤ n ∧ n ≤ 8)
  · rw [decide_eq_false hn] at CV
    have CV := Lib.hid CV
    have N : rnOk n l = false := decide_eq_false fun q => hn q.1
    have E := Lib.hid (And.intro (rnV_no N) N)
    clear hn N
    go_enter Tryd.func14, Tryd.ntmps14
    go_wp2_with (go_at_call 36; refine (CV.out _).mono ?_; rintro e w1 ⟨rfl, rfl⟩)
    go_ret2
    exact ⟨.slice none 0 0, by rw [E.out.2]; rfl, by rw [E.out.1]; exact World.ownsRow_nil _ _ _ _, Below.refl _ _⟩
  have hn := Decidable.not_not.1 hn
  rw [decide_eq_true hn] at CV
  have CV := Lib.hid CV
  by_cases hl1 : l < 1
  · have N : rnOk n l = false := decide_eq_false fun q => by have := q.2; omega
    have E := Lib.hid (And.intro (rnV_no N) N)
    clear hn N
    go_enter Tryd.func14, Tryd.ntmps14
    go_wp2_with (go_at_call 36; refine (CV.out _).mono ?_; rintro e w1 ⟨rfl, rfl⟩)
    go_ret2
    exact ⟨.slice none 0 0, by rw [E.out.2]; rfl, by rw [E.out.1]; exact World.ownsRow_nil _ _ _ _, Below.refl _ _⟩
  have hl2 : 1 ≤ l := by omega
  by_cases hl3 : n < l
  · have N : rnOk n l = false := decide_eq_false fun q => by have := q.2; omega
    have E := Lib.hid (And.intro (rnV_no N) N)
    clear hn N hl1
    go_enter Tryd.func14, Tryd.ntmps14
    go_wp2_with (go_at_call 36; refine (CV.out _).mono ?_; rintro e w1 ⟨rfl, rfl⟩)
    go_ret2
    exact ⟨.slice none 0 0, by rw [E.out.2]; rfl, by rw [E.out.1]; exact World.ownsRow_nil _ _ _ _, Below.refl _ _⟩
  have N : rnOk n l = true := decide_eq_true ⟨hn, hl2, by omega⟩
  have E := And.intro (rnV_yes N) N
  obtain ⟨n, rfl⟩ : ∃ m : Nat, n = m := ⟨n.toNat, by omega⟩
  obtain ⟨l, rfl⟩ : ∃ m : Nat, l = m := ⟨l.toNat, by omega⟩
  have E := Lib.hid (show rnV n l = rnL n l (2 * n + 1) ∧ rnOk n l = true from E)
  have hn1 : 1 ≤ n := by omega
  have hn8 : n ≤ 8 := by omega
  have hn8' : (n : Int) ≤ 8 := by omega
  have hl1' : 1 ≤ l := by omega
  have hl8 : (l : Int) ≤ 8 := by omega
  have hle : (l : Int) ≤ (n : Int) := by omega
  clear N hn hl1 hl3
  have CH := Lib.hid (fun (o i : Nat) (ho : o < 256) (hi : i < 8) (w : World) => changed_is n o i ho hi w)
  have TX := Lib.hid (fun (o : Nat) (ho : o < 256) (w : World) => text_is n o hn8 ho w)
  have SM := Lib.hid (fun (t h : Nat) (ht : t ≤ n) (hh : h ≤ n) => Nat.lt_of_lt_of_le (sg_lt ht hh) (show 2 ^ n ≤ 2 ^ 8 from Nat.pow_le_pow_right (by omega) hn8))
  have INV := Lib.hid (fun k hk => rn_inv (n := n) hl1' k hk)
  unfold tkc at CH TX
  have p := Pair.new w (.int .u64 0) (.int .i64 n) 54
  have q := below_alloc w (.cells #[.int .u64 0, .int .i64 n] 54)
  obtain ⟨W, hW⟩ : ∃ W, W = w.alloc (.cells #[.int .u64 0, .int .i64 n] 54) := ⟨_, rfl⟩
  rw [← hW] at p q
  have HW := Lib.hid hW
  have P := Lib.hid p
  have Q := Lib.hid q
  have z0 := p.cell0
  have z1 := p.cell1
  have hBW := p.lt
  have T0 := TX.out 0 (by omega)
  have T0 := Lib.hid T0
  clear hW p q
  go_enter Tryd.func14, Tryd.ntmps14
  go_upto_region 4 with (go_at_call 36; refine (CV.out _).mono ?_; rintro e w1 ⟨rfl, rfl⟩)
  rw [← HW.out]
  go_wp2_with (go_at_call 34; refine (T0.out _).mono ?_; rintro e w2 ⟨rfl, b2⟩)
  have P2 := Lib.hid ((P.out.below b2).alloc (.cells #[.string (trS n 0)] 9))
  have O2 := Lib.hid ((ownS_one w2 (trS n 0)).mono b2.size)
  have q2 := chain Q.out b2
  have Q2 := Lib.hid (q2.alloc q2.size (.cells #[.string (trS n 0)] 9))
  have s2 := Lib.hid (show W.heap.size ≤ (w2.alloc (.cells #[.string (trS n 0)] 9)).heap.size from (b2.alloc b2.size _).size)
  clear z0 z1 b2 q2
  go_loopw [7, 8, 9] (fun v r f wr => ∃ k t h : Nat, k ≤ 2 * n ∧ r = .int .i64 t ∧ f = .int .i64 h ∧ rnTo n l k = (t, h) ∧ OwnS wr W.heap.size v (rnL n l (k + 1)) ∧ Pair wr w.heap.size (.int .u64 (sg t h : Nat)) (.int .i64 n) 54 ∧ W.heap.size ≤ wr.heap.size ∧ Below w.heap.size w wr) (fun _ r f _ => 2 * n - ((intOf r).toNat + (intOf f).toNat))
  case atStart => exact ⟨0, 0, 0, by omega, rfl, rfl, rfl, by rw [rnL_one]; exact O2.out, P2.out, s2.out, Q2.out⟩
  case round =>
    clear P2 O2 Q2 s2
    obtain ⟨k, t, h, hk, rfl, rfl, hst, hown, hp, hsz, hbel⟩ := hrel
    have inv := INV.out k hk
    rw [hst] at inv
    obtain ⟨v1, v2, v3⟩ : t ≤ h ∧ h ≤ n ∧ t + h = k := inv
    have hti : (t : Int) ≤ (h : Int) := by omega
    have hhi : (h : Int) ≤ (n : Int) := by omega
    have ST := Lib.hid hst
    have V3 := Lib.hid v3
    have z0 := hp.cell0
    have z1 := hp.cell1
    have f0 := hp.frozen 0
    have f1 := hp.frozen 1
    have PP := Lib.hid hp
    have BB := Lib.hid hbel
    have hor := hown
    unfold OwnS at hor
    rw [rnL_length] at hor
    have OO := Lib.hid hor
    have OW := Lib.hid hown
    clear hst hor hp hbel v3
    by_cases hlt : t < n
    · have htn : (t : Int) < (n : Int) := by omega
      by_cases hlh : (l : Int) < (h : Int) - (t : Int)
      · have hno : ¬ (h < n ∧ h - t ≤ l) := by omega
        have hth : t < h := by omega
        have hs := Lib.hid (rn_tail ST.out hno)
        have SG := sg_tail hth
        have C1 := CH.out (sg t h) t (SM.out t h (by omega) v2) (by omega)
        have LS := rnL_succ hs.out
        rw [SG] at C1
        obtain ⟨y, hy⟩ : ∃ y, y = sg (t + 1) h := ⟨_, rfl⟩
        have X1 := TX.out (sg (t + 1) h) (SM.out (t + 1) h (by omega) (by omega))
        rw [← hy] at C1 X1 LS
        obtain ⟨x, hx⟩ : ∃ x, x = sg t h := ⟨_, rfl⟩
        rw [← hx] at C1 z0
        have C1 := Lib.hid C1
        have X1 := Lib.hid X1
        have LS := Lib.hid LS
        have HY := Lib.hid hy
        have OA := Lib.hid (fun (w3 : World) (b3 : Below wr.heap.size wr w3) => (show ((w3.setCell ⟨w.heap.size, 0, none⟩ (.int .u64 y)).setCell ⟨w.heap.size, 1, none⟩ (.int .i64 n)).ownsRow W.heap.size 9 1 _ (k + 1) _ from ownsRow_setCell_below (ownsRow_setCell_below (World.ownsRow.kept OO.out (below_grown b3) (by cases (Value.ownBlock _) <;> simp)) (a := ⟨w.heap.size, 0, none⟩) hBW _) (a := ⟨w.heap.size, 1, none⟩) hBW _))
        have BA := Lib.hid (fun (w3 : World) (b3 : Below wr.heap.size wr w3) => pair_below (BB.out.trans (b3.mono BB.out.size)) (Nat.le_refl _) (.int .u64 y) (.int .i64 n))
        have PA := Lib.hid (fun (w3 : World) (b3 : Below wr.heap.size wr w3) => pair_stored (PP.out.below b3) (.int .u64 y) (.int .i64 n))
        have SA := Lib.hid (fun (w3 : World) (b3 : Below wr.heap.size wr w3) => (show W.heap.size ≤ ((w3.setCell ⟨w.heap.size, 0, none⟩ (.int .u64 y)).setCell ⟨w.heap.size, 1, none⟩ (.int .i64 n)).heap.size by rw [Go.Deep.nblk_setCell, Go.Deep.nblk_setCell]; exact Nat.le_trans hsz b3.size))
        have QA := Lib.hid (fun (w3 : World) (b3 : Below wr.heap.size wr w3) => And.intro (hx ▸ PP.out.below b3 : Pair w3 w.heap.size (.int .u64 x) (.int .i64 n) 54) (PA.out w3 b3))
        clear hx hy SG
        go_wp2_with (first
          | (go_at_call 37; refine (C1.out _).mono ?_; rintro e w3 ⟨rfl, b3⟩; have qa := QA.out _ b3; have y0 := qa.1.cell0; have y1 := qa.1.cell1; have g0 := qa.1.frozen 0; have g1 := qa.1.frozen 1; have u0 := qa.2.cell0; have u1 := qa.2.cell1; clear qa)
          | (go_at_call 34; refine (X1.out _).mono ?_; rintro e w5 ⟨rfl, b5⟩; have hor := World.ownsRow.kept (OA.out _ b3) (below_grown b5) (by cases (Value.ownBlock _) <;> simp); have hs5 := Nat.le_trans (SA.out _ b3) b5.size)
          | (at_builtin; refine wpList_append_own _ rfl _ _ 23 rfl W.heap.size 9 i0 (.string ⟨#[]⟩) 1 16 Tryd.underlying23 hi hz0 hz1 hz2 rfl (by decide) _ _ _ rfl (hor.alloc _) ⟨w5.heap.size, 0, none⟩ 1 1 [.string (trS n y)] rfl rfl ?c1 ?c2 ?c3 ?c4 ?c5 ?_))
        case c1 => exact str_new _ _
        case c2 => intro u hu; simp at hu; subst hu; rfl
        case c3 => simp only [maxLen]; omega
        case c4 => omega
        case c5 => simp; omega
        intro v' w6 hown' hgrow _
        have own_out := fun g hg => (World.ownsRow.lt hor g hg).1
        have B5 := (BA.out _ b3).trans (b5.mono (BA.out _ b3).size)
        have HB := Lib.hid ((B5.alloc B5.size _).grown hgrow (by simp; exact Nat.le_trans B5.size (by simp)) (fun g hg => Nat.le_trans (Nat.le_of_lt hBW) (own_out g hg)))
        have P7 := Lib.hid ((((PA.out _ b3).below b5).alloc _).kept hgrow (fun c hc e => by have := own_out c hc; omega))
        have S7 := Lib.hid (show W.heap.size ≤ w6.heap.size from by have := hgrow.size; simp at this; omega)
        have HO := Lib.hid (show OwnS w6 W.heap.size v' (rnL n l (k + 1 + 1)) by
          unfold OwnS
          rw [LS.out, List.length_append, List.map_append, rnL_length]
          exact hown')
        clear hown' hgrow hor own_out B5
        go_wp2_with fail
        go_roundw
        case rel => exact ⟨k + 1, t + 1, h, by have := V3.out; omega, by go_num, by go_num, hs.out, HO.out, by rw [← HY.out]; exact P7.out, S7.out, HB.out⟩
        case measure => simp [intOf]; omega
      · have hlh2 : h - t ≤ l := by omega
        have hlh' : (h : Int) - (t : Int) ≤ (l : Int) := by omega
        by_cases hhn : h = n
        · have hno : ¬ (h < n ∧ h - t ≤ l) := by omega
          have hth : t < h := by omega
          have t1 : ((h : Int) == (n : Int)) = true := by rw [hhn]; simp
          clear hhn hlh
          have hs := Lib.hid (rn_tail ST.out hno)
          have SG := sg_tail hth
          have C1 := CH.out (sg t h) t (SM.out t h (by omega) v2) (by omega)
          have LS := rnL_succ hs.out
          rw [SG] at C1
          obtain ⟨y, hy⟩ : ∃ y, y = sg (t + 1) h := ⟨_, rfl⟩
          have X1 := TX.out (sg (t + 1) h) (SM.out (t + 1) h (by omega) (by omega))
          rw [← hy] at C1 X1 LS
          obtain ⟨x, hx⟩ : ∃ x, x = sg t h := ⟨_, rfl⟩
          rw [← hx] at C1 z0
          have C1 := Lib.hid C1
          have X1 := Lib.hid X1
          have LS := Lib.hid LS
          have HY := Lib.hid hy
          have OA := Lib.hid (fun (w3 : World) (b3 : Below wr.heap.size wr w3) => (show ((w3.setCell ⟨w.heap.size, 0, none⟩ (.int .u64 y)).setCell ⟨w.heap.size, 1, none⟩ (.int .i64 n)).ownsRow W.heap.size 9 1 _ (k + 1) _ from ownsRow_setCell_below (ownsRow_setCell_below (World.ownsRow.kept OO.out (below_grown b3) (by cases (Value.ownBlock _) <;> simp)) (a := ⟨w.heap.size, 0, none⟩) hBW _) (a := ⟨w.heap.size, 1, none⟩) hBW _))
          have BA := Lib.hid (fun (w3 : World) (b3 : Below wr.heap.size wr w3) => pair_below (BB.out.trans (b3.mono BB.out.size)) (Nat.le_refl _) (.int .u64 y) (.int .i64 n))
          have PA := Lib.hid (fun (w3 : World) (b3 : Below wr.heap.size wr w3) => pair_stored (PP.out.below b3) (.int .u64 y) (.int .i64 n))
          have SA := Lib.hid (fun (w3 : World) (b3 : Below wr.heap.size wr w3) => (show W.heap.size ≤ ((w3.setCell ⟨w.heap.size, 0, none⟩ (.int .u64 y)).setCell ⟨w.heap.size, 1, none⟩ (.int .i64 n)).heap.size by rw [Go.Deep.nblk_setCell, Go.Deep.nblk_setCell]; exact Nat.le_trans hsz b3.size))
          have QA := Lib.hid (fun (w3 : World) (b3 : Below wr.heap.size wr w3) => And.intro (hx ▸ PP.out.below b3 : Pair w3 w.heap.size (.int .u64 x) (.int .i64 n) 54) (PA.out w3 b3))
          clear hx hy SG
          go_wp2_with (first
            | (go_at_call 37; refine (C1.out _).mono ?_; rintro e w3 ⟨rfl, b3⟩; have qa := QA.out _ b3; have y0 := qa.1.cell0; have y1 := qa.1.cell1; have g0 := qa.1.frozen 0; have g1 := qa.1.frozen 1; have u0 := qa.2.cell0; have u1 := qa.2.cell1; clear qa)
            | (go_at_call 34; refine (X1.out _).mono ?_; rintro e w5 ⟨rfl, b5⟩; have hor := World.ownsRow.kept (OA.out _ b3) (below_grown b5) (by cases (Value.ownBlock _) <;> simp); have hs5 := Nat.le_trans (SA.out _ b3) b5.size)
            | (at_builtin; refine wpList_append_own _ rfl _ _ 23 rfl W.heap.size 9 i0 (.string ⟨#[]⟩) 1 16 Tryd.underlying23 hi hz0 hz1 hz2 rfl (by decide) _ _ _ rfl (hor.alloc _) ⟨w5.heap.size, 0, none⟩ 1 1 [.string (trS n y)] rfl rfl ?c1 ?c2 ?c3 ?c4 ?c5 ?_))
          case c1 => exact str_new _ _
          case c2 => intro u hu; simp at hu; subst hu; rfl
          case c3 => simp only [maxLen]; omega
          case c4 => omega
          case c5 => simp; omega
          intro v' w6 hown' hgrow _
          have own_out := fun g hg => (World.ownsRow.lt hor g hg).1
          have B5 := (BA.out _ b3).trans (b5.mono (BA.out _ b3).size)
          have HB := Lib.hid ((B5.alloc B5.size _).grown hgrow (by simp; exact Nat.le_trans B5.size (by simp)) (fun g hg => Nat.le_trans (Nat.le_of_lt hBW) (own_out g hg)))
          have P7 := Lib.hid ((((PA.out _ b3).below b5).alloc _).kept hgrow (fun c hc e => by have := own_out c hc; omega))
          have S7 := Lib.hid (show W.heap.size ≤ w6.heap.size from by have := hgrow.size; simp at this; omega)
          have HO := Lib.hid (show OwnS w6 W.heap.size v' (rnL n l (k + 1 + 1)) by
            unfold OwnS
            rw [LS.out, List.length_append, List.map_append, rnL_length]
            exact hown')
          clear hown' hgrow hor own_out B5
          go_wp2_with fail
          go_roundw
          case rel => exact ⟨k + 1, t + 1, h, by have := V3.out; omega, by go_num, by go_num, hs.out, HO.out, by rw [← HY.out]; exact P7.out, S7.out, HB.out⟩
          case measure => simp [intOf]; omega
        · have hhn2 : h < n := by omega
          have t1 : ((h : Int) == (n : Int)) = false := by rw [beq_eq_false_iff_ne]; omega
          clear hhn hlh
          have hs := Lib.hid (rn_head ST.out hhn2 hlh2)
          have SG := sg_head v1
          have C1 := CH.out (sg t h) h (SM.out t h (by omega) v2) (by omega)
          have LS := rnL_succ hs.out
          rw [SG] at C1
          obtain ⟨y, hy⟩ : ∃ y, y = sg t (h + 1) := ⟨_, rfl⟩
          have X1 := TX.out (sg t (h + 1)) (SM.out t (h + 1) (by omega) (by omega))
          rw [← hy] at C1 X1 LS
          obtain ⟨x, hx⟩ : ∃ x, x = sg t h := ⟨_, rfl⟩
          rw [← hx] at C1 z0
          have C1 := Lib.hid C1
          have X1 := Lib.hid X1
          have LS := Lib.hid LS
          have HY := Lib.hid hy
          have OA := Lib.hid (fun (w3 : World) (b3 : Below wr.heap.size wr w3) => (show ((w3.setCell ⟨w.heap.size, 0, none⟩ (.int .u64 y)).setCell ⟨w.heap.size, 1, none⟩ (.int .i64 n)).ownsRow W.heap.size 9 1 _ (k + 1) _ from ownsRow_setCell_below (ownsRow_setCell_below (World.ownsRow.kept OO.out (below_grown b3) (by cases (Value.ownBlock _) <;> simp)) (a := ⟨w.heap.size, 0, none⟩) hBW _) (a := ⟨w.heap.size, 1, none⟩) hBW _))
          have BA := Lib.hid (fun (w3 : World) (b3 : Below wr.heap.size wr w3) => pair_below (BB.out.trans (b3.mono BB.out.size)) (Nat.le_refl _) (.int .u64 y) (.int .i64 n))
          have PA := Lib.hid (fun (w3 : World) (b3 : Below wr.heap.size wr w3) => pair_stored (PP.out.below b3) (.int .u64 y) (.int .i64 n))
          have SA := Lib.hid (fun (w3 : World) (b3 : Below wr.heap.size wr w3) => (show W.heap.size ≤ ((w3.setCell ⟨w.heap.size, 0, none⟩ (.int .u64 y)).setCell ⟨w.heap.size, 1, none⟩ (.int .i64 n)).heap.size by rw [Go.Deep.nblk_setCell, Go.Deep.nblk_setCell]; exact Nat.le_trans hsz b3.size))
          have QA := Lib.hid (fun (w3 : World) (b3 : Below wr.heap.size wr w3) => And.intro (hx ▸ PP.out.below b3 : Pair w3 w.heap.size (.int .u64 x) (.int .i64 n) 54) (PA.out w3 b3))
          clear hx hy SG
          go_wp2_with (first
            | (go_at_call 37; refine (C1.out _).mono ?_; rintro e w3 ⟨rfl, b3⟩; have qa := QA.out _ b3; have y0 := qa.1.cell0; have y1 := qa.1.cell1; have g0 := qa.1.frozen 0; have g1 := qa.1.frozen 1; have u0 := qa.2.cell0; have u1 := qa.2.cell1; clear qa)
            | (go_at_call 34; refine (X1.out _).mono ?_; rintro e w5 ⟨rfl, b5⟩; have hor := World.ownsRow.kept (OA.out _ b3) (below_grown b5) (by cases (Value.ownBlock _) <;> simp); have hs5 := Nat.le_trans (SA.out _ b3) b5.size)
            | (at_builtin; refine wpList_append_own _ rfl _ _ 23 rfl W.heap.size 9 i0 (.string ⟨#[]⟩) 1 16 Tryd.underlying23 hi hz0 hz1 hz2 rfl (by decide) _ _ _ rfl (hor.alloc _) ⟨w5.heap.size, 0, none⟩ 1 1 [.string (trS n y)] rfl rfl ?c1 ?c2 ?c3 ?c4 ?c5 ?_))
          case c1 => exact str_new _ _
          case c2 => intro u hu; simp at hu; subst hu; rfl
          case c3 => simp only [maxLen]; omega
          case c4 => omega
          case c5 => simp; omega
          intro v' w6 hown' hgrow _
          have own_out := fun g hg => (World.ownsRow.lt hor g hg).1
          have B5 := (BA.out _ b3).trans (b5.mono (BA.out _ b3).size)
          have HB := Lib.hid ((B5.alloc B5.size _).grown hgrow (by simp; exact Nat.le_trans B5.size (by simp)) (fun g hg => Nat.le_trans (Nat.le_of_lt hBW) (own_out g hg)))
          have P7 := Lib.hid ((((PA.out _ b3).below b5).alloc _).kept hgrow (fun c hc e => by have := own_out c hc; omega))
          have S7 := Lib.hid (show W.heap.size ≤ w6.heap.size from by have := hgrow.size; simp at this; omega)
          have HO := Lib.hid (show OwnS w6 W.heap.size v' (rnL n l (k + 1 + 1)) by
            unfold OwnS
            rw [LS.out, List.length_append, List.map_append, rnL_length]
            exact hown')
          clear hown' hgrow hor own_out B5
          go_wp2_with fail
          go_roundw
          case rel => exact ⟨k + 1, t, h + 1, by have := V3.out; omega, by go_num, by go_num, hs.out, HO.out, by rw [← HY.out]; exact P7.out, S7.out, HB.out⟩
          case measure => simp [intOf]; omega
    · have e : k = 2 * n := by have := V3.out; omega
      have E2 := Lib.hid (show OwnS wr W.heap.size _ (rnL n l (2 * n + 1)) from e ▸ OW.out)
      have htn : (n : Int) ≤ (t : Int) := by omega
      clear e hlt
      go_wp2_with fail
      go_ret2
      exact ⟨_, by rw [E.out.2]; rfl, by rw [E.out.1]; exact E2.out.mono Q.out.size, BB.out⟩

/-! ### By the model -/
set_option maxHeartbeats 4000000 in
theorem many0 (m : Nat) (h : m ≤ 8) (w : World) :
    Calls Tryd.prog 39 #[.string ⟨#[48]⟩, .int .i64 m] w fun e w' => e = .returned (.string ⟨(List.replicate m (48 : UInt8)).toArray⟩) ∧ w = w' := by
  have hm : m = 0 ∨ m = 1 ∨ m = 2 ∨ m = 3 ∨ m = 4 ∨ m = 5 ∨ m = 6 ∨ m = 7 ∨ m = 8 := by omega
  rcases hm with rfl | rfl | rfl | rfl | rfl | rfl | rfl | rfl | rfl
  all_goals
    go_enter Tryd.func39, Tryd.ntmps39
    go_wp2_with fail
    refine wp_loop_rounds 5 ?_
    repeat (rw [rounds_succ]; go_wp2_with fail)
    go_ret
    exact ⟨rfl, rfl⟩

set_option maxHeartbeats 4000000 in
theorem many1 (m : Nat) (h : m ≤ 8) (w : World) :
    Calls Tryd.prog 39 #[.string ⟨#[49]⟩, .int .i64 m] w fun e w' => e = .returned (.string ⟨(List.replicate m (49 : UInt8)).toArray⟩) ∧ w = w' := by
  have hm : m = 0 ∨ m = 1 ∨ m = 2 ∨ m = 3 ∨ m = 4 ∨ m = 5 ∨ m = 6 ∨ m = 7 ∨ m = 8 := by omega
  rcases hm with rfl | rfl | rfl | rfl | rfl | rfl | rfl | rfl | rfl
  all_goals
    go_enter Tryd.func39, Tryd.ntmps39
    go_wp2_with fail
    refine wp_loop_rounds 5 ?_
    repeat (rw [rounds_succ]; go_wp2_with fail)
    go_ret
    exact ⟨rfl, rfl⟩

def zs (m : Nat) : ByteArray := ⟨(List.replicate m (48 : UInt8)).toArray⟩
def os (m : Nat) : ByteArray := ⟨(List.replicate m (49 : UInt8)).toArray⟩
theorem zs_size (m : Nat) : (zs m).size = m := by unfold zs; show (List.replicate m (48 : UInt8)).toArray.size = m; simp
theorem os_size (m : Nat) : (os m).size = m := by unfold os; show (List.replicate m (49 : UInt8)).toArray.size = m; simp
theorem zs_all (n : Nat) : zs n = trS n 0 := by
  unfold zs trS trL
  congr 2
  apply List.ext_getElem
  · simp
  · intro i h1 h2
    simp
theorem trL_get {n o i : Nat} (h : i < (trL n o).length) : (trL n o)[i] = if o.testBit i then 49 else 48 := by
  simp only [trL, List.getElem_map, List.getElem_range]
theorem parts_is {n t h : Nat} (ht : t ≤ h) (hh : h ≤ n) : zs t ++ os (h - t) ++ zs (n - h) = trS n (sg t h) := by
  have e : List.replicate t (48 : UInt8) ++ List.replicate (h - t) 49 ++ List.replicate (n - h) 48 = trL n (sg t h) := by
    apply List.ext_getElem
    · rw [trL_length]; simp; omega
    · intro i h1 h2
      rw [trL_length] at h2
      rw [trL_get, sg_bit]
      by_cases a : i < t
      · have b : i < h := by omega
        rw [List.getElem_append_left (by simp; omega), List.getElem_append_left (by simp; omega), List.getElem_replicate]
        simp [a, b]
      · by_cases b : i < h
        · rw [List.getElem_append_left (by simp; omega), List.getElem_append_right (by simp; omega), List.getElem_replicate]
          simp [a, b]
        · rw [List.getElem_append_right (by simp; omega), List.getElem_replicate]
          simp [a, b]
  unfold zs os trS
  rw [← e]
  apply ByteArray.ext
  simp
theorem cat_r (A B : ByteArray) (h : A.size + B.size ≤ 9223372036854775807) : ∀ w, (Op.stringOp .add A B).run Tryd.prog w = .ok (.string (A ++ B)) w := fun w => run_string_add_sum (P := Tryd.prog) w A B h

set_option maxRecDepth 100000 in
set_option maxHeartbeats 8000000 in
theorem specTrackRun (n l : Int) (_hn : -9223372036854775808 ≤ n ∧ n ≤ 9223372036854775807) (_hl : -9223372036854775808 ≤ l ∧ l ≤ 9223372036854775807) (w : World) :
    Calls Tryd.prog 15 #[.int .i64 n, .int .i64 l] w (MadeStrsB w (rnV n l) (rnOk n l)) := by
  obtain ⟨i0, hi, hz0, hz1, hz2⟩ := info_parts info_str
  have CV := Lib.hid (in_is n 1 8)
  have CA := Lib.hid (in_is l 1 n)
  obtain ⟨t, ht⟩ : ∃ t, t = decide (1 ≤ n ∧ n ≤ 8) := ⟨_, rfl⟩
  obtain ⟨s, hs⟩ : ∃ s, s = decide (1 ≤ l ∧ l ≤ n) := ⟨_, rfl⟩
  rw [← ht] at CV
  rw [← hs] at CA
  have B1 := Lib.hid (below_alloc w (.cells #[] 9))
  have O1 := Lib.hid (ownS_empty w)
  cases t
  · have N : rnOk n l = false := decide_eq_false fun q => of_decide_eq_false ht.symm q.1
    have E := Lib.hid (And.intro (rnV_no N) N)
    clear ht hs N
    go_enter Tryd.func15, Tryd.ntmps15
    go_wp2_with (go_at_call 38; with_reducible refine (CV.out _).mono ?_; rintro e w1 ⟨rfl, rfl⟩)
    go_ret2
    exact ⟨.slice (some ⟨w.heap.size, 0, none⟩) 0 0, by rw [E.out.2]; rfl, by rw [E.out.1]; exact O1.out, B1.out⟩
  cases s
  · have N : rnOk n l = false := decide_eq_false fun q => of_decide_eq_false hs.symm q.2
    have E := Lib.hid (And.intro (rnV_no N) N)
    clear ht hs N
    go_enter Tryd.func15, Tryd.ntmps15
    go_wp2_with (first | (go_at_call 38; with_reducible refine (CV.out _).mono ?_; rintro e w1 ⟨rfl, rfl⟩) | (go_at_call 38; with_reducible refine (CA.out _).mono ?_; rintro e w2 ⟨rfl, rfl⟩))
    go_ret2
    exact ⟨.slice (some ⟨w.heap.size, 0, none⟩) 0 0, by rw [E.out.2]; rfl, by rw [E.out.1]; exact O1.out, B1.out⟩
  have hn := of_decide_eq_true ht.symm
  have hl := of_decide_eq_true hs.symm
  have N : rnOk n l = true := decide_eq_true ⟨hn, hl⟩
  have E := And.intro (rnV_yes N) N
  obtain ⟨n, rfl⟩ : ∃ m : Nat, n = m := ⟨n.toNat, by omega⟩
  obtain ⟨l, rfl⟩ : ∃ m : Nat, l = m := ⟨l.toNat, by omega⟩
  have E := Lib.hid (show rnV n l = rnL n l (2 * n + 1) ∧ rnOk n l = true from E)
  have hn8 : n ≤ 8 := by omega
  have hn8' : (n : Int) ≤ 8 := by omega
  have hl1' : 1 ≤ l := by omega
  have hl8 : (l : Int) ≤ 8 := by omega
  clear N hn hl ht hs
  have M0 := Lib.hid (fun (m : Nat) (h : m ≤ 8) (w : World) => many0 m h w)
  have M1 := Lib.hid (fun (m : Nat) (h : m ≤ 8) (w : World) => many1 m h w)
  have INV := Lib.hid (fun k hk => rn_inv (n := n) hl1' k hk)
  have MN := M0.out n hn8
  have MN := Lib.hid (show ∀ w : World, Calls Tryd.prog 39 #[.string ⟨#[48]⟩, .int .i64 n] w fun e w' => e = .returned (.string (trS n 0)) ∧ w = w' from zs_all n ▸ MN)
  have O2 := Lib.hid (ownS_one w (trS n 0))
  have Q2 := Lib.hid (below_alloc w (.cells #[.string (trS n 0)] 9))
  go_enter Tryd.func15, Tryd.ntmps15
  go_wp2_with (first | (go_at_call 38; with_reducible refine (CV.out _).mono ?_; rintro e w1 ⟨rfl, rfl⟩) | (go_at_call 38; with_reducible refine (CA.out _).mono ?_; rintro e w2 ⟨rfl, rfl⟩) | (go_at_call 39; refine (MN.out _).mono ?_; rintro e w3 ⟨rfl, rfl⟩))
  go_loopw [6, 7, 8] (fun v r f wr => ∃ k t h : Nat, k ≤ 2 * n ∧ r = .int .i64 t ∧ f = .int .i64 h ∧ rnTo n l k = (t, h) ∧ OwnS wr w.heap.size v (rnL n l (k + 1)) ∧ Below w.heap.size w wr) (fun _ r f _ => 2 * n - ((intOf r).toNat + (intOf f).toNat))
  case atStart => exact ⟨0, 0, 0, by omega, rfl, rfl, rfl, by rw [rnL_one]; exact O2.out, Q2.out⟩
  case round =>
    clear O2 Q2 B1 O1
    obtain ⟨k, t, h, hk, rfl, rfl, hst, hown, hbel⟩ := hrel
    have inv := INV.out k hk
    rw [hst] at inv
    obtain ⟨v1, v2, v3⟩ : t ≤ h ∧ h ≤ n ∧ t + h = k := inv
    have hti : (t : Int) ≤ (h : Int) := by omega
    have hhi : (h : Int) ≤ (n : Int) := by omega
    have ST := Lib.hid hst
    have V3 := Lib.hid v3
    have BB := Lib.hid hbel
    have hor := hown
    unfold OwnS at hor
    rw [rnL_length] at hor
    have OW := Lib.hid hown
    have hsz := hbel.size
    clear hst hbel v3 hown
    by_cases hlt : t < n
    · have htn : (t : Int) < (n : Int) := by omega
      by_cases hhn : h = n
      · have hno : ¬ (h < n ∧ h - t ≤ l) := by omega
        have hth : t < h := by omega
        have hhn' : (n : Int) ≤ (h : Int) := by omega
        clear hhn
        have hs := rn_tail ST.out hno
        have LS := Lib.hid (rnL_succ hs)
        have hs := Lib.hid hs
        have hle : (t + 1) ≤ h ∧ h ≤ n := by omega
        have A0 := M0.out (t + 1) (by omega)
        have A1 := M1.out (h - (t + 1)) (by omega)
        have A2 := M0.out (n - h) (by omega)
        have PI := parts_is hle.1 hle.2
        have e1 : ((h - (t + 1) : Nat) : Int) = h - ((t : Int) + 1) := by omega
        have e2 : ((n - h : Nat) : Int) = (n : Int) - h := by omega
        rw [e1] at A1
        rw [e2] at A2
        have z1 := zs_size (t + 1)
        have z2 := os_size (h - (t + 1))
        have z3 := zs_size (n - h)
        obtain ⟨X, hX⟩ : ∃ X, X = zs (t + 1) := ⟨_, rfl⟩
        obtain ⟨Y, hY⟩ : ∃ Y, Y = os (h - (t + 1)) := ⟨_, rfl⟩
        obtain ⟨Z, hZ⟩ : ∃ Z, Z = zs (n - h) := ⟨_, rfl⟩
        obtain ⟨V, hV⟩ : ∃ V, V = X ++ Y := ⟨_, rfl⟩
        have A0 : ∀ w : World, Calls Tryd.prog 39 #[.string ⟨#[48]⟩, .int .i64 ((t : Int) + 1)] w fun e w' => e = .returned (.string X) ∧ w = w' := hX ▸ A0
        have A1 : ∀ w : World, Calls Tryd.prog 39 #[.string ⟨#[49]⟩, .int .i64 (h - ((t : Int) + 1))] w fun e w' => e = .returned (.string Y) ∧ w = w' := hY ▸ A1
        have A2 : ∀ w : World, Calls Tryd.prog 39 #[.string ⟨#[48]⟩, .int .i64 ((n : Int) - h)] w fun e w' => e = .returned (.string Z) ∧ w = w' := hZ ▸ A2
        rw [← hX] at z1 PI
        rw [← hY] at z2 PI
        rw [← hZ] at z3 PI
        rw [← hV] at PI
        have hVs : V.size ≤ 16 := by rw [hV, ByteArray.size_append]; omega
        have p1 := cat_r X Y (by omega)
        have p2 := cat_r V Z (by omega)
        rw [← hV] at p1
        rw [PI] at p2
        have A0 := Lib.hid A0
        have A1 := Lib.hid A1
        have A2 := Lib.hid A2
        clear hX hY hZ hV PI e1 e2 z1 z2 z3 hVs hle
        go_wp2_with (first
          | (go_at_call 39; with_reducible refine (A1.out _).mono ?_; rintro e w4 ⟨rfl, rfl⟩)
          | (go_at_call 39; with_reducible refine (A0.out _).mono ?_; rintro e w4 ⟨rfl, rfl⟩)
          | (go_at_call 39; with_reducible refine (A2.out _).mono ?_; rintro e w4 ⟨rfl, rfl⟩)
          | (at_builtin; refine wpList_append_own _ rfl _ _ 23 rfl w.heap.size 9 i0 (.string ⟨#[]⟩) 1 16 Tryd.underlying23 hi hz0 hz1 hz2 rfl (by decide) _ _ _ rfl (hor.alloc _) ⟨wr.heap.size, 0, none⟩ 1 1 [.string (trS n (sg (t + 1) h))] rfl rfl ?c1 ?c2 ?c3 ?c4 ?c5 ?_))
        case c1 => exact str_new _ _
        case c2 => intro u hu; simp at hu; subst hu; rfl
        case c3 => simp only [maxLen]; omega
        case c4 => omega
        case c5 => simp; omega
        intro v' w6 hown' hgrow _
        have HB := Lib.hid ((BB.out.alloc BB.out.size _).grown hgrow (by simp; omega) (fun g hg => (World.ownsRow.lt hor g hg).1))
        have HO := Lib.hid (show OwnS w6 w.heap.size v' (rnL n l (k + 1 + 1)) by
          unfold OwnS
          rw [LS.out, List.length_append, List.map_append, rnL_length]
          exact hown')
        clear hown' hgrow hor p1 p2
        go_wp2_with fail
        go_roundw
        case rel => exact ⟨k + 1, t + 1, h, by have := V3.out; omega, by go_num, by go_num, hs.out, HO.out, HB.out⟩
        case measure => simp [intOf]; omega
      · have hhn2 : h < n := by omega
        have hhn' : (h : Int) < (n : Int) := by omega
        by_cases hlh : l < h - t
        · have hno : ¬ (h < n ∧ h - t ≤ l) := by omega
          have hth : t < h := by omega
          have hlh' : (l : Int) < (h : Int) - (t : Int) := by omega
          clear hhn
          have hs := rn_tail ST.out hno
          have LS := Lib.hid (rnL_succ hs)
          have hs := Lib.hid hs
          have hle : (t + 1) ≤ h ∧ h ≤ n := by omega
          have A0 := M0.out (t + 1) (by omega)
          have A1 := M1.out (h - (t + 1)) (by omega)
          have A2 := M0.out (n - h) (by omega)
          have PI := parts_is hle.1 hle.2
          have e1 : ((h - (t + 1) : Nat) : Int) = h - ((t : Int) + 1) := by omega
          have e2 : ((n - h : Nat) : Int) = (n : Int) - h := by omega
          rw [e1] at A1
          rw [e2] at A2
          have z1 := zs_size (t + 1)
          have z2 := os_size (h - (t + 1))
          have z3 := zs_size (n - h)
          obtain ⟨X, hX⟩ : ∃ X, X = zs (t + 1) := ⟨_, rfl⟩
          obtain ⟨Y, hY⟩ : ∃ Y, Y = os (h - (t + 1)) := ⟨_, rfl⟩
          obtain ⟨Z, hZ⟩ : ∃ Z, Z = zs (n - h) := ⟨_, rfl⟩
          obtain ⟨V, hV⟩ : ∃ V, V = X ++ Y := ⟨_, rfl⟩
          have A0 : ∀ w : World, Calls Tryd.prog 39 #[.string ⟨#[48]⟩, .int .i64 ((t : Int) + 1)] w fun e w' => e = .returned (.string X) ∧ w = w' := hX ▸ A0
          have A1 : ∀ w : World, Calls Tryd.prog 39 #[.string ⟨#[49]⟩, .int .i64 (h - ((t : Int) + 1))] w fun e w' => e = .returned (.string Y) ∧ w = w' := hY ▸ A1
          have A2 : ∀ w : World, Calls Tryd.prog 39 #[.string ⟨#[48]⟩, .int .i64 ((n : Int) - h)] w fun e w' => e = .returned (.string Z) ∧ w = w' := hZ ▸ A2
          rw [← hX] at z1 PI
          rw [← hY] at z2 PI
          rw [← hZ] at z3 PI
          rw [← hV] at PI
          have hVs : V.size ≤ 16 := by rw [hV, ByteArray.size_append]; omega
          have p1 := cat_r X Y (by omega)
          have p2 := cat_r V Z (by omega)
          rw [← hV] at p1
          rw [PI] at p2
          have A0 := Lib.hid A0
          have A1 := Lib.hid A1
          have A2 := Lib.hid A2
          clear hX hY hZ hV PI e1 e2 z1 z2 z3 hVs hle
          go_wp2_with (first
            | (go_at_call 39; with_reducible refine (A1.out _).mono ?_; rintro e w4 ⟨rfl, rfl⟩)
            | (go_at_call 39; with_reducible refine (A0.out _).mono ?_; rintro e w4 ⟨rfl, rfl⟩)
            | (go_at_call 39; with_reducible refine (A2.out _).mono ?_; rintro e w4 ⟨rfl, rfl⟩)
            | (at_builtin; refine wpList_append_own _ rfl _ _ 23 rfl w.heap.size 9 i0 (.string ⟨#[]⟩) 1 16 Tryd.underlying23 hi hz0 hz1 hz2 rfl (by decide) _ _ _ rfl (hor.alloc _) ⟨wr.heap.size, 0, none⟩ 1 1 [.string (trS n (sg (t + 1) h))] rfl rfl ?c1 ?c2 ?c3 ?c4 ?c5 ?_))
          case c1 => exact str_new _ _
          case c2 => intro u hu; simp at hu; subst hu; rfl
          case c3 => simp only [maxLen]; omega
          case c4 => omega
          case c5 => simp; omega
          intro v' w6 hown' hgrow _
          have HB := Lib.hid ((BB.out.alloc BB.out.size _).grown hgrow (by simp; omega) (fun g hg => (World.ownsRow.lt hor g hg).1))
          have HO := Lib.hid (show OwnS w6 w.heap.size v' (rnL n l (k + 1 + 1)) by
            unfold OwnS
            rw [LS.out, List.length_append, List.map_append, rnL_length]
            exact hown')
          clear hown' hgrow hor p1 p2
          go_wp2_with fail
          go_roundw
          case rel => exact ⟨k + 1, t + 1, h, by have := V3.out; omega, by go_num, by go_num, hs.out, HO.out, HB.out⟩
          case measure => simp [intOf]; omega
        · have hlh2 : h - t ≤ l := by omega
          have hlh' : (h : Int) - (t : Int) ≤ (l : Int) := by omega
          clear hhn hlh
          have hs := rn_head ST.out hhn2 hlh2
          have LS := Lib.hid (rnL_succ hs)
          have hs := Lib.hid hs
          have hle : t ≤ (h + 1) ∧ (h + 1) ≤ n := by omega
          have A0 := M0.out t (by omega)
          have A1 := M1.out ((h + 1) - t) (by omega)
          have A2 := M0.out (n - (h + 1)) (by omega)
          have PI := parts_is hle.1 hle.2
          have e1 : (((h + 1) - t : Nat) : Int) = ((h : Int) + 1) - t := by omega
          have e2 : ((n - (h + 1) : Nat) : Int) = (n : Int) - ((h : Int) + 1) := by omega
          rw [e1] at A1
          rw [e2] at A2
          have z1 := zs_size t
          have z2 := os_size ((h + 1) - t)
          have z3 := zs_size (n - (h + 1))
          obtain ⟨X, hX⟩ : ∃ X, X = zs t := ⟨_, rfl⟩
          obtain ⟨Y, hY⟩ : ∃ Y, Y = os ((h + 1) - t) := ⟨_, rfl⟩
          obtain ⟨Z, hZ⟩ : ∃ Z, Z = zs (n - (h + 1)) := ⟨_, rfl⟩
          obtain ⟨V, hV⟩ : ∃ V, V = X ++ Y := ⟨_, rfl⟩
          have A0 : ∀ w : World, Calls Tryd.prog 39 #[.string ⟨#[48]⟩, .int .i64 t] w fun e w' => e = .returned (.string X) ∧ w = w' := hX ▸ A0
          have A1 : ∀ w : World, Calls Tryd.prog 39 #[.string ⟨#[49]⟩, .int .i64 (((h : Int) + 1) - t)] w fun e w' => e = .returned (.string Y) ∧ w = w' := hY ▸ A1
          have A2 : ∀ w : World, Calls Tryd.prog 39 #[.string ⟨#[48]⟩, .int .i64 ((n : Int) - ((h : Int) + 1))] w fun e w' => e = .returned (.string Z) ∧ w = w' := hZ ▸ A2
          rw [← hX] at z1 PI
          rw [← hY] at z2 PI
          rw [← hZ] at z3 PI
          rw [← hV] at PI
          have hVs : V.size ≤ 16 := by rw [hV, ByteArray.size_append]; omega
          have p1 := cat_r X Y (by omega)
          have p2 := cat_r V Z (by omega)
          rw [← hV] at p1
          rw [PI] at p2
          have A0 := Lib.hid A0
          have A1 := Lib.hid A1
          have A2 := Lib.hid A2
          clear hX hY hZ hV PI e1 e2 z1 z2 z3 hVs hle
          go_wp2_with (first
            | (go_at_call 39; with_reducible refine (A1.out _).mono ?_; rintro e w4 ⟨rfl, rfl⟩)
            | (go_at_call 39; with_reducible refine (A0.out _).mono ?_; rintro e w4 ⟨rfl, rfl⟩)
            | (go_at_call 39; with_reducible refine (A2.out _).mono ?_; rintro e w4 ⟨rfl, rfl⟩)
            | (at_builtin; refine wpList_append_own _ rfl _ _ 23 rfl w.heap.size 9 i0 (.string ⟨#[]⟩) 1 16 Tryd.underlying23 hi hz0 hz1 hz2 rfl (by decide) _ _ _ rfl (hor.alloc _) ⟨wr.heap.size, 0, none⟩ 1 1 [.string (trS n (sg t (h + 1)))] rfl rfl ?c1 ?c2 ?c3 ?c4 ?c5 ?_))
          case c1 => exact str_new _ _
          case c2 => intro u hu; simp at hu; subst hu; rfl
          case c3 => simp only [maxLen]; omega
          case c4 => omega
          case c5 => simp; omega
          intro v' w6 hown' hgrow _
          have HB := Lib.hid ((BB.out.alloc BB.out.size _).grown hgrow (by simp; omega) (fun g hg => (World.ownsRow.lt hor g hg).1))
          have HO := Lib.hid (show OwnS w6 w.heap.size v' (rnL n l (k + 1 + 1)) by
            unfold OwnS
            rw [LS.out, List.length_append, List.map_append, rnL_length]
            exact hown')
          clear hown' hgrow hor p1 p2
          go_wp2_with fail
          go_roundw
          case rel => exact ⟨k + 1, t, h + 1, by have := V3.out; omega, by go_num, by go_num, hs.out, HO.out, HB.out⟩
          case measure => simp [intOf]; omega
    · have e : k = 2 * n := by have := V3.out; omega
      have E2 := Lib.hid (show OwnS wr w.heap.size _ (rnL n l (2 * n + 1)) from e ▸ OW.out)
      have htn : (n : Int) ≤ (t : Int) := by omega
      clear e hlt hor
      go_wp2_with fail
      go_ret2
      exact ⟨_, by rw [E.out.2]; rfl, by rw [E.out.1]; exact E2.out, BB.out⟩

end Go.Proofs.YtilkphehonilbaaDoor
