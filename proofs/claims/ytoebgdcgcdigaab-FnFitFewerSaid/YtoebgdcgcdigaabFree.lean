/-
  The least time from which a section is free, by the program.
-/
import Derived.Test.YtoebgdcgcdigaabFree0
import Derived.Test.YtoebgdcgcdigaabPathP
import Derived.Deep.RegionLaw
namespace Go.Proofs.Ytoebgdcgcdigaab
open Go.RowKit Go.Sort

set_option maxHeartbeats 1000000 in
theorem meetsC {w : World} {n t r : Int} {k bk bi br : Nat} {v : Value} {p : List Int × List Int} (h : PathV w v p) (hb : pathB n p = true) (hk : k < p.1.length) (ok : One w bk (.int .i64 k) 3) (oi : One w bi (.int .i64 t) 3) (or : One w br (.int .i64 r) 3) (htr : -9223372036854775808 ≤ t + r ∧ t + r ≤ 9223372036854775807) :
    Calls Try.prog 38 #[v, .pointer (some ⟨bk, 0, none⟩), .pointer (some ⟨bi, 0, none⟩), .pointer (some ⟨br, 0, none⟩)] w fun e w' => e = .returned (.bool (decide (p.1.getD k 0 < t + r ∧ t < p.2.getD k 0))) ∧ Below w.heap.size w w' := by
  obtain ⟨u1, u2, rfl, i1, i2⟩ := h
  have e1 := below_alloc w (.cells #[u1, u2] 32)
  have hat := PathV.boxed i1 i2 32
  obtain ⟨W, hW⟩ : ∃ X, X = w.alloc (.cells #[u1, u2] 32) := ⟨_, rfl⟩
  rw [← hW] at e1 hat
  have HW := Lib.hid hW.symm
  have k0 := (ok.below e1).cell
  have k1 := (oi.below e1).cell
  have k2 := (or.below e1).cell
  have hw : IntKind.i64.wrap (t + r) = t + r := IntWalk.i64_in _ htr
  have ME := Lib.hid (meets (x := t) (y := t + r) hat hb hk)
  obtain ⟨B, hB⟩ : ∃ B, B = decide (p.1.getD k 0 < t + r ∧ t < p.2.getD k 0) := ⟨_, rfl⟩
  rw [← hB] at ME ⊢
  clear hW hat i1 i2 ok oi or hb hk hB
  go_enter Try.func38, Try.ntmps38
  go_upto_region 1 with fail
  rw [HW.out]
  go_wp2_with (go_at_call 39; refine ME.out.mono ?_; rintro e w' ⟨rfl, rfl⟩)
  go_ret
  exact ⟨rfl, e1⟩

/-- What IndexFunc hands back: the number of a path that is met, or -1. -/
def Found (ps : List (List Int × List Int)) (k : Nat) (r t j : Int) : Prop := (j = -1 ∧ FreeAt ps k r t) ∨ ∃ i : Nat, i < ps.length ∧ j = i ∧ meetsAt ps k t r i

set_option maxHeartbeats 2000000 in
theorem index {w : World} {n t r : Int} {k bk bi br : Nat} {v : Value} {ps : List (List Int × List Int)} (h : Paths w v ps) (hp : pathsB n ps = true) (hk : (k : Int) < n) (ok : One w bk (.int .i64 k) 3) (oi : One w bi (.int .i64 t) 3) (or : One w br (.int .i64 r) 3) (htr : -9223372036854775808 ≤ t + r ∧ t + r ≤ 9223372036854775807) :
    Calls Try.prog 40 #[v, .func (.func 38) #[] #[.pointer (some ⟨bk, 0, none⟩), .pointer (some ⟨bi, 0, none⟩), .pointer (some ⟨br, 0, none⟩)]] w fun e w' => ∃ j, e = .returned (.int .i64 j) ∧ Found ps k r t j ∧ Below w.heap.size w w' := by
  have hh := h
  obtain ⟨a, cap, rfl, hl, -⟩ := h
  have HH := Lib.hid (fun (i : Nat) (hi : i < ps.length) => paths_at hh hi)
  have HP := Lib.hid hp
  have OK := Lib.hid ok
  have OI := Lib.hid oi
  have OR := Lib.hid or
  clear hh hp ok oi or
  go_enter Try.func40, Try.ntmps40
  go_wp2_with fail
  go_loopw [8] (fun i wr => ∃ i' : Nat, i' ≤ ps.length ∧ i = .int .i64 i' ∧ Hid (∀ j, j < i' → ¬ meetsAt ps k t r j) ∧ Below w.heap.size w wr) (fun i _ => ps.length - (intOf i).toNat)
  case atStart => exact ⟨0, by omega, rfl, fun j hj => by omega, Below.refl _ _⟩
  case round =>
    obtain ⟨i, hi, rfl, hno, hbel⟩ := hrel
    by_cases hlt : i < ps.length
    · obtain ⟨b, o, rfl, hb, hat⟩ := HH.out i hlt
      have hpi := (hat i hlt).below hbel
      obtain ⟨u1, u2, f1, f2, pv⟩ := hpi.pathV
      have hil : (i : Int) < (ps.length : Int) := by omega
      have MC := Lib.hid (meetsC (t := t) (r := r) pv (pathsB_at HP.out hlt) (sec_bounds HP.out hlt hk).1 (OK.out.below hbel) (OI.out.below hbel) (OR.out.below hbel) htr)
      obtain ⟨B, hB⟩ : ∃ B, B = decide ((ps.getD i noPath).1.getD k 0 < t + r ∧ t < (ps.getD i noPath).2.getD k 0) := ⟨_, rfl⟩
      rw [← hB] at MC
      cases B
      · have HN := Lib.hid (show ∀ j, j < i + 1 → ¬ meetsAt ps k t r j from fun j hj => by
          by_cases e : j = i
          · subst e; exact of_decide_eq_false hB.symm
          · exact hno.out j (by omega))
        clear hB pv hpi hat
        go_wp2_with (go_at_call 38; refine MC.out.mono ?_)
        rintro e w1 ⟨rfl, b1⟩
        have c1 := hbel.trans (b1.mono hbel.size)
        go_wp2_with fail
        go_roundw
        case rel => exact ⟨i + 1, by omega, by go_num, HN, c1⟩
        case measure => simp [intOf]; omega
      · have HY := Lib.hid (show Found ps k r t i from .inr ⟨i, hlt, rfl, of_decide_eq_true hB.symm⟩)
        clear hB pv hpi hat
        go_wp2_with (go_at_call 38; refine MC.out.mono ?_)
        rintro e w1 ⟨rfl, b1⟩
        have c1 := hbel.trans (b1.mono hbel.size)
        go_wp2_with fail
        go_ret
        exact ⟨_, rfl, HY.out, c1⟩
    · obtain rfl : i = ps.length := by omega
      have HF := Lib.hid (show Found ps k r t (-1) from .inl ⟨rfl, fun j hj => hno.out j hj⟩)
      go_wp2_with fail
      go_ret
      exact ⟨_, rfl, HF.out, hbel⟩

theorem One.set {w : World} {b : Nat} {x : Value} {t : TypeId} (h : One w b x t) (v : Value) : One (w.setCell ⟨b, 0, none⟩ v) b v t := by unfold One at h ⊢; simp [World.setCell, Array.getElem?_modify, h]

set_option maxHeartbeats 4000000 in
theorem implFree {w : World} {n k s r : Int} {v : Value} {ps : List (List Int × List Int)} (h : Paths w v ps) :
    Calls Try.prog 14 #[.int .i64 n, v, .int .i64 k, .int .i64 s, .int .i64 r] w fun e w' => ∃ x b, e = .returned (.tuple #[.int .i64 x, .bool b]) ∧ FreePost n ps k s r x b ∧ Below w.heap.size w w' := by
  obtain ⟨W, hW, pk, pr, hE⟩ := two_ones w (.int .i64 k) (.int .i64 r) 3
  have HW := Lib.hid hW
  have K0 := pk.cell
  have K1 := pr.cell
  have PK := Lib.hid pk
  have PR := Lib.hid pr
  have hh := h.below hE
  have HS := Lib.hid (hasSection (n := n) (k := k) hh)
  clear hW pk pr h
  cases hb : hasB n ps k
  · have HN := Lib.hid (freePost_no (freeB_has (s := s) (r := r) hb))
    rw [hb] at HS
    clear hb hh
    go_enter Try.func14, Try.ntmps14
    go_upto_region 1 with fail
    rw [HW.out]
    go_wp2_with fail
    refine HS.out.mono ?_
    rintro e w1 ⟨rfl, b1⟩
    go_wp2_with fail
    go_ret2
    exact ⟨_, _, rfl, HN.out, hE.trans (b1.mono hE.size)⟩
  rw [hb] at HS
  by_cases hr : 1 ≤ r ∧ r ≤ 100
  · by_cases h0 : 0 ≤ s
    · by_cases h2 : s ≤ 2000
      · have h2' : decide ((2000 : Int) < s) = false := by simp; omega
        have h0' : decide (s < 0) = false := by simp; omega
        have hrv := decide_eq_true hr
        obtain ⟨hpp, hk0, hkn⟩ := hasB_is hb
        have HB := Lib.hid hb
        obtain ⟨k, rfl⟩ : ∃ m : Nat, k = (m : Int) := ⟨k.toNat, by omega⟩
        have HP := Lib.hid hpp
        have HH := Lib.hid hh
        have HAT := Lib.hid (fun (i : Nat) (hi : i < ps.length) (a : Option Addr) (m cap : Nat) (e : v = .slice a m cap) => paths_at (e ▸ hh) hi)
        obtain ⟨a, cap, rfl, hl, -⟩ := hh
        have hr1 : 1 ≤ r := hr.1
        have hr2 : r ≤ 100 := hr.2
        clear hb hpp hr hk0
        go_enter Try.func14, Try.ntmps14
        go_upto_region 1 with fail
        rw [HW.out]
        go_wp2_with fail
        refine HS.out.mono ?_
        rintro e w1 ⟨rfl, b1⟩
        have k2 := (PR.out.below b1).cell
        go_wp2_with fail
        refine (runValid _ _).mono ?_
        rintro e w' ⟨rfl, rfl⟩
        rw [hrv]
        have pi := One.new w1 (.int .i64 s) 3
        have bi := below_alloc w1 (.cells #[.int .i64 s] 3)
        obtain ⟨w2, h2e⟩ : ∃ X, X = w1.alloc (.cells #[.int .i64 s] 3) := ⟨_, rfl⟩
        rw [← h2e] at pi bi
        have H2 := Lib.hid h2e.symm
        have pk1 := PK.out.below b1
        have pr1 := PR.out.below b1
        have B1 := Lib.hid b1
        have IX := Lib.hid (index (t := s) (HH.out.below (b1.trans (bi.mono b1.size))) HP.out hkn (pk1.below bi) pi (pr1.below bi) (by omega))
        have HH1 := Lib.hid (HH.out.below b1)
        have PK1 := Lib.hid pk1
        have PR1 := Lib.hid pr1
        have PI := Lib.hid pi
        have CC := Lib.hid (hE.trans (b1.mono hE.size))
        have sz1 := b1.size
        clear h2e pi pk1 pr1 b1 k2
        go_upto_region 4 with fail
        rw [H2.out]
        go_wp2_with (go_at_call 40; refine IX.out.mono ?_)
        rintro e w3 ⟨j, rfl, hj, b3⟩
        have c3 := bi.trans (b3.mono bi.size)
        have p3 := PI.out.below b3
        have J0 := Lib.hid hj
        clear hj bi b3
        go_wp2_with fail
        go_loopw [14] (fun x wr => ∃ j t, x = .int .i64 j ∧ One wr w1.heap.size (.int .i64 t) 3 ∧ s ≤ t ∧ t ≤ 2000 ∧ Hid (Taken ps k r s t) ∧ Hid (Found ps k r t j) ∧ Below w1.heap.size w1 wr) (fun _ wr => (2001 - intOf ((wr.cell? ⟨w1.heap.size, 0, none⟩).getD undef)).toNat)
        case atStart => exact ⟨j, s, rfl, p3, by omega, h2, Taken.none _ _ _ _, J0, c3⟩
        case round =>
          obtain ⟨j, t, rfl, ht, hs1, ht2, HT, HJ, hbel⟩ := hrel
          have k0 := (PK1.out.below hbel).cell
          have k1 := (PR1.out.below hbel).cell
          have k3 := ht.cell
          have f3 := ht.frozen 0
          rcases HJ.out with ⟨rfl, hfree⟩ | ⟨i, hi, rfl, hm⟩
          · have HT2 := Lib.hid (freeT_is hfree hs1 (by omega) HT.out)
            have hw : IntKind.i64.wrap (t + r) = t + r := IntWalk.i64_in _ (by omega)
            have C := Lib.hid (CC.out.trans (hbel.mono CC.out.size))
            by_cases h3 : t + r ≤ 2000
            · have HN := Lib.hid (show FreePost n ps (k : Int) s r t true by
                have q := freePost_yes (freeB_yes (r := r) (s := s) HB.out ⟨⟨hr1, hr2⟩, h0, h2⟩ (by rw [Int.toNat_natCast, HT2.out]; exact h3))
                rw [Int.toNat_natCast, HT2.out] at q
                exact q)
              have h3' : decide ((2000 : Int) < t + r) = false := by simp; omega
              clear hfree
              go_wp2_with fail
              go_ret2
              exact ⟨_, _, rfl, HN.out, C.out⟩
            · have HN := Lib.hid (freePost_no (freeB_late (n := n) (k := (k : Int)) (s := s) (r := r) (ps := ps) (by rw [Int.toNat_natCast, HT2.out]; exact h3)))
              have h3' : decide ((2000 : Int) < t + r) = true := decide_eq_true (by omega)
              clear h3 hfree
              go_wp2_with fail
              go_ret2
              exact ⟨_, _, rfl, HN.out, C.out⟩
          · obtain ⟨b, o, rfl, hbb, hat⟩ := HAT.out i hi a ps.length cap rfl
            have hpi := ((hat i hi).below B1.out).below hbel
            obtain ⟨b1', o1, k1', b2, o2, k2, c1, c2, -, hb1, hb2, d1, d2⟩ := hpi.cells (pathsB_at HP.out hi)
            obtain ⟨q1, q2, q3, q4, q5⟩ := sec_bounds HP.out hi hkn
            have f2 := d2 k q2
            obtain ⟨y, hy⟩ : ∃ y, y = (ps.getD i noPath).2.getD k 0 := ⟨_, rfl⟩
            rw [← hy] at f2 q5
            have hty : t < y := by have := hm.2; unfold outAt at this; rw [hy]; exact this
            have TK := Lib.hid (show Taken ps k r s y by rw [hy]; exact HT.out.on hi hm)
            generalize (ps.getD i noPath).2.length = l2 at c2 q2
            have hkl2 : (k : Int) < (l2 : Int) := by omega
            have hil : (i : Int) < (ps.length : Int) := by omega
            have hX := Lib.hid (show Below w1.heap.size w1 (wr.setCell ⟨w1.heap.size, 0, none⟩ (.int .i64 y)).drew from (hbel.setCell (Nat.le_refl _) _).drew)
            have oX := Lib.hid (show One (wr.setCell ⟨w1.heap.size, 0, none⟩ (.int .i64 y)).drew w1.heap.size (.int .i64 y) 3 from ht.set _)
            have IX2 := Lib.hid (index (t := y) (HH1.out.below hX.out) HP.out hkn (PK1.out.below hX.out) oX.out (PR1.out.below hX.out) (by omega))
            have K3 := Lib.hid k3
            clear hat hpi c1 d1 d2 hy hm q1 q3 q4
            go_upto_region 8 with fail
            go_region_law (fail)
            all_goals (
              go_wp2_with (go_at_call 40; refine IX2.out.mono ?_)
              rintro e w4 ⟨j', rfl, hj', b4⟩
              have c4 := hX.out.trans (b4.mono hX.out.size)
              have p4 := oX.out.below b4
              have P4 := Lib.hid p4.cell
              have J4 := Lib.hid hj'
              have PP4 := Lib.hid p4
              clear hj' b4 k0 k1 k3 f3 f2 c2 p4
              go_wp2_with fail
              go_roundw
              case rel => exact ⟨j', y, rfl, PP4.out, by omega, q5, TK, J4, c4⟩
              case measure => simp [intOf, P4.out, K3.out]; omega)
      · have HN := Lib.hid (freePost_no (freeB_args (n := n) (k := k) (s := s) (r := r) (ps := ps) (fun q => h2 q.2.2)))
        have h2' : decide ((2000 : Int) < s) = true := decide_eq_true (by omega)
        have h0' : decide (s < 0) = false := by simp; omega
        have hrv := decide_eq_true hr
        clear hb hh h2
        go_enter Try.func14, Try.ntmps14
        go_upto_region 1 with fail
        rw [HW.out]
        go_wp2_with fail
        refine HS.out.mono ?_
        rintro e w1 ⟨rfl, b1⟩
        have k2 := (PR.out.below b1).cell
        go_wp2_with fail
        refine (runValid _ _).mono ?_
        rintro e w' ⟨rfl, rfl⟩
        rw [hrv]
        go_wp2_with fail
        go_ret2
        exact ⟨_, _, rfl, HN.out, hE.trans (b1.mono hE.size)⟩
    · have HN := Lib.hid (freePost_no (freeB_args (n := n) (k := k) (s := s) (r := r) (ps := ps) (fun q => h0 q.2.1)))
      have h0' : decide (s < 0) = true := decide_eq_true (by omega)
      have hrv := decide_eq_true hr
      clear hb hh h0
      go_enter Try.func14, Try.ntmps14
      go_upto_region 1 with fail
      rw [HW.out]
      go_wp2_with fail
      refine HS.out.mono ?_
      rintro e w1 ⟨rfl, b1⟩
      have k2 := (PR.out.below b1).cell
      go_wp2_with fail
      refine (runValid _ _).mono ?_
      rintro e w' ⟨rfl, rfl⟩
      rw [hrv]
      go_wp2_with fail
      go_ret2
      exact ⟨_, _, rfl, HN.out, hE.trans (b1.mono hE.size)⟩
  · have HN := Lib.hid (freePost_no (freeB_args (n := n) (k := k) (s := s) (r := r) (ps := ps) (fun q => hr q.1)))
    have hrv := decide_eq_false hr
    clear hb hh hr
    go_enter Try.func14, Try.ntmps14
    go_upto_region 1 with fail
    rw [HW.out]
    go_wp2_with fail
    refine HS.out.mono ?_
    rintro e w1 ⟨rfl, b1⟩
    have k2 := (PR.out.below b1).cell
    go_wp2_with fail
    refine (runValid _ _).mono ?_
    rintro e w' ⟨rfl, rfl⟩
    rw [hrv]
    go_wp2_with fail
    go_ret2
    exact ⟨_, _, rfl, HN.out, hE.trans (b1.mono hE.size)⟩

end Go.Proofs.Ytoebgdcgcdigaab
