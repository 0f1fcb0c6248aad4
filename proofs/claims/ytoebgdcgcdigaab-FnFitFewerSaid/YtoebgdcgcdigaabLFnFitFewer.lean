/-
  For every input the law 'FnFitFewer' returns true, and each of its arguments reads behind the call as it read before. Conditions: none beyond those of the row.
-/
import Derived.Test.YtoebgdcgcdigaabRows
import Derived.WalkKit
import Derived.ProofKit
import Derived.OpenShut
import Derived.ShutString
import Derived.ChangeOld
import Derived.Below
import Derived.Deep.Matrix
import Derived.Test.YtoebgdcgcdigaabIo
import Derived.Test.YtoebgdcgcdigaabDrawV
import Derived.Test.YtoebgdcgcdigaabFreeQ
import Derived.Test.YtoebgdcgcdigaabFitS
import Derived.Test.YtoebgdcgcdigaabFit
import Derived.Test.YtoebgdcgcdigaabGap
import Derived.Test.YtoebgdcgcdigaabSubQ
import Derived.Test.YtoebgdcgcdigaabAddI
import Derived.Test.YtoebgdcgcdigaabAdd
import Derived.Test.YtoebgdcgcdigaabStepB
import Derived.Deep.RegionLaw
import Derived.Test.YtoebgdcgcdigaabDrawS
import Derived.Test.YtoebgdcgcdigaabLateQ
import Derived.Lib.QuietBelow
import Derived.BigRegion
import Derived.BigQuiet
import Derived.Deep.RegionWith
namespace Go.Proofs.Ytoebgdcgcdigaab
open Go.RowKit

open Go.Sort

/-- What the law reads of a fitted path. -/
theorem fit_facts {n : Nat} {s : Int} {ps : List (List Int × List Int)} {rs : List Int} (h : fitB (n : Int) ps s rs = true) :
    rs.length = n ∧ pathsB (n : Int) ps = true ∧ pathB (n : Int) (fitV (n : Int) ps s rs) = true ∧ (fitV (n : Int) ps s rs).1.length = n ∧ (fitV (n : Int) ps s rs).2.length = n ∧ (0 ≤ s ∧ s ≤ 2000) ∧
      (∀ k, k < n → freeB (n : Int) ps k (fitTo (n : Int) ps s rs k) (rs.getD k 0) = true ∧ freeV (n : Int) ps k (fitTo (n : Int) ps s rs k) (rs.getD k 0) = (fitV (n : Int) ps s rs).1.getD k 0 ∧
        (fitV (n : Int) ps s rs).2.getD k 0 = (fitV (n : Int) ps s rs).1.getD k 0 + rs.getD k 0 ∧ fitTo (n : Int) ps s rs (k + 1) = (fitV (n : Int) ps s rs).2.getD k 0 ∧
        (0 ≤ (fitV (n : Int) ps s rs).1.getD k 0 ∧ (fitV (n : Int) ps s rs).1.getD k 0 ≤ 2000) ∧ 1 ≤ rs.getD k 0 ∧ rs.getD k 0 ≤ 100) ∧
      ∀ i, i < ps.length → clashOf (n : Int) (ps.getD i noPath) (fitV (n : Int) ps s rs) = [] := by
  obtain ⟨h1, h2, h3⟩ := fitB_is h
  have hl : rs.length = n := by omega
  have hp := (hasB_is (freeB_is (h3 0 (by omega))).1).1
  have hpb : pathB (n : Int) (fitV (n : Int) ps s rs) = true := by rw [fitV_yes h]; exact fit_path h
  have hi := pathB_is hpb
  refine ⟨hl, hp, hpb, by have := hi.2.1; omega, by have := hi.2.2.1; omega, ?_, fun k hk => ?_, fun i hi => ?_⟩
  · have := (freeB_args2 (h3 0 (by omega))).1
    exact this
  · obtain ⟨a1, a2, a3, a4⟩ := fit_at h (show k < rs.length by omega)
    have bd := hi.2.2.2.bounds (j := k) (by have := hi.2.1; omega)
    have g := freeB_is a1
    exact ⟨a1, a2, a3, a4, ⟨by omega, by omega⟩, g.2.1⟩
  · rw [fitV_yes h]
    have q := fit_apart h hi
    have cs : clashOf (n : Int) (ps.getD i noPath) (fitPath (n : Int) ps s rs rs.length) = clashOf (n : Int) (fitPath (n : Int) ps s rs rs.length) (ps.getD i noPath) := clashOf_sym _ _ _
    rw [cs]
    exact q

theorem le_five {n : Nat} (h : n ≤ 5) : n ≤ 1048576 := by omega
theorem later_wraps {s m : Int} (hs : 0 ≤ s ∧ s ≤ 2000) (hm : 0 ≤ m ∧ m ≤ 8) : wrap64 m = m ∧ wrap64 (s + 1) = s + 1 ∧ wrap64 (s + 1 + m) = s + 1 + m :=
  ⟨IntWalk.wrap64_in _ (by omega), IntWalk.wrap64_in _ (by omega), IntWalk.wrap64_in _ (by omega)⟩

theorem five_len {n : Int} {ps : List (List Int × List Int)} (h : pathsB n ps = true) : ∀ i, i < ps.length → (ps.getD i noPath).1.length ≤ 1048576 ∧ (ps.getD i noPath).2.length ≤ 1048576 := fun i hi => by
  have q := pathB_is (pathsB_at h hi)
  have := q.1; have := q.2.1; have := q.2.2.1
  omega
theorem old_part {w w' : World} {base b b' : Nat} {u : Value} {xs : List Int} (h : Part w base b u xs) (hb : Below w.heap.size w w') (hle : w.heap.size ≤ b') : Part w' base b' u xs := by
  refine ⟨h.1.below hb, ?_⟩
  by_cases h0 : xs = []
  · exact .inl h0
  · exact .inr fun q e => ⟨(h.2.resolve_left h0 q e).1, by have := part_lt h.1 h0 q e; omega⟩

/-- The values of a part of such a list, as they lie. -/
theorem news_at {w X : World} {base b c : Nat} {vs : List Value} {ps : List (List Int × List Int)} (h : LQ w base b c vs ps) (hb : Below w.heap.size w X) (d : Nat) : ∀ j u, (vs.drop d)[j]? = some u → X.cell? ((⟨b, d, none⟩ : Addr).add j) = some u := by
  intro j u hu
  rw [List.getElem?_drop] at hu
  have q := h.cell hu
  rw [Addr.add_lit, Nat.zero_add] at q
  rw [Addr.add_lit]
  exact (hb.cell (p := ⟨b, d + j, none⟩) h.lt.2).trans q
theorem take_news {w X : World} {base b c : Nat} {vs : List Value} {ps : List (List Int × List Int)} (h : LQ w base b c vs ps) (hb : Below w.heap.size w X) {m : Nat} (hm : m ≤ ps.length) : (vs.take (m * 2)).length = m * 2 ∧ ∀ j u, (vs.take (m * 2))[j]? = some u → X.cell? ((⟨b, 0, none⟩ : Addr).add j) = some u := by
  have hl := h.len
  refine ⟨by rw [List.length_take]; omega, fun j u hu => ?_⟩
  rw [List.getElem?_take] at hu
  split at hu
  · exact news_at h hb 0 j u (by rw [List.drop_zero]; exact hu)
  · cases hu
theorem drop_news {w X : World} {base b c : Nat} {vs : List Value} {ps : List (List Int × List Int)} (h : LQ w base b c vs ps) (hb : Below w.heap.size w X) {m : Nat} (hm : m + 1 ≤ ps.length) {ad : Addr} (had : (if c = m + 1 then some (⟨b, 0, none⟩ : Addr) else some ⟨b, (m + 1) * 2, none⟩) = some ad) : (vs.drop ((m + 1) * 2)).length = (ps.length - (m + 1)) * 2 ∧ ∀ j u, (vs.drop ((m + 1) * 2))[j]? = some u → X.cell? (ad.add j) = some u := by
  have hl := h.len
  have hc := h.cap
  refine ⟨by rw [List.length_drop]; omega, fun j u hu => ?_⟩
  have hj := (List.getElem?_eq_some_iff.1 hu).1
  rw [List.length_drop] at hj
  by_cases e : c = m + 1
  · omega
  · rw [if_neg e] at had
    simp only [Option.some.injEq] at had
    subst had
    exact news_at h hb _ j u hu
theorem but_lq {w X : World} {base b c b' c' m R : Nat} {vs : List Value} {ps : List (List Int × List Int)} (h : LQ w base b c vs ps) (hb : Below w.heap.size w X) (hm : m < ps.length) (ho : X.ownsRow base 32 2 (.slice (some ⟨b', 0, none⟩) R c') R (vs.take (m * 2) ++ vs.drop ((m + 1) * 2))) (hR : R = (ps.take m ++ ps.drop (m + 1)).length) (hle : w.heap.size ≤ b') :
    LQ X base b' c' (vs.take (m * 2) ++ vs.drop ((m + 1) * 2)) (ps.take m ++ ps.drop (m + 1)) := by
  have hl := h.len
  have ht : (vs.take (m * 2)).length = m * 2 := by rw [List.length_take]; omega
  have hbl := but_len hm
  refine ⟨by rw [← hR]; exact ho, fun i hi => ?_⟩
  rw [but_getD hm (by omega)]
  have at1 : ∀ q, (vs.take (m * 2) ++ vs.drop ((m + 1) * 2)).getD q undef = vs.getD (if q < m * 2 then q else q + 2) undef := by
    intro q
    rw [List.getD_eq_getElem?_getD, List.getD_eq_getElem?_getD]
    by_cases e : q < m * 2
    · rw [if_pos e, List.getElem?_append_left (by omega), List.getElem?_take, if_pos e]
    · rw [if_neg e, List.getElem?_append_right (by omega), List.getElem?_drop, ht, show (m + 1) * 2 + (q - m * 2) = q + 2 by omega]
  rw [at1, at1]
  by_cases e : i < m
  · rw [if_pos (show i * 2 < m * 2 by omega), if_pos (show i * 2 + 1 < m * 2 by omega), if_pos e]
    have q := h.2 i (by omega)
    exact ⟨old_part q.1 hb hle, old_part q.2 hb hle⟩
  · rw [if_neg (show ¬ i * 2 < m * 2 by omega), if_neg (show ¬ i * 2 + 1 < m * 2 by omega), if_neg e]
    have q := h.2 (i + 1) (by omega)
    rw [show (i + 1) * 2 = i * 2 + 2 by omega, show i * 2 + 2 + 1 = i * 2 + 1 + 2 by omega] at q
    exact ⟨old_part q.1 hb hle, old_part q.2 hb hle⟩
theorem vals_one {w : World} {base b c : Nat} {vs : List Value} {ps : List (List Int × List Int)} (h : LQ w base b c vs ps) : ∀ u, u ∈ vs → u.oneCell' = true := h.one
theorem small_len {m : Nat} (h : m ≤ 9) : 0 + m ≤ maxLen := by simp only [maxLen]; omega
theorem small_bytes {m : Nat} (h : m ≤ 9) : (0 + m) * 48 ≤ 140737488355328 := by omega
theorem small_len2 {m n : Nat} (h : m ≤ 9) (hn : n ≤ 9) : 0 + m + (n - (m + 1)) ≤ maxLen := by simp only [maxLen]; omega
theorem small_bytes2 {m n : Nat} (h : m ≤ 9) (hn : n ≤ 9) : (0 + m + (n - (m + 1))) * 48 ≤ 140737488355328 := by omega
theorem own_at {w w' : World} {base E size n N : Nat} {v : Value} {ys : List Value} (h : w'.ownsRow base E size v n ys) (hat : v.ownBlock = (Value.slice (some ⟨N, 0, none⟩) 0 0).ownBlock ∨ v.ownBlock = some w.heap.size) : ∃ b c, v = .slice (some ⟨b, 0, none⟩) n c ∧ (b = N ∨ b = w.heap.size) := by
  rcases hat with e | e
  · obtain ⟨c, rfl⟩ := row_shape h (b := N) e
    exact ⟨N, c, rfl, .inl rfl⟩
  · obtain ⟨c, rfl⟩ := row_shape h e
    exact ⟨_, c, rfl, .inr rfl⟩

set_option maxRecDepth 100000 in
set_option maxHeartbeats 8000000 in
theorem walk_FnFitFewer (a0 : Option Addr) (len0 cap0 : Nat) (z0 : List Int) (a1 : Option Addr) (len1 cap1 : Nat) (z1 : List Int) (w : World) (w0 : IsRowK .u8 w a0 len0 cap0 z0) (w1 : IsRowK .u8 w a1 len1 cap1 z1) :
    Calls Try.prog 6 #[.slice a0 len0 cap0, .slice a1 len1 cap1] w fun e w' => e = .returned (.bool true) ∧ Below w.heap.size w w' := by
  rcases Nat.lt_or_ge 1048576 len0 with hbig | hsm
  · have hb : (1048576 : Int) < (len0 : Int) := by omega
    go_enter Try.func6, Try.ntmps6
    go_wp2_with fail
    go_ret
    exact ⟨rfl, Below.refl _ _⟩
  have hb : (len0 : Int) ≤ 1048576 := by omega
  rcases Nat.lt_or_ge 1048576 len1 with hbig | hsm1
  · have hb1 : (1048576 : Int) < (len1 : Int) := by omega
    go_enter Try.func6, Try.ntmps6
    go_wp2_with fail
    go_ret
    exact ⟨rfl, Below.refl _ _⟩
  have hb1 : (len1 : Int) ≤ 1048576 := by omega
  have DS := Lib.hid (drawFit w0 hsm)
  clear w0 w1
  go_enter Try.func6, Try.ntmps6
  go_wp2_with (go_at_call 16; refine DS.out.mono ?_)
  rintro e w1 ⟨n, b, c, vs, ps, s, v, rs, rfl, hn1, hn4, hpl, hs, hv, lq, b1⟩
  have hpp := lq.paths (by omega)
  have GI := Lib.hid (fun (X : World) (hX : Below w1.heap.size w1 X) (s : Int) => implFit (n := (n : Int)) (s := s) (hpp.below hX) (hv.below hX))
  have GS := Lib.hid (fun (X : World) (hX : Below w1.heap.size w1 X) => specFit (n := (n : Int)) (s := s) (hpp.below hX) (hv.below hX))
  have GA := Lib.hid (fun (X : World) (hX : Below w1.heap.size w1 X) => implAdd (n := (n : Int)) (s := s) (hpp.below hX) (hv.below hX))
  have HLQ := Lib.hid lq
  have HVV := Lib.hid hv
  have hszw := b1.size
  have HP := Lib.hid hpp
  have B1 := Lib.hid b1
  have fl := fitV_len (n : Int) ps s rs
  obtain ⟨av, cv, rfl, ⟨hrl1, hrl2⟩, hrc⟩ := hv
  have HRC := Lib.hid hrc
  clear hpp lq DS b1 hrc
  go_wp2_with (go_at_call 17; refine (GI.out _ (Below.refl _ _) s).mono ?_)
  rintro e w2 ⟨v2, rfl, o2, b2⟩
  obtain ⟨a2, m2, c2, e2, n2, d2, rfl⟩ := o2.form
  have q2 := below_alloc w2 (.cells #[.slice a2 m2 c2, .slice e2 n2 d2] 32)
  have p2 := Pair.new w2 (.slice a2 m2 c2) (.slice e2 n2 d2) 32
  obtain ⟨w3, h3⟩ : ∃ X, X = w2.alloc (.cells #[.slice a2 m2 c2, .slice e2 n2 d2] 32) := ⟨_, rfl⟩
  rw [← h3] at q2 p2
  have H3 := Lib.hid h3.symm
  have C3 := Lib.hid (b2.trans (q2.mono b2.size))
  have V2 := Lib.hid ((o2.pathV (by omega) (by omega)).below q2)
  have P2 := Lib.hid p2
  clear h3 q2 p2 o2 b2
  go_upto_region 5 with fail
  rw [H3.out]
  go_wp2_with (go_at_call 18; refine (GS.out _ C3.out).mono ?_)
  rintro e w4 ⟨v4, rfl, o4, b4⟩
  obtain ⟨a4, m4, c4, e4, n4, d4, rfl⟩ := o4.form
  have q4 := below_alloc w4 (.cells #[.slice a4 m4 c4, .slice e4 n4 d4] 32)
  have p4 := Pair.new w4 (.slice a4 m4 c4) (.slice e4 n4 d4) 32
  obtain ⟨w5, h5⟩ : ∃ X, X = w4.alloc (.cells #[.slice a4 m4 c4, .slice e4 n4 d4] 32) := ⟨_, rfl⟩
  rw [← h5] at q4 p4
  have H5 := Lib.hid h5.symm
  have b5 := b4.trans (q4.mono b4.size)
  have C5 := Lib.hid (C3.out.trans (b5.mono C3.out.size))
  have V2 := Lib.hid (V2.out.below b5)
  have P2 := Lib.hid (P2.out.below b5)
  have P4 := Lib.hid p4
  have SP := samePath V2.out ((o4.pathV (by omega) (by omega)).below q4)
  rw [decide_eq_true rfl] at SP
  have SP := Lib.hid (fun (X : World) (hX : Below w5.heap.size w5 X) => samePath (V2.out.below hX) (((o4.pathV (by omega) (by omega)).below q4).below hX))
  clear h5 q4 p4 o4 b4 b5 GS
  go_upto_region 6 with fail
  rw [H5.out]
  have k1 := P2.out.cell0
  have k2 := P2.out.cell1
  have k3 := P4.out.cell0
  have k4 := P4.out.cell1
  obtain ⟨t, ht⟩ : ∃ t, t = fitB (n : Int) ps s rs := ⟨_, rfl⟩
  have HT := Lib.hid ht
  rw [← ht]
  clear ht
  go_wp2_with (go_at_call 19; refine (SP.out _ (Below.refl _ _)).mono ?_)
  rintro e w6 ⟨rfl, b6⟩
  have C6 := Lib.hid (C5.out.trans (b6.mono C5.out.size))
  have B6 := Lib.hid b6
  clear b6 k1 k2 k3 k4
  have k1 := (P2.out.below B6.out).cell0
  have k2 := (P2.out.below B6.out).cell1
  have k3 := (P4.out.below B6.out).cell0
  have k4 := (P4.out.below B6.out).cell1
  cases t
  · go_wp2_with (go_at_call 19; refine (SP.out _ B6.out).mono ?_)
    rintro e w7 ⟨rfl, b7⟩
    have CE := Lib.hid (B1.out.trans ((C6.out.trans (b7.mono C6.out.size)).mono B1.out.size))
    clear b7
    go_wp2_with fail
    go_ret
    exact ⟨rfl, CE.out⟩
  obtain ⟨hrs, hpb, hfp, hf1, hf2, hss, hfa, hcl⟩ := fit_facts HT.out.symm
  have hft : fitB (n : Int) ps s rs = true := HT.out.symm
  have hadd : addB (n : Int) ps s rs = decide (ps.length < 8) := by unfold addB; rw [hft]; rfl
  have hfv := fitV_yes hft
  have hap := add_paths hft
  have FEW := Lib.hid (fun (m : Nat) (hm : m < ps.length) => fit_fewer hft (pathsB_but hpb hm) hss.1 (Int.le_refl _) (fun i hi => ⟨if i < m then i else i + 1, by rw [but_len hm] at hi; split <;> omega, but_getD hm (by rw [but_len hm] at hi; omega)⟩))
  have ADV := Lib.hid (fun h => (addV_yes (n := (n : Int)) (ps := ps) (s := s) (rs := rs) h))
  have FQ := Lib.hid (fun (m : Nat) (hm : m < ps.length) => fun h => fit_facts (n := n) (s := s) (ps := ps.take m ++ ps.drop (m + 1)) (rs := rs) h)
  have V6 := Lib.hid (V2.out.below B6.out)
  have P6 := Lib.hid (P2.out.below B6.out)
  obtain ⟨P, hP⟩ : ∃ P, P = fitV (n : Int) ps s rs := ⟨_, rfl⟩
  rw [← hP] at hfp hf1 hf2 hfa hcl V6 FEW hfv
  rw [← hfv] at hap ADV
  obtain ⟨g1, o1, l1, g2, o2, l2, ev, hg1, hg2, hc1, hc2⟩ := V6.out.cells hfp
  simp only [Value.agg.injEq, Array.mk.injEq, List.cons.injEq, Value.slice.injEq, and_true] at ev
  obtain ⟨⟨rfl, rfl, rfl⟩, rfl, rfl, rfl⟩ := ev
  rw [hf1] at P6 V6 hc1 k1
  rw [hf2] at P6 V6 hc2 k2
  have HC1 := Lib.hid hc1
  have HC2 := Lib.hid hc2
  have FA := Lib.hid hfa
  have CL := Lib.hid hcl
  have FP := Lib.hid hfp
  have PB := Lib.hid hpb
  have HRS := Lib.hid hrs
  have HAT := Lib.hid (fun (i : Nat) (hi : i < ps.length) => paths_at HP.out hi)
  have hr0 : rs ≠ [] := fun e => by rw [e] at hrs; simp only [List.length_nil] at hrs; omega
  obtain ⟨rb, ro, rfl, hrb, hrcell⟩ := HRC.out.resolve_left hr0
  rw [hrs] at hrcell
  have RC := Lib.hid hrcell
  have hn1i : (1 : Int) ≤ (n : Int) := by omega
  rw [hrs]
  clear hfa hcl hfp hpb hrs hr0 hrcell hP fl hc1 hc2 k3 k4 HRC H3 H5 HT hft
  have GA6 := GA.out _ C6.out
  rw [HRS.out] at GA6
  have hszs : w.heap.size ≤ w6.heap.size := Nat.le_trans hszw C6.out.size
  clear hszw
  rcases Nat.lt_or_ge ps.length 8 with h8 | h8
  case' inl =>
    rw [decide_eq_true h8] at hadd hap
    rw [ADV.out hadd, hadd] at GA6
    have hlq : (ps ++ [P]).length ≤ 1048576 := by rw [List.length_append]; simp only [List.length_cons, List.length_nil]; omega
    have GA6 := Lib.hid GA6
    have HLL := Lib.hid (five_len hap)
    have HLQ2 := Lib.hid hlq
    clear hadd hap hfv hlq
    go_wp2_with (go_at_call 22; refine GA6.out.mono ?_)
    rintro e w7 ⟨v7, rfl, o7, b7⟩
    obtain ⟨a7, c7, rfl⟩ := o7.shape
    have P7 := o7.paths HLQ2.out HLL.out
    obtain ⟨b7', o7', rfl, hb7, hat7⟩ := paths_at P7 (i := ps.length) (by simp)
    obtain ⟨x7, y7, cx7, cy7, vx7⟩ := (hat7 ps.length (by simp)).pathV
    rw [add_last] at vx7
    have V7 := V6.out.below b7
    have SX := fun (d : Nat) (os : Array Obj) => Calls.regrown_of (samePath (vx7.below (below_regrown w7 d os)) (V7.below (below_regrown w7 d os)))
    rw [decide_eq_true rfl] at SX
    have SX := Lib.hid SX
    have k3 := (P6.out.below b7).cell0
    have k4 := (P6.out.below b7).cell1
    have z1 := fun d os => cell_regrown cx7 d os
    have z2 := fun d os => cell_regrown cy7 d os
    have z3 := fun d os => cell_regrown k3 d os
    have z4 := fun d os => cell_regrown k4 d os
    have hl1 : (ps.length : Int) < ((ps ++ [P]).length : Int) := by rw [List.length_append]; simp only [List.length_cons, List.length_nil]; omega
    have hl2 : ps.length < (ps ++ [P]).length := by omega
    have B7 := Lib.hid b7
    clear o7 P7 hat7 vx7 V7 b7 k1 k2 k3 k4
    go_wp2_with fail
    refine wp_region_quiet_below (by kernel_rfl) (by kernel_rfl) ?_
    repeat (go_big_quiet_step (with_reducible exact SX.out _ _))
    refine wpQuiet_nil ?_
    intro _ hw'
    obtain ⟨⟨dq, osq⟩, hw''⟩ := hw'
    subst hw''
    have B8 := Lib.hid (B7.out.trans ((below_regrown w7 dq osq).mono B7.out.size))
    obtain ⟨w8, hw8⟩ : ∃ X, X = grow (redrawn w7 dq) osq := ⟨_, rfl⟩
    rw [← hw8] at B8 ⊢
    clear z1 z2 z3 z4 hw8 SX hl1 hl2
  case' inr =>
    rw [decide_eq_false (by omega)] at hadd
    rw [hadd] at GA6
    have GA6 := Lib.hid GA6
    have h8d : decide ((ps.length : Int) < 8) = false := decide_eq_false (by omega)
    clear hadd hap hfv
    go_wp2_with (go_at_call 22; refine GA6.out.mono ?_)
    rintro e w7 ⟨v7, rfl, o7, b7⟩
    obtain ⟨a7, c7, rfl⟩ := o7.shape
    have B7 := Lib.hid b7
    clear o7 b7 k1 k2
    go_wp2_with fail
    refine wp_region_quiet_below (by kernel_rfl) (by kernel_rfl) ?_
    repeat (go_big_quiet_step (fail))
    refine wpQuiet_nil ?_
    intro _ hw'
    obtain ⟨⟨dq, osq⟩, hw''⟩ := hw'
    subst hw''
    have B8 := Lib.hid (B7.out.trans ((below_regrown w7 dq osq).mono B7.out.size))
    obtain ⟨w8, hw8⟩ : ∃ X, X = grow (redrawn w7 dq) osq := ⟨_, rfl⟩
    rw [← hw8] at B8 ⊢
    clear hw8
  all_goals
    have C8 := Lib.hid (C6.out.trans (B8.out.mono C6.out.size))
    have CE := Lib.hid (B1.out.trans (C8.out.mono B1.out.size))
    by_cases h0 : ps.length = 0
    · have h0d : ((ps.length : Int) == 0) = true := by rw [h0]; rfl
      go_wp2_with fail
      go_ret
      exact ⟨rfl, CE.out⟩
    have h0d : ((ps.length : Int) == 0) = false := by rw [beq_eq_false_iff_ne]; omega
    have h0n : ¬ (ps.length : Int) = 0 := by omega
    obtain ⟨m, hm⟩ : ∃ m, m = len1 % ps.length := ⟨_, rfl⟩
    have hmlt : m < ps.length := by rw [hm]; exact Nat.mod_lt _ (by omega)
    have hm1 : len1 % ps.length = m := hm.symm
    have hm2 : (len1 : Int) % (ps.length : Int) = (m : Int) := by rw [hm]; rfl
    clear hm
    go_upto_region 14 with fail
    rw [hm2]
    clear hm1 hm2
    obtain ⟨i0, hi, hz0, hz1, hz2⟩ := info_parts info_path
    have hcap := HLQ.out.cap
    have hmc : (m : Int) ≤ (c : Int) := by omega
    have hmc2 : m ≤ c := by omega
    have hml : (m : Int) < (ps.length : Int) := by omega
    have hm1l : ((m + 1 : Nat) : Int) ≤ (ps.length : Int) := by omega
    have hm1l2 : m + 1 ≤ ps.length := by omega
    have hm1c : ((m + 1 : Nat) : Int) ≤ (c : Int) := by omega
    have hlc : (ps.length : Int) ≤ (c : Int) := by omega
    have L0 := LQ.empty (w := w8) (base := w.heap.size) (Nat.le_trans hszs B8.out.size)
    have HOD := Lib.hid (show ((w8.alloc (.cells #[] 32)).drew).ownsRow w.heap.size 32 2 (.slice (some ⟨w8.heap.size, 0, none⟩) 0 0) 0 [] from L0.1.drew)
    have BD := Lib.hid (show Below w8.heap.size w8 (w8.alloc (.cells #[] 32)).drew from (below_alloc w8 _).drew)
    have SZ := Lib.hid (show w.heap.size ≤ ((w8.alloc (.cells #[] 32)).drew).heap.size from Nat.le_trans (Nat.le_trans hszs B8.out.size) (below_alloc w8 (.cells #[] 32)).size)
    have N1 := Lib.hid (take_news HLQ.out (C8.out.trans (BD.out.mono C8.out.size)) (show m ≤ ps.length by omega))
    obtain ⟨ad, had⟩ : ∃ ad, (if c = m + 1 then some (⟨b, 0, none⟩ : Addr) else some ⟨b, (m + 1) * 2, none⟩) = some ad := by
      split <;> exact ⟨_, rfl⟩
    have N2 := Lib.hid (fun (X : World) (hX : Below w1.heap.size w1 X) => drop_news HLQ.out hX hm1l2 had)
    have hq0 : 0 ≤ (m : Int) + 1 := by omega
    have hq1 : (m : Int) + 1 ≤ (ps.length : Int) := by omega
    have E1 := Lib.hid (vals_one HLQ.out)
    have LV := Lib.hid HLQ.out.len
    have MB := Lib.hid (show m ≤ 9 ∧ ps.length ≤ 9 from ⟨by omega, hpl⟩)
    clear L0 hcap
    have hw1 : IntKind.i64.wrap ((m : Int) + 1) = ((m + 1 : Nat) : Int) := by rw [IntWalk.i64_in _ (by omega)]; rfl
    have hw2 : wrap64 ((m : Int) + 1) = ((m + 1 : Nat) : Int) := (IntWalk.i64_left _).symm.trans hw1
    go_region_law (first
      | (refine step_append_own_at rfl (.tmp 108) (.tmp 111) 23 rfl w.heap.size 32 i0 (.agg #[.slice none 0 0, .slice none 0 0]) 2 48 Try.underlying23 hi hz0 hz1 hz2 rfl (by decide) (.slice (some ⟨w8.heap.size, 0, none⟩) 0 0) 0 [] (by simp [Act.eval]) HOD.out ⟨b, 0, none⟩ m c (vs.take (m * 2)) (by simp [Act.eval]) N1.out.1 N1.out.2 (fun u hu => E1.out u (List.mem_of_mem_take hu)) (small_len MB.out.1) (small_bytes MB.out.1) SZ.out ?_; intro v2 w9 hown2 hgrow2 hat2; obtain ⟨bb, cc, rfl, hbb⟩ := own_at hown2 hat2; have HO2 := Lib.hid hown2; have HG2 := Lib.hid hgrow2; have HBB := Lib.hid hbb; clear hbb hat2; have BE := Lib.hid (BD.out.grown HG2.out (BD.out.size) (fun c hc => by simp only [Value.ownBlock, Option.some.injEq] at hc; exact hc ▸ Nat.le_refl _)))
      | (refine step_append_own_at rfl (.tmp 112) (.tmp 116) 23 rfl w.heap.size 32 i0 (.agg #[.slice none 0 0, .slice none 0 0]) 2 48 Try.underlying23 hi hz0 hz1 hz2 rfl (by decide) (.slice (some ⟨bb, 0, none⟩) (0 + m) cc) (0 + m) ([] ++ vs.take (m * 2)) (by simp [Act.eval]) HO2.out ad (ps.length - (m + 1)) (c - (m + 1)) (vs.drop ((m + 1) * 2)) (by simp [Act.eval]) (N2.out _ (C8.out.trans (BE.out.mono C8.out.size))).1 (N2.out _ (C8.out.trans (BE.out.mono C8.out.size))).2 (fun u hu => E1.out u (List.mem_of_mem_drop hu)) (small_len2 MB.out.1 MB.out.2) (small_bytes2 MB.out.1 MB.out.2) (Nat.le_trans SZ.out (HG2.out.size)) ?_; intro v3 w10 hown3 hgrow3 hat3))
    clear hw1 hw2 had hq0 hq1 hm1l hm1c hlc hmc hml
    obtain ⟨b3, c3, rfl, hb3⟩ := own_at (N := bb) hown3 hat3
    obtain ⟨R, hR⟩ : ∃ R, R = 0 + m + (ps.length - (m + 1)) := ⟨_, rfl⟩
    rw [← hR] at hown3 ⊢
    have hRl : R = (ps.take m ++ ps.drop (m + 1)).length := by rw [but_len hmlt]; omega
    have hbb8 : w8.heap.size ≤ bb := HBB.out.elim (fun e => e ▸ Nat.le_refl _) (fun e => e ▸ BD.out.size)
    have BF := BE.out.grown hgrow3 BE.out.size (fun c hc => by simp only [Value.ownBlock, Option.some.injEq] at hc; exact hc ▸ hbb8)
    have hb38 : w8.heap.size ≤ b3 := hb3.elim (fun e => e ▸ hbb8) (fun e => e ▸ BE.out.size)
    have D10 := C8.out.trans (BF.mono C8.out.size)
    have RL := but_lq HLQ.out D10 hmlt (by rw [List.nil_append] at hown3; exact hown3) hRl (Nat.le_trans C8.out.size hb38)
    have RP := RL.paths (by rw [← hRl]; omega)
    rw [← hRl] at RP
    have hfe := FEW.out m hmlt
    have GL := implFit (n := (n : Int)) (s := s) RP (HVV.out.below D10)
    have fl := fitV_len (n : Int) (ps.take m ++ ps.drop (m + 1)) s rs
    have hqf := FQ.out m hmlt hfe.1
    have LX := hfe.2
    rw [hfe.1, HRS.out] at GL
    rw [HRS.out] at LX
    generalize fitV (n : Int) (ps.take m ++ ps.drop (m + 1)) s rs = Q at GL fl hqf LX
    obtain ⟨-, -, hqp, hq1, hq2, -, -, -⟩ := hqf
    have GL := Lib.hid GL
    have LX := Lib.hid LX
    have FL := Lib.hid fl
    have HQQ := Lib.hid (And.intro hqp (And.intro hq1 hq2))
    have D10 := Lib.hid (B8.out.trans (BF.mono B8.out.size))
    clear RP RL hfe BF hown3 hgrow3 hgrow2 hown2 hat3 hb3 hbb8 hb38 fl hqp hq1 hq2 hRl hR
    go_wp2_with (go_at_call 17; refine GL.out.mono ?_)
    rintro e w11 ⟨v7, rfl, o7, b7⟩
    obtain ⟨a9, m9, c9, e9, n9, d9, rfl⟩ := o7.form
    have q7 := below_alloc w11 (.cells #[.slice a9 m9 c9, .slice e9 n9 d9] 32)
    have p7 := Pair.new w11 (.slice a9 m9 c9) (.slice e9 n9 d9) 32
    obtain ⟨w12, h8⟩ : ∃ X, X = w11.alloc (.cells #[.slice a9 m9 c9, .slice e9 n9 d9] 32) := ⟨_, rfl⟩
    rw [← h8] at q7 p7
    have H8 := Lib.hid h8.symm
    have B12 := Lib.hid (D10.out.trans ((b7.trans (q7.mono b7.size)).mono D10.out.size))
    have V7 := Lib.hid ((o7.pathV (le_five FL.out.1) (le_five FL.out.2)).below q7)
    have P7 := Lib.hid p7
    clear h8 q7 p7 o7 b7 GL
    go_upto_region 16 with fail
    rw [H8.out]
    go_wp2_with fail
    go_loopw [19] (fun jv ws => ∃ j : Nat, j ≤ n ∧ jv = .int .i64 j ∧ Below w12.heap.size w12 ws) (fun jv _ => n - (intOf jv).toNat)
    case atStart => exact ⟨0, by omega, rfl, Below.refl _ _⟩
    case round =>
      obtain ⟨j, hj, rfl, hbj⟩ := hrel
      have CJ := Lib.hid (B12.out.trans (hbj.mono B12.out.size))
      by_cases hjk : j < n
      · have hji : (j : Int) < (n : Int) := by omega
        obtain ⟨g3, o3, l3, g4, o4, l4, ev, hg3, hg4, hc3, hc4⟩ := V7.out.cells HQQ.out.1
        simp only [Value.agg.injEq, Array.mk.injEq, List.cons.injEq, Value.slice.injEq, and_true] at ev
        obtain ⟨⟨rfl, rfl, rfl⟩, rfl, rfl, rfl⟩ := ev
        have P7' := P7.out.below hbj
        have hjq : (j : Int) < (Q.1.length : Int) := by rw [HQQ.out.2.1]; exact hji
        have hjq2 : j < Q.1.length := by rw [HQQ.out.2.1]; exact hjk
        have c31 := hc3 j hjq2
        have h3 := P7'.cell0
        have h4 := (P6.out.below CJ.out).cell0
        have h1 := (hbj.cell (p := ⟨g3, o3 + j, none⟩) hg3).trans c31
        have h2 := (CJ.out.cell (p := ⟨g1, o1 + j, none⟩) hg1).trans (HC1.out j hjk)
        have hle := LX.out j hjk
        generalize P.1.getD j 0 = x at h2 hle
        generalize Q.1.getD j 0 = y at h1 hle
        have hd : decide (x < y) = false := decide_eq_false (by omega)
        have z1 := fun d os => cell_regrown h1 d os
        have z2 := fun d os => cell_regrown h2 d os
        have z3 := fun d os => cell_regrown h3 d os
        have z4 := fun d os => cell_regrown h4 d os
        have BJ := Lib.hid hbj
        clear hc3 hc4 P7' hbj hle c31
        go_wp2_with fail
        refine wp_region_quiet_below (by kernel_rfl) (by kernel_rfl) ?_
        repeat (go_big_quiet_step (fail))
        refine wpQuiet_nil ?_
        intro _ hw'
        obtain ⟨⟨dq2, osq2⟩, hw''⟩ := hw'
        subst hw''
        have BF := Lib.hid (BJ.out.trans ((below_regrown _ dq2 osq2).mono BJ.out.size))
        clear z1 z2 z3 z4 h1 h2 h3 h4
        go_wp2_with fail
        go_roundw
        case rel => exact ⟨j + 1, by omega, by go_num, BF.out⟩
        case measure => simp [intOf]; omega
      · have hji : ¬ (j : Int) < (n : Int) := by omega
        have CF := Lib.hid (B1.out.trans ((C6.out.trans (CJ.out.mono C6.out.size)).mono B1.out.size))
        clear hbj
        go_wp2_with fail
        go_ret
        exact ⟨rfl, CF.out⟩

end Go.Proofs.Ytoebgdcgcdigaab

namespace Go.Proofs.Ytoebgdcgcdigaab.fnFitFewer
open Go.ChangeShapes Go.WideShapes Go.ChangeAt Go.RowKit
open Go.ChangeMaps (open_string shut_string)
set_option linter.unusedVariables false

theorem own : ownKnob Try.prog.godebug = none := by kernel_rfl
theorem laidOut : laidOutB Try.prog = true := by kernel_rfl

set_option maxRecDepth 100000 in
theorem lifted (os : Os) (started : os.Started) (H : Type) (enc : TypeId × Value → H) :
    ReturnsInHanded {} Try.checked os 6 .any (Rows.fnFitFewerSpec.pre6 enc Try.prog Try.f6 Rows.fnFitFewerRow.domain false) (Rows.fnFitFewerSpec.post enc Try.prog Try.f6 false true false false) := by
  refine returnsInHanded_of_change (C := Try.checked) own started (by kernel_rfl) Try.func6
    (ChangeSpec.witness6 (enc := enc) (C := Try.checked) false ⟨#[], #[.slice none 0 0, .slice none 0 0], []⟩ 8 (by kernel_rfl) (by kernel_rfl) (by kernel_rfl) (by kernel_rfl)) ?_
  intro W base args ds gs before hval0 hW hcnd _
  have hval : ∀ (j : Nat) t v, Try.f6.params[j]? = some t → args[j]? = some v → Value.okWide Try.prog W .any base t v := hval0
  have hW' := hW
  obtain ⟨p, q, hA0, hV, rfl, hfz, hnd⟩ := hW
  have hA : DataW.TrodAll enc Try.prog W 0 (fun _ => true) true Try.f6.params.toList args.toList ds p := hA0
  rw [Try.params6] at hA hval
  obtain ⟨v0, vs0, d0, ds0, p0, q0, hargs, rfl, rfl, h0, r0⟩ := trodAll_cons hA
  obtain ⟨v1, vs1, d1, ds1, p1, q1, rfl, rfl, rfl, h1, r1⟩ := trodAll_cons r0
  obtain ⟨rfl, rfl, rfl⟩ := trodAll_nil r1
  obtain rfl : args = #[v0, v1] := by cases args; simp_all
  obtain ⟨rfl, rfl⟩ := trodVars_none hV
  obtain ⟨a0, len0, cap0, rfl⟩ := okWide_slice Try.underlying22 (hval 0 22 v0 rfl rfl)
  have k0 := h0
  have lt0 : ∀ x ∈ p0, x.block < W.heap.size := by obtain ⟨m, hm⟩ := k0; exact DataW.trod_lt m _ _ _ hm
  obtain ⟨z0, w0⟩ : ∃ zs, IsRowK .u8 W a0 len0 cap0 zs := by
    obtain ⟨fuel, hf⟩ := h0
    rcases open_ints Try.underlying22 Try.underlying5 (by kernel_rfl) hf with ⟨hcs, _⟩ | ⟨x, l, c, zs, hcs, _, hl, hm, hz, _, hcell, hwz⟩
    · simp [Value.cells] at hcs
      obtain ⟨rfl, rfl, rfl⟩ := hcs
      exact ⟨[], .inl ⟨rfl, rfl, rfl, rfl⟩⟩
    · simp [Value.cells] at hcs
      obtain ⟨rfl, rfl, rfl⟩ := hcs
      exact ⟨zs, .inr ⟨_, rfl, hl, hm, by simpa using hz, hcell, hwz⟩⟩
  obtain ⟨a1, len1, cap1, rfl⟩ := okWide_slice Try.underlying22 (hval 1 22 v1 rfl rfl)
  have k1 := h1
  have lt1 : ∀ x ∈ p1, x.block < W.heap.size := by obtain ⟨m, hm⟩ := k1; exact DataW.trod_lt m _ _ _ hm
  obtain ⟨z1, w1⟩ : ∃ zs, IsRowK .u8 W a1 len1 cap1 zs := by
    obtain ⟨fuel, hf⟩ := h1
    rcases open_ints Try.underlying22 Try.underlying5 (by kernel_rfl) hf with ⟨hcs, _⟩ | ⟨x, l, c, zs, hcs, _, hl, hm, hz, _, hcell, hwz⟩
    · simp [Value.cells] at hcs
      obtain ⟨rfl, rfl, rfl⟩ := hcs
      exact ⟨[], .inl ⟨rfl, rfl, rfl, rfl⟩⟩
    · simp [Value.cells] at hcs
      obtain ⟨rfl, rfl, rfl⟩ := hcs
      exact ⟨zs, .inr ⟨_, rfl, hl, hm, by simpa using hz, hcell, hwz⟩⟩
  clear hA0 hval0
  refine (walk_FnFitFewer a0 len0 cap0 z0 a1 len1 cap1 z1 W w0 w1).mono fun e W' ⟨he, bel⟩ => ?_
  subst he
  exact ⟨_, rfl, _, _, _, [], _, [], hW', trodAll_mk1 (shut_bool Try.underlying4 _), (trodAll_cons_mk (Below.trod laidOut (by kernel_rfl) (of_decide_eq_true (by kernel_rfl)) k0 bel lt0) (trodAll_cons_mk (Below.trod laidOut (by kernel_rfl) (of_decide_eq_true (by kernel_rfl)) k1 bel lt1) trodAll_mk0)), rfl, bel.frame _, fun h => by cases h⟩

theorem closed : joinedFacts Try.checked.prog 6 Try.f6 Rows.fnFitFewerSpec Rows.fnFitFewerRow = true := by
  unfold joinedFacts
  simp only [Bool.and_eq_true]
  repeat' (refine And.intro ?_ ?_)
  all_goals first
    | with_reducible exact may_enter
    | (rw [lifts_final]; kernel_rfl)
    | (rw [make_is]; kernel_rfl)
    | kernel_rfl

theorem over : Rows.fnFitFewerRow.holds Try.pinned (OpenSpec.ofChange Rows.fnFitFewerSpec) :=
  OpenClaim.holds_of_wide 6 Try.f6 rfl rfl rfl rfl rfl rfl rfl ⟨rfl, rfl, rfl, rfl, rfl⟩ rfl rfl rfl rfl rfl (by kernel_rfl) Try.func6 closed
    (of_decide_eq_true (by kernel_rfl)) (by unfold Func.isWrapper; first | (rw [if_pos (by decide +kernel)]; kernel_rfl) | (rw [if_neg (by decide +kernel)]; exact ⟨rfl, rfl⟩))
    (fun os started H enc _ => lifted os started H enc)

theorem proved : Rows.FnFitFewerSaid := over
#print axioms proved
end Go.Proofs.Ytoebgdcgcdigaab.fnFitFewer
