/-
  For every input the law 'FnExactLineRun' returns true, and each of its arguments reads behind the call as it read before. Conditions: none beyond those of the row.
-/
import Derived.Test.YtoapfcnpmpggcabRows
import Derived.WalkKit
import Derived.ProofKit
import Derived.OpenShut
import Derived.ShutString
import Derived.ChangeOld
import Derived.Below
import Derived.Deep.Matrix
import Derived.Test.YtoapfcnpmpggcabIo
import Derived.Test.YtoapfcnpmpggcabMarkM
import Derived.Deep.DeepCutAuto
import Derived.Deep.RegionWith
namespace Go.Proofs.Ytoapfcnpmpggcab
open Go.RowKit

theorem lnRun_len (l : Ln) (ms : List Mv) : ((lnRun l ms).getD noLn).1.length ≤ 5 ∧ ((lnRun l ms).getD noLn).2.length ≤ 5 := by
  cases hb : lnB l
  · rw [lnRun_not hb]; simp [noLn]
  · have hl := lnOk_len hb
    rw [lnRun_is hb]
    cases e : lnTo l ms ms.length with
    | none => simp [noLn]
    | some x =>
      have := lnTo_len e
      simp only [Option.getD_some]
      omega
theorem moves_under {w : World} {base n k : Nat} {t : TypeId} {v : Value} {F : Nat → Value} (h : Ow w base t k v n F) : ∀ b, v.ownBlock = some b → base ≤ b ∧ b < w.heap.size := Ow.under h
theorem moves_kept {w w' : World} {base n k lo hi : Nat} {t : TypeId} {v : Value} {F : Nat → Value} (h : Ow w base t k v n F) (g : GrownIn w w' lo hi) (hv : ∀ b, v.ownBlock = some b → b < lo ∨ hi ≤ b) : Ow w' base t k v n F := Ow.keptIn h g hv

set_option maxRecDepth 100000 in
set_option maxHeartbeats 8000000 in
theorem walk_FnExactLineRun (v0 : Value) (v1 : Value) (w : World) (w0 : IsLineK w v0) (w1 : IsMvsK w v1) :
    Calls Try.prog 6 #[v0, v1] w fun e w' => e = .returned (.bool true) ∧ Below w.heap.size w w' := by
  obtain ⟨u1, u2, rfl⟩ := w0.agg
  have q := below_alloc w (.cells #[u1, u2] 25)
  have pb := Pair.new w u1 u2 25
  have hk := w0.below q
  have hk2 := w1.below q
  obtain ⟨W, hW⟩ : ∃ W, W = w.alloc (.cells #[u1, u2] 25) := ⟨_, rfl⟩
  rw [← hW] at q pb hk hk2
  have HW := Lib.hid hW.symm
  have P := Lib.hid pb
  have K0 := pb.cell0
  have K1 := pb.cell1
  clear hW pb w0 w1
  go_enter Try.func6, Try.ntmps6
  go_wp2_with fail
  rw [HW.out]
  refine (szLineK hk (by omega) (by omega)).mono ?_
  rintro e wa ⟨n, rfl, hn1, hn, ba⟩
  rcases Int.lt_or_le n 0 with hneg | hpos
  · have hd : decide (n < 0) = true := decide_eq_true hneg
    clear hn hk hk2
    go_wp2_with fail
    go_ret
    exact ⟨rfl, chain q ba⟩
  have hd : decide (n < 0) = false := by simpa using hpos
  obtain ⟨l, h⟩ := hn hpos
  clear hn hk K0 K1
  go_wp2_with fail
  refine (szMovesK (hk2.below ba) hpos hn1).mono ?_
  rintro e wb ⟨n', rfl, hn1', hn', bb⟩
  rcases Int.lt_or_le n' 0 with hneg' | hpos'
  · have hd' : decide (n' < 0) = true := decide_eq_true hneg'
    clear hn' hk2
    go_wp2_with fail
    go_ret
    exact ⟨rfl, chain q (chain ba bb)⟩
  have hd' : decide (n' < 0) = false := by simpa using hpos'
  obtain ⟨ms, hms, hsum⟩ := hn' hpos'
  obtain ⟨av, cv, rfl⟩ := Rd.slice hms
  have ho := chain ba bb
  have hl := h.len
  have hl1 := hl.1
  have hl2 := hl.2
  have hm1 := Rd.len hms
  have hss := sumS_nonneg ms ms.length
  have hS2 : ∀ i, i < ms.length → (ms.getD i noMv).2.size ≤ 2097152 := fun i hi => by have := sumS_one ms hi; omega
  have hrl := lnRun_len l ms
  have HS := Lib.hid (fun (X : World) (v u : Value) (i : LineV X v l) (j : Mvs X u ms) => specLineRun i j)
  have HI := Lib.hid (fun (X : World) (v u : Value) (i : LineV X v l) (j : Mvs X u ms) => implLineRun i j hS2)
  obtain ⟨r, hr⟩ : ∃ r, r = (lnRun l ms).getD noLn := ⟨_, rfl⟩
  obtain ⟨t, ht⟩ : ∃ t, t = (lnRun l ms).isSome := ⟨_, rfl⟩
  rw [← hr, ← ht] at HS HI
  rw [← hr] at hrl
  have l1 : r.1.length ≤ 1048576 := by omega
  have l2 : r.2.length ≤ 1048576 := by omega
  have hi1 : (r.1.length : Int) ≤ 1048576 := by omega
  have hi2 : (r.2.length : Int) ≤ 1048576 := by omega
  have hp1 : (l.1.length : Int) ≤ 1048576 := by omega
  have hp2 : (l.2.length : Int) ≤ 1048576 := by omega
  have hp3 : (ms.length : Int) ≤ 1048576 := by omega
  have LV0 := Lib.hid (fun (X : World) (c : Below wb.heap.size wb X) => (h.below ho).below c)
  have MV0 := Lib.hid (fun (X : World) (c : Below wb.heap.size wb X) => Rd.below (Rd.below hms bb) c)
  have TL := Lib.hid (fun (X : World) (c : Below wb.heap.size wb X) => toLine (LV0.out X c))
  have TM := Lib.hid (fun (X : World) (c : Below wb.heap.size wb X) => toMoves (MV0.out X c))
  have P := Lib.hid (P.out.below ho)
  have Q := Lib.hid (chain q ho)
  clear hr ht hrl hS2 hsum hss hms hk2 hpos hpos' hn1 hn1' bb ba ho h q hl hn'
  have k0 := P.out.cell0
  have k1 := P.out.cell1
  go_wp2_with (go_at_call 17; refine (TL.out _ (Below.refl _ _)).mono ?_)
  rintro e wt ⟨vt, rfl, o1, b1⟩
  have j1 := o1.lineV hl1 hl2
  go_wp2_with (go_at_call 30; refine (TM.out _ b1).mono ?_)
  rintro e wu ⟨vu, rfl, o2, b2⟩
  have c1 := chain b1 b2
  obtain ⟨at1, nt1, ct1, et1, mt1, ft1, rfl⟩ := own_form o1
  obtain ⟨au, cu, rfl⟩ := Ow.slice o2
  go_wp2_with (go_at_call 29; refine (HS.out _ _ _ (j1.below b2) (own_mvs o2 hm1)).mono ?_)
  rintro e wv ⟨vw, rfl, ow, b3⟩
  obtain ⟨a2', n2, d2, e2, m2, f2, rfl⟩ := ow.form
  have qq := below_alloc wv (.cells #[.slice a2' n2 d2, .slice e2 m2 f2] 30)
  have pp := Pair.new wv (.slice a2' n2 d2) (.slice e2 m2 f2) 30
  have ss : (wv.alloc (.cells #[.slice a2' n2 d2, .slice e2 m2 f2] 30)).heap.size = wv.heap.size + 1 := Go.Deep.nblk_alloc _ _
  obtain ⟨w8, hnew⟩ : ∃ X, X = wv.alloc (.cells #[.slice a2' n2 d2, .slice e2 m2 f2] 30) := ⟨_, rfl⟩
  rw [← hnew] at qq pp ss
  have HWN := Lib.hid hnew.symm
  have HW8 := HWN
  have IW := Lib.hid ow.isIn
  have OW := Lib.hid (ow.below qq)
  have PW := Lib.hid pp
  have c3 := chain (chain c1 b3) qq
  have S2 := Lib.hid ss
  have k0 := (P.out.below c3).cell0
  have k1 := (P.out.below c3).cell1
  clear hnew HWN pp ow qq b1 b2 b3 o1 o2 j1 ss c1
  go_upto_region 9 with fail
  rw [HW8.out]
  go_wp2_with (go_at_call 17; refine (TL.out _ c3).mono ?_)
  rintro e wd ⟨vx, rfl, ox, b4⟩
  obtain ⟨a3, n3, d3, e3, m3, f3, rfl⟩ := ox.form
  have qq := below_alloc wd (.cells #[.slice a3 n3 d3, .slice e3 m3 f3] 30)
  have pp := Pair.new wd (.slice a3 n3 d3) (.slice e3 m3 f3) 30
  have ss : (wd.alloc (.cells #[.slice a3 n3 d3, .slice e3 m3 f3] 30)).heap.size = wd.heap.size + 1 := Go.Deep.nblk_alloc _ _
  obtain ⟨w10, hnew⟩ : ∃ X, X = wd.alloc (.cells #[.slice a3 n3 d3, .slice e3 m3 f3] 30) := ⟨_, rfl⟩
  rw [← hnew] at qq pp ss
  have HWN := Lib.hid hnew.symm
  have HW10 := HWN
  have IX := Lib.hid ox.isIn
  have OX := Lib.hid (ox.below qq)
  have PX := Lib.hid pp
  have OW := Lib.hid ((OW.out.below b4).below qq)
  have PW := Lib.hid ((PW.out.below b4).below qq)
  have c4 := chain (chain c3 b4) qq
  have Z4 := Lib.hid b4.size
  have S3 := Lib.hid ss
  clear hnew HWN pp ox qq b4 ss k0 k1
  go_upto_region 10 with fail
  rw [HW10.out]
  go_wp2_with (go_at_call 30; refine (TM.out _ c4).mono ?_)
  rintro e wm ⟨vm, rfl, om, bm⟩
  obtain ⟨ay, cy, rfl⟩ := Ow.slice om
  have OM := Lib.hid om
  have IM := Lib.hid (moves_under om)
  have OW := Lib.hid (OW.out.below bm)
  have PW := Lib.hid (PW.out.below bm)
  have OX := Lib.hid (OX.out.below bm)
  have PX := Lib.hid (PX.out.below bm)
  have c4' := chain c4 bm
  have ZM := Lib.hid bm.size
  clear om bm
  have k2 := PX.out.cell0
  have k3 := PX.out.cell1
  go_wp2_with (go_at_call 31; refine (HI.out _ _ _ (OX.out.lineV hl1 hl2) (own_mvs OM.out hm1)).mono ?_)
  rintro e we ⟨vg, rfl, og, b5⟩
  obtain ⟨a5, n5, d5, e5, m5, f5, rfl⟩ := og.form
  have qq := below_alloc we (.cells #[.slice a5 n5 d5, .slice e5 m5 f5] 30)
  have pp := Pair.new we (.slice a5 n5 d5) (.slice e5 m5 f5) 30
  have ss : (we.alloc (.cells #[.slice a5 n5 d5, .slice e5 m5 f5] 30)).heap.size = we.heap.size + 1 := Go.Deep.nblk_alloc _ _
  obtain ⟨w11, hnew⟩ : ∃ X, X = we.alloc (.cells #[.slice a5 n5 d5, .slice e5 m5 f5] 30) := ⟨_, rfl⟩
  rw [← hnew] at qq pp ss
  have HWN := Lib.hid hnew.symm
  have HW11 := HWN
  have IG := Lib.hid og.isIn
  have OG := Lib.hid (og.below qq)
  have PG := Lib.hid pp
  have OW := Lib.hid ((OW.out.below b5).below qq)
  have PW := Lib.hid ((PW.out.below b5).below qq)
  have OX := Lib.hid ((OX.out.below b5).below qq)
  have PX := Lib.hid ((PX.out.below b5).below qq)
  have OM := Lib.hid (Ow.below (Ow.below OM.out b5) qq)
  have c6 := chain (chain c4' b5) qq
  have Z5 := Lib.hid b5.size
  clear hnew HWN pp og qq b5 k2 k3 ss
  go_upto_region 12 with fail
  rw [HW11.out]
  have k0 := PW.out.cell0
  have k1 := PW.out.cell1
  have k2 := PG.out.cell0
  have k3 := PG.out.cell1
  go_wp2_with (go_at_call 19; refine (eqLines2 (OG.out.lineV l1 l2) (OW.out.lineV l1 l2)).mono ?_)
  rintro e wg ⟨rfl, b6⟩
  have OW := Lib.hid (OW.out.below b6)
  have PW := Lib.hid (PW.out.below b6)
  have OG := Lib.hid (OG.out.below b6)
  have PG := Lib.hid (PG.out.below b6)
  have OX := Lib.hid (OX.out.below b6)
  have PX := Lib.hid (PX.out.below b6)
  have OM := Lib.hid (Ow.below OM.out b6)
  have c7 := chain c6 b6
  clear k0 k1 k2 k3 b6
  have k0 := (P.out.below c7).cell0
  have k1 := (P.out.below c7).cell1
  have k2 := PX.out.cell0
  have k3 := PX.out.cell1
  go_upto_region 14 with fail
  go_cut [58] (fun s wx => s = .bool false ∧ Below wg.heap.size wg wx)
  case first =>
    have TP := Lib.hid (fun (W' : World) (b : Below wg.heap.size wg W') => TL.out W' (chain c7 b))
    have PP := Lib.hid (fun (W' : World) (b : Below wg.heap.size wg W') => And.intro (PX.out.below b).cell0 (PX.out.below b).cell1)
    have d4 : Below wg.heap.size wg wg.drew := (Below.refl _ _).drew
    have EQ := Lib.hid (fun (W' : World) (v : Value) (b : Below wg.heap.size wg W') (j : LineV W' v l) => eqLines2 ((OX.out.lineV hl1 hl2).below b) j)
    go_region_with (first
      | (go_at_call 17; refine (TP.out _ d4).mono ?_; rintro e w5 ⟨v5, rfl, o5, b5⟩; have c5 := d4.trans (b5.mono d4.size); have j5 := o5.lineV hl1 hl2; have m1 := (PP.out _ c5).1; have m2 := (PP.out _ c5).2; clear o5 b5)
      | (go_at_call 19; refine (EQ.out _ _ c5 j5).mono ?_; rintro e w6 ⟨rfl, b6⟩))
    all_goals (go_wp2_with fail; go_meet; exact ⟨rfl, c5.trans (b6.mono c5.size)⟩)
  case rest =>
  obtain ⟨rfl, b7⟩ := hcut
  revert b7
  generalize wc = wi
  intro b7
  clear k0 k1 k2 k3
  have OW := Lib.hid (OW.out.below b7)
  have PW := Lib.hid (PW.out.below b7)
  have OG := Lib.hid (OG.out.below b7)
  have PG := Lib.hid (PG.out.below b7)
  have OX := Lib.hid (OX.out.below b7)
  have PX := Lib.hid (PX.out.below b7)
  have OM := Lib.hid (Ow.below OM.out b7)
  have c8 := chain c7 b7
  clear b7
  go_wp2_with (go_at_call 30; refine (TM.out _ c8).mono ?_)
  rintro e wn ⟨vn, rfl, on, b8⟩
  obtain ⟨an, cn, rfl⟩ := Ow.slice on
  have ON := Lib.hid on
  have OW := Lib.hid (OW.out.below b8)
  have PW := Lib.hid (PW.out.below b8)
  have OG := Lib.hid (OG.out.below b8)
  have PG := Lib.hid (PG.out.below b8)
  have OX := Lib.hid (OX.out.below b8)
  have PX := Lib.hid (PX.out.below b8)
  have OM := Lib.hid (Ow.below OM.out b8)
  have c8' := chain c8 b8
  clear on b8
  go_wp2_with (go_at_call 32; refine (eqMovesS (own_mvs OM.out hm1) (own_mvs ON.out hm1)).mono ?_)
  rintro e wo ⟨rfl, b9⟩
  have OW := Lib.hid (OW.out.below b9)
  have PW := Lib.hid (PW.out.below b9)
  have OG := Lib.hid (OG.out.below b9)
  have PG := Lib.hid (PG.out.below b9)
  have OX := Lib.hid (OX.out.below b9)
  have PX := Lib.hid (PX.out.below b9)
  have OM := Lib.hid (Ow.below OM.out b9)
  have c9 := chain c8' b9
  clear b9 ON
  have k2 := PX.out.cell0
  have k3 := PX.out.cell1
  go_wp2_with (go_at_call 22; refine (markLine OX.out IX.out hl1 hl2 (by omega) (by omega)).mono ?_)
  rintro e wj ⟨rfl, -, m9⟩
  have c10 := m9.below c9 c3.size
  have OW := Lib.hid (OW.out.keptIn m9 IW.out (.inl (by have := S2.out; omega)))
  have PW := Lib.hid (PW.out.keptIn m9 (.inl (by have := S2.out; omega)))
  have OG := Lib.hid (OG.out.keptIn m9 IG.out (.inr (by have := S3.out; have := ZM.out; omega)))
  have PG := Lib.hid (PG.out.keptIn m9 (.inr (by have := S3.out; have := ZM.out; have := Z5.out; omega)))
  have OM := Lib.hid (moves_kept OM.out m9 (fun c e => .inr (by have := (IM.out c e).1; have := S3.out; omega)))
  clear m9 OX PX k2 k3
  go_wp2_with (go_at_call 33; refine (markMoves OM.out hm1 (by omega) (by omega)).mono ?_)
  rintro e wj2 ⟨rfl, g9⟩
  have m9 := GrownIn.of_grown g9 IM.out
  have c10 := m9.below c10 c4.size
  have OW := Lib.hid (OW.out.keptIn m9 IW.out (.inl (by have := S2.out; have := S3.out; have := Z4.out; omega)))
  have PW := Lib.hid (PW.out.keptIn m9 (.inl (by have := S2.out; have := S3.out; have := Z4.out; omega)))
  have OG := Lib.hid (OG.out.keptIn m9 IG.out (.inr (Nat.le_refl _)))
  have PG := Lib.hid (PG.out.keptIn m9 (.inr Z5.out))
  clear m9 g9 OM
  have k0 := PW.out.cell0
  have k1 := PW.out.cell1
  have k2 := PG.out.cell0
  have k3 := PG.out.cell1
  have hneg : decide ((1 : Int) + l.1.length * 3 + l.2.length + ms.length * 2 < 0) = false := by simp; omega
  go_wp2_with (go_at_call 19; refine (eqLines2 (OG.out.lineV l1 l2) (OW.out.lineV l1 l2)).mono ?_)
  rintro e wk ⟨rfl, b10⟩
  have OW := Lib.hid (OW.out.below b10)
  have PW := Lib.hid (PW.out.below b10)
  have OG := Lib.hid (OG.out.below b10)
  have PG := Lib.hid (PG.out.below b10)
  have c11 := chain c10 b10
  clear k0 k1 k2 k3 b10 hneg
  have k2 := PG.out.cell0
  have k3 := PG.out.cell1
  go_wp2_with (go_at_call 22; refine (markLine OG.out IG.out l1 l2 (by omega) (by omega)).mono ?_)
  rintro e wl ⟨rfl, og, m11⟩
  have c12 := m11.below c11 c4'.size
  have OW := Lib.hid (OW.out.keptIn m11 IW.out (.inl (by have := S2.out; have := Z4.out; have := S3.out; have := ZM.out; omega)))
  have PW := Lib.hid (PW.out.keptIn m11 (.inl (by have := S2.out; have := Z4.out; have := S3.out; have := ZM.out; omega)))
  have PG := Lib.hid (PG.out.keptIn m11 (.inr (Nat.le_refl _)))
  have OG := Lib.hid og
  clear og m11 k2 k3
  have k2 := PG.out.cell0
  have k3 := PG.out.cell1
  go_wp2_with (go_at_call 23; refine (heldLine OG.out l1 l2 (by omega) (by omega)).mono ?_)
  rintro e wm2 ⟨rfl, b12⟩
  have OW := Lib.hid (OW.out.below b12)
  have PW := Lib.hid (PW.out.below b12)
  have OG := Lib.hid (OG.out.below b12)
  have PG := Lib.hid (PG.out.below b12)
  have c13 := chain c12 b12
  have hneg : decide ((1 : Int) + r.1.length * 3 + r.2.length < 0) = false := by simp; omega
  clear k2 k3 b12
  have k0 := (P.out.below c13).cell0
  have k1 := (P.out.below c13).cell1
  go_wp2_with (go_at_call 17; refine (TL.out _ c13).mono ?_)
  rintro e wn1 ⟨vz, rfl, oz, b13⟩
  have c14 := chain c13 b13
  have jz := oz.lineV hl1 hl2
  clear k0 k1
  obtain ⟨az1, nz1, cz1, ez1, mz1, fz1, rfl⟩ := own_form oz
  go_wp2_with (go_at_call 30; refine (TM.out _ c14).mono ?_)
  rintro e wn2 ⟨vz2, rfl, oz2, b13'⟩
  have c14 := chain c14 b13'
  obtain ⟨az2, cz2, rfl⟩ := Ow.slice oz2
  go_wp2_with (go_at_call 31; refine (HI.out _ _ _ (jz.below b13') (own_mvs oz2 hm1)).mono ?_)
  rintro e wo2 ⟨vh, rfl, oh, b14⟩
  obtain ⟨a7, n7, d7, e7, m7, f7, rfl⟩ := oh.form
  have qq := below_alloc wo2 (.cells #[.slice a7 n7 d7, .slice e7 m7 f7] 30)
  have pp := Pair.new wo2 (.slice a7 n7 d7) (.slice e7 m7 f7) 30
  have ss : (wo2.alloc (.cells #[.slice a7 n7 d7, .slice e7 m7 f7] 30)).heap.size = wo2.heap.size + 1 := Go.Deep.nblk_alloc _ _
  obtain ⟨wp2, hnew⟩ : ∃ X, X = wo2.alloc (.cells #[.slice a7 n7 d7, .slice e7 m7 f7] 30) := ⟨_, rfl⟩
  rw [← hnew] at qq pp ss
  have HWN := Lib.hid hnew.symm
  have HWP := HWN
  have OH := Lib.hid (oh.below qq)
  have PH := Lib.hid pp
  have OW := Lib.hid ((((OW.out.below b13).below b13').below b14).below qq)
  have PW := Lib.hid ((((PW.out.below b13).below b13').below b14).below qq)
  have OG := Lib.hid ((((OG.out.below b13).below b13').below b14).below qq)
  have PG := Lib.hid ((((PG.out.below b13).below b13').below b14).below qq)
  have c15 := chain (chain c14 b14) qq
  clear hnew HWN pp oh qq b13 b13' b14 oz oz2 jz ss
  go_upto_region 32 with fail
  rw [HWP.out]
  have k0 := PW.out.cell0
  have k1 := PW.out.cell1
  have k2 := PH.out.cell0
  have k3 := PH.out.cell1
  go_wp2_with (go_at_call 19; refine (eqLines2 (OH.out.lineV l1 l2) (OW.out.lineV l1 l2)).mono ?_)
  rintro e wq ⟨rfl, b15⟩
  have OG := Lib.hid (OG.out.below b15)
  have PG := Lib.hid (PG.out.below b15)
  have c16 := chain c15 b15
  clear k0 k1 k2 k3 b15
  have k2 := PG.out.cell0
  have k3 := PG.out.cell1
  go_wp2_with (go_at_call 23; refine (heldLine OG.out l1 l2 (by omega) (by omega)).mono ?_)
  rintro e wr ⟨rfl, b16⟩
  go_wp2_with fail
  go_ret
  exact ⟨rfl, chain Q.out (chain c16 b16)⟩

end Go.Proofs.Ytoapfcnpmpggcab

namespace Go.Proofs.Ytoapfcnpmpggcab.fnExactLineRun
open Go.ChangeShapes Go.WideShapes Go.ChangeAt Go.RowKit
open Go.ChangeMaps (open_string shut_string)
set_option linter.unusedVariables false

theorem own : ownKnob Try.prog.godebug = none := by kernel_rfl
theorem laidOut : laidOutB Try.prog = true := by kernel_rfl

set_option maxRecDepth 100000 in
theorem lifted (os : Os) (started : os.Started) (H : Type) (enc : TypeId × Value → H) :
    ReturnsInHanded {} Try.checked os 6 .any (Rows.fnExactLineRunSpec.pre6 enc Try.prog Try.f6 Rows.fnExactLineRunRow.domain false) (Rows.fnExactLineRunSpec.post enc Try.prog Try.f6 false true false false) := by
  refine returnsInHanded_of_change (C := Try.checked) own started (by kernel_rfl) Try.func6
    (ChangeSpec.witness6 (enc := enc) (C := Try.checked) false ⟨#[], #[.agg #[.slice none 0 0, .slice none 0 0], .slice none 0 0], []⟩ 8 (by kernel_rfl) (by kernel_rfl) (by kernel_rfl) (by kernel_rfl)) ?_
  intro W base args ds gs before hval0 hW hcnd _
  have hval : ∀ (j : Nat) t v, Try.f6.params[j]? = some t → args[j]? = some v → Value.okWide Try.prog W .any base t v := hval0
  have hW' := hW
  obtain ⟨p, q, hA0, hV, rfl, hfz, hnd⟩ := hW
  have hA : DataW.TrodAll enc Try.prog W 0 (fun _ => true) true Try.f6.params.toList args.toList ds p := hA0
  rw [Try.params6] at hA hval
  obtain ⟨v0, vs0, d0, ds0, p0, q0, hargs, rfl, rfl, h0, r0⟩ := trodAll_cons hA
  obtain ⟨v1, vs1, d1, ds1, p1, q1, rfl, rfl, rfl, h1, r1⟩ := trodAll_cons r0
  obtain ⟨rfl, rfl, rfl⟩ := trodAll_nil r1
  obtain rfl : args = #[v0, v1] := by cases args; simp_all
  obtain ⟨rfl, rfl⟩ := trodVars_none hV
  have w0 := open_line (hval 0 25 v0 rfl rfl) h0
  have k0 := h0
  have lt0 : ∀ x ∈ p0, x.block < W.heap.size := by obtain ⟨m, hm⟩ := k0; exact DataW.trod_lt m _ _ _ hm
  have w1 := open_moves (hval 1 45 v1 rfl rfl) h1
  have k1 := h1
  have lt1 : ∀ x ∈ p1, x.block < W.heap.size := by obtain ⟨m, hm⟩ := k1; exact DataW.trod_lt m _ _ _ hm
  clear hA0 hval0
  refine (walk_FnExactLineRun v0 v1 W w0 w1).mono fun e W' ⟨he, bel⟩ => ?_
  subst he
  exact ⟨_, rfl, _, _, _, [], _, [], hW', trodAll_mk1 (shut_bool Try.underlying4 _), (trodAll_cons_mk (Below.trod laidOut (by kernel_rfl) (of_decide_eq_true (by kernel_rfl)) k0 bel lt0) (trodAll_cons_mk (Below.trod laidOut (by kernel_rfl) (of_decide_eq_true (by kernel_rfl)) k1 bel lt1) trodAll_mk0)), rfl, bel.frame _, fun h => by cases h⟩

theorem closed : joinedFacts Try.checked.prog 6 Try.f6 Rows.fnExactLineRunSpec Rows.fnExactLineRunRow = true := by
  unfold joinedFacts
  simp only [Bool.and_eq_true]
  repeat' (refine And.intro ?_ ?_)
  all_goals first
    | with_reducible exact may_enter
    | (rw [lifts_final]; kernel_rfl)
    | (rw [make_is]; kernel_rfl)
    | kernel_rfl

theorem over : Rows.fnExactLineRunRow.holds Try.pinned (OpenSpec.ofChange Rows.fnExactLineRunSpec) :=
  OpenClaim.holds_of_wide 6 Try.f6 rfl rfl rfl rfl rfl rfl rfl ⟨rfl, rfl, rfl, rfl, rfl⟩ rfl rfl rfl rfl rfl (by kernel_rfl) Try.func6 closed
    (of_decide_eq_true (by kernel_rfl)) (by unfold Func.isWrapper; first | (rw [if_pos (by decide +kernel)]; kernel_rfl) | (rw [if_neg (by decide +kernel)]; exact ⟨rfl, rfl⟩))
    (fun os started H enc _ => lifted os started H enc)

theorem proved : Rows.FnExactLineRunSaid := over
#print axioms proved
end Go.Proofs.Ytoapfcnpmpggcab.fnExactLineRun
