/-
  The starts of all trains in an order: the program's. For texts of at most 1048576 bytes.
-/
import Derived.Test.YtlcmkocbpnekhaaDoorSgD
import Derived.Test.YtlcmkocbpnekhaaDoorGoodsS
namespace Go.Proofs.YtlcmkocbpnekhaaDoor
open Go.RowKit Go.Sort

/-- The first k starts, then ready times. -/
def mixL (s : Sg) (S : ByteArray) (n k : Nat) : List Int := (List.range n).map fun j => if j < k then stA s S j else rdy s S j
theorem mixL_len (s : Sg) (S : ByteArray) (n k : Nat) : (mixL s S n k).length = n := by simp [mixL]
theorem mixL_one (s : Sg) (S : ByteArray) (n : Nat) : mixL s S n 1 = rdL s S n := by
  unfold mixL rdL
  apply List.map_congr_left
  intro j _
  by_cases h : j < 1
  · have : j = 0 := by omega
    subst this; rfl
  · rw [if_neg h]
theorem mixL_all (s : Sg) (S : ByteArray) (n k : Nat) (h : n ≤ k) : mixL s S n k = stL s S n := by
  unfold mixL stL
  apply List.map_congr_left
  intro j hj
  rw [List.mem_range] at hj
  rw [if_pos (by omega)]
theorem mixL_at {s : Sg} {S : ByteArray} {n k j : Nat} (h : j < n) : (mixL s S n k).getD j 0 = if j < k then stA s S j else rdy s S j := by simp [mixL, h]
theorem mixL_set (s : Sg) (S : ByteArray) (n k : Nat) : (mixL s S n k).set k (stA s S k) = mixL s S n (k + 1) := by
  apply List.ext_getElem?
  intro i
  rw [List.getElem?_set, mixL_len]
  by_cases hi : i < n
  · by_cases e : k = i
    · subst e; rw [if_pos rfl, if_pos hi]; simp [mixL, hi]
    · rw [if_neg e]
      simp only [mixL, List.getElem?_map, List.getElem?_range hi, Option.map_some]
      by_cases q : i < k
      · rw [if_pos q, if_pos (by omega)]
      · rw [if_neg q, if_neg (by omega)]
  · have h1 : (mixL s S n k)[i]? = none := List.getElem?_eq_none (by rw [mixL_len]; omega)
    have h2 : (mixL s S n (k + 1))[i]? = none := List.getElem?_eq_none (by rw [mixL_len]; omega)
    rw [h2]
    by_cases e : k = i
    · rw [if_pos e, if_neg (by omega)]
    · rw [if_neg e, h1]

/-- A line in a box, as it is handed on. -/
def InBox (w : World) (b : Nat) (v : Value) : Prop := ∃ x y z u, v = .agg #[x, y, z, u] ∧ Quad w b x y z u 25

/-- What the operations of the program's drawing region yield. -/
def G7 (row kk j agg str pk pj : Value) (rd sj gp sum st xj xk : Int) (i : Nat) (v : Value) : Prop :=
  match i with
  | 0 => v = row
  | 1 => v = kk
  | 2 => v = row
  | 3 => v = kk
  | 4 => v = pk
  | 5 => v = .int .i64 rd
  | 6 => v = row
  | 7 => v = kk
  | 8 => v = j
  | 9 => v = pj
  | 10 => v = .int .i64 sj
  | 11 => v = agg
  | 12 => v = str
  | 13 => v = kk
  | 14 => v = j
  | 15 => v = .int .u8 xj
  | 16 => v = str
  | 17 => v = kk
  | 18 => v = .int .u8 xk
  | 19 => v = .int .i64 gp
  | 20 => v = .int .i64 sum
  | 21 => v = .int .i64 st
  | 22 => v = pk
  | _ => True

set_option maxHeartbeats 2000000 in
theorem implStarts {w : World} {v : Value} {s : Sg} {S : ByteArray} (h : SgV w v s) (hS : S.size ≤ 1048576) :
    Calls Tryd.prog 5 #[v, .string S] w (MadeIntsB w (stV s S) (sgO s S)) := by
  obtain ⟨a, n, c, a', n', c', rfl, i1, i2⟩ := h.form
  have GR := Lib.hid (fun (q : SgOk s) (k : Nat) => gap_range q S k)
  have hS' : (S.size : Int) ≤ 1048576 := by omega
  have SV := Lib.hid (fun (X : World) (b : Below w.heap.size w X) => implSingle (h.below b))
  have SO := Lib.hid (fun (X : World) (b : Below w.heap.size w X) => implOrder (h.below b) hS)
  have RT := Lib.hid (fun (ho : OrdOk s.A.length s.B.length S) (X : World) (b : Below w.heap.size w X) => readyTimes (h.below b) ho hS)
  obtain ⟨r, hr⟩ : ∃ r, r = s.run := ⟨_, rfl⟩
  obtain ⟨hd, hh⟩ : ∃ r, r = s.head := ⟨_, rfl⟩
  rw [← hr, ← hh] at SV SO RT ⊢
  have ea := below_alloc w (.cells #[.slice a n c, .slice a' n' c', .int .i64 r, .int .i64 hd] 25)
  have pa := Quad.new w (.slice a n c) (.slice a' n' c') (.int .i64 r) (.int .i64 hd) 25
  obtain ⟨W, hW⟩ : ∃ W, W = w.alloc (.cells #[.slice a n c, .slice a' n' c', .int .i64 r, .int .i64 hd] 25) := ⟨_, rfl⟩
  rw [← hW] at ea pa
  have HW := Lib.hid hW.symm
  have EA := Lib.hid ea
  have PA := Lib.hid pa
  have p0 := pa.cell0
  have p1 := pa.cell1
  have p2 := pa.cell2
  have p3 := pa.cell3
  have HR := Lib.hid (And.intro hr hh)
  have HSZ := Lib.hid hS
  clear hW h i1 i2 hS hr hh pa ea
  go_enter Tryd.func5, Tryd.ntmps5
  obtain ⟨t1, ht1⟩ : ∃ t, t = sgB s := ⟨_, rfl⟩
  rw [← ht1] at SV
  cases t1
  · have E := Lib.hid (sgO_bad (S := S) ht1.symm)
    clear ht1
    go_upto_region 1 with fail
    rw [HW.out]
    go_wp2_with (go_at_call 14; refine (SV.out _ EA.out).mono ?_; rintro e w2 ⟨rfl, b2⟩)
    go_ret2
    exact ⟨.slice none 0 0, by rw [E.out]; rfl, by rw [stV_no E.out]; exact ⟨rfl, .inl ⟨rfl, rfl⟩⟩, EA.out.trans (b2.mono EA.out.size)⟩
  have HT1 := Lib.hid ht1.symm
  clear ht1
  obtain ⟨t2, ht2⟩ : ∃ t, t = ordB s.A.length s.B.length S := ⟨_, rfl⟩
  rw [← ht2] at SO
  cases t2
  · have E := Lib.hid (sgO_not (s := s) (S := S) ht2.symm)
    clear ht2
    go_upto_region 1 with fail
    rw [HW.out]
    go_wp2_with (first
      | (go_at_call 14; refine (SV.out _ EA.out).mono ?_; rintro e w2 ⟨rfl, b2⟩; have P2 := PA.out.below b2; have q0 := P2.cell0; have q1 := P2.cell1; have q2 := P2.cell2; have q3 := P2.cell3)
      | (go_at_call 15; refine (SO.out _ (EA.out.trans (b2.mono EA.out.size))).mono ?_; rintro e w3 ⟨rfl, b3⟩))
    go_ret2
    exact ⟨.slice none 0 0, by rw [E.out]; rfl, by rw [stV_no E.out]; exact ⟨rfl, .inl ⟨rfl, rfl⟩⟩, (EA.out.trans (b2.mono EA.out.size)).trans (b3.mono (Nat.le_trans EA.out.size b2.size))⟩
  have hok := sgO_yes (S := S) HT1.out ht2.symm
  have HO := Lib.hid hok
  have OO := Lib.hid (ordB_of ht2.symm)
  have hn12 := sgO_size hok
  have SR := Lib.hid (fun (k : Nat) (hk : k < S.size) => stA_nonneg hok hk)
  have RR := Lib.hid (fun (k : Nat) (hk : k < S.size) => rdy_range hok hk)
  have HG := Lib.hid (GR.out (sgB_of HT1.out))
  clear ht2 hok
  go_upto_region 1 with fail
  rw [HW.out]
  go_upto_region 3 with (first
      | (go_at_call 14; refine (SV.out _ EA.out).mono ?_; rintro e w2 ⟨rfl, b2⟩; have P2 := PA.out.below b2; have q0 := P2.cell0; have q1 := P2.cell1; have q2 := P2.cell2; have q3 := P2.cell3)
      | (go_at_call 15; refine (SO.out _ (EA.out.trans (b2.mono EA.out.size))).mono ?_; rintro e w3 ⟨rfl, b3⟩))
  have B3 := Lib.hid ((EA.out.trans (b2.mono EA.out.size)).trans (b3.mono (Nat.le_trans EA.out.size b2.size)))
  have P3 := Lib.hid (P2.below b3)
  have z0 := P3.out.cell0
  have z1 := P3.out.cell1
  have z2 := P3.out.cell2
  have z3 := P3.out.cell3
  clear q0 q1 q2 q3 p0 p1 p2 p3 P2 b2 b3
  go_wp2_with (go_at_call 16; refine (RT.out OO.out _ B3.out).mono ?_; rintro e w4 ⟨v4, rfl, o4, b4⟩)
  have B4 := Lib.hid (B3.out.trans (b4.mono B3.out.size))
  have P4 := Lib.hid (P3.out.below b4)
  have S4 := Lib.hid (Nat.le_trans B3.out.size b4.size)
  have S3 := Lib.hid B3.out.size
  have W3 := Lib.hid P3.out.lt
  clear z0 z1 z2 z3 b4
  rcases Nat.eq_zero_or_pos S.size with h0 | h0
  · obtain ⟨ao, no, co, rfl⟩ := own_is_slice o4
    have hno : no = 0 := by rw [o4.len, rdL_len]; exact h0
    subst hno
    have E := Lib.hid (show stV s S = rdL s S S.size by rw [stV_yes HO.out, h0]; rfl)
    have O4 := Lib.hid o4
    clear o4 h0
    go_wp2_with fail
    refine wp_loop_rounds 1 ?_
    rw [rounds_succ]
    go_wp2_with fail
    go_ret2
    exact ⟨.slice ao 0 co, by rw [HO.out]; rfl, by rw [E.out]; exact O4.out.mono S3.out, B4.out⟩
  obtain ⟨g, cap, rfl⟩ := o4.some (by rw [rdL_len]; exact h0)
  have hlen := rdL_len s S S.size
  rw [hlen] at o4 ⊢
  have o5 := o4
  rw [← mixL_one] at o5
  have hg := o5.block
  obtain ⟨N, hN⟩ : ∃ n, n = S.size := ⟨_, rfl⟩
  have SR := Lib.hid (fun (k : Nat) (hk : k < N) => SR.out k (by omega))
  have RR := Lib.hid (fun (k : Nat) (hk : k < N) => RR.out k (by omega))
  have IX := Lib.hid (fun (k : Nat) (hk : k < N) => index_at (S := S) (k := k) (by omega))
  have E := Lib.hid (show stV s S = mixL s S N N by rw [stV_yes HO.out, mixL_all _ _ _ _ (Nat.le_refl _), hN])
  rw [← hN] at o5 hS' hn12 h0 ⊢
  have hn12' : (N : Int) ≤ 12 := by omega
  have O5 := Lib.hid o5
  have hgw : w.heap.size ≤ g := by have := S3.out; omega
  have HGW := Lib.hid (show w.heap.size < g by have := W3.out; omega)
  have G0 := Lib.hid hg.1
  clear o4 o5 hN hg hgw hlen
  go_wp2_with fail
  go_loopw [7] (fun i wr => ∃ (k : Nat), 1 ≤ k ∧ k ≤ N ∧ i = .int .i64 k ∧ Hid (OwnI wr w3.heap.size (.slice (some ⟨g, 0, none⟩) N cap) (mixL s S N k)) ∧ Hid (Quad wr w.heap.size (.slice a n c) (.slice a' n' c') (.int .i64 r) (.int .i64 hd) 25) ∧ Hid (Below w.heap.size w wr)) (fun i _ => N - (intOf i).toNat)
  case atStart => exact ⟨1, by omega, by omega, rfl, O5, P4, B4⟩
  case round =>
    obtain ⟨k, hk1, hk, rfl, ho, hp, hbel⟩ := hrel
    by_cases hlt : k < N
    · obtain ⟨j, rfl⟩ : ∃ j, k = j + 1 := ⟨k - 1, by omega⟩
      have hok := ho.out
      have sj := SR.out j (by omega)
      have rk := RR.out (j + 1) hlt
      have gk := HG.out (j + 1)
      have ix1 := IX.out (j + 1) hlt
      have ix0 := IX.out j (by omega)
      have c1 := hok.at (j := j + 1) (by rw [mixL_len]; exact hlt)
      have c0 := hok.at (j := j) (by rw [mixL_len]; omega)
      rw [mixL_at hlt, if_neg (by omega)] at c1
      rw [mixL_at (by omega), if_pos (by omega)] at c0
      have f1 := hok.soft (j + 1)
      have MS := Lib.hid (mixL_set s S N (j + 1))
      have ML := Lib.hid (mixL_len s S N (j + 1))
      have AP := Lib.hid (fun (X : World) => @apart_is X (.slice a n c) (.slice a' n' c') r hd (bt S j) (bt S (j + 1)))
      have hga : (if bt S (j + 1) = bt S j then hd else r) = gap s S (j + 1) := by rw [HR.out.1, HR.out.2]; rfl
      have hst : stA s S (j + 1) = max (rdy s S (j + 1)) (stA s S j + gap s S (j + 1)) := rfl
      rw [hga] at AP
      obtain ⟨gp, hgp⟩ : ∃ x, x = gap s S (j + 1) := ⟨_, rfl⟩
      obtain ⟨st, hst2⟩ : ∃ x, x = stA s S (j + 1) := ⟨_, rfl⟩
      obtain ⟨rd, hrd⟩ : ∃ x, x = rdy s S (j + 1) := ⟨_, rfl⟩
      obtain ⟨sj0, hsj⟩ : ∃ x, x = stA s S j := ⟨_, rfl⟩
      obtain ⟨xj, hxj⟩ : ∃ x, x = bt S j := ⟨_, rfl⟩
      obtain ⟨xk, hxk⟩ : ∃ x, x = bt S (j + 1) := ⟨_, rfl⟩
      rw [← hgp] at AP gk hst
      rw [← hst2] at MS hst
      rw [← hrd] at rk c1 hst
      rw [← hsj] at sj c0 hst
      rw [← hxj] at ix0 AP
      rw [← hxk] at ix1 AP
      obtain ⟨kk, hkk⟩ : ∃ kk, kk = j + 1 := ⟨_, rfl⟩
      rw [← hkk] at c1 f1 ix1 MS ML hlt ho hok ⊢
      have i0 : (kk : Int) < (N : Int) := by omega
      have i1 : (j : Int) < (N : Int) := by omega
      have i2 : (0 : Int) ≤ (kk : Int) := by omega
      have HST := Lib.hid hst.symm
      have OK := Lib.hid hok
      have HK := Lib.hid hkk
      have PX := Lib.hid (fun (X : World) (b : Below wr.heap.size wr X) => hp.out.below b)
      have z0 := hp.out.cell0
      have z1 := hp.out.cell1
      have z2 := hp.out.cell2
      have z3 := hp.out.cell3
      have hgl : g < wr.heap.size := (hok.block).2
      have CX := Lib.hid (fun (X : World) (b : Below wr.heap.size wr X) => show X.cell? ⟨g, kk, none⟩ = some (.int .i64 rd) ∧ X.cell? ⟨g, j, none⟩ = some (.int .i64 sj0) ∧ X.frozen? ⟨g, kk, none⟩ = false ∧ OwnI X w3.heap.size (.slice (some ⟨g, 0, none⟩) N cap) (mixL s S N kk) from ⟨(b.cell (p := ⟨g, kk, none⟩) hgl).trans c1, (b.cell (p := ⟨g, j, none⟩) hgl).trans c0, (hok.below b).soft kk, hok.below b⟩)
      have d0 : Below wr.heap.size wr wr.drew := (Below.refl _ _).drew
      have hw1 : IntKind.i64.wrap ((kk : Int) - 1) = (j : Int) := by rw [hkk, show (((j + 1 : Nat) : Int)) - 1 = (j : Int) by omega]; exact IntWalk.i64_in _ (by omega)
      have hw2 : IntKind.i64.wrap (sj0 + gp) = sj0 + gp := IntWalk.i64_in _ (by omega)
      clear hga hgp hst2 hrd hsj hxj hxk hkk hst sj rk gk hok
      go_upto_region 7 with fail
      have MX := Lib.hid (show Value.int .i64 (max rd (sj0 + gp)) = .int .i64 st by rw [HST.out])
      have PO := Lib.hid (fun (X : World) (hB : Below wr.heap.size wr X) => show (fun X => OwnI X w3.heap.size (.slice (some ⟨g, 0, none⟩) N cap) (mixL s S N (kk + 1)) ∧ Quad X w.heap.size (.slice a n c) (.slice a' n' c') (.int .i64 r) (.int .i64 hd) 25 ∧ Below w.heap.size w X) (X.setCell ⟨g, kk, none⟩ (.int .i64 st)) from by
        have o6 := ((CX.out _ hB).2.2.2).put (j := kk) st
        rw [MS.out] at o6
        exact ⟨o6, (PX.out _ hB).other (a := ⟨g, kk, none⟩) (by have := HGW.out; simp only; omega) _, ((hbel.out.trans (hB.mono hbel.out.size)).setCell (p := ⟨g, kk, none⟩) (by have := HGW.out; simp only; omega) _)⟩)
      refine wp_region_goodsL (G := (fun i v _ => G7 (.slice (some ⟨g, 0, none⟩) N cap) (.int .i64 (kk : Int)) (.int .i64 (j : Int)) (.agg #[.slice a n c, .slice a' n' c', .int .i64 r, .int .i64 hd]) (.string S) (.pointer (some ⟨g, kk, none⟩)) (.pointer (some ⟨g, j, none⟩)) rd sj0 gp (sj0 + gp) st xj xk i v)) (R := (RS 23 wr (fun X => OwnI X w3.heap.size (.slice (some ⟨g, 0, none⟩) N cap) (mixL s S N (kk + 1)) ∧ Quad X w.heap.size (.slice a n c) (.slice a' n' c') (.int .i64 r) (.int .i64 hd) 25 ∧ Below w.heap.size w X))) (T := fun _ _ _ => True) (by kernel_rfl) (by kernel_rfl) ?start (fun _ _ _ _ _ _ _ _ _ _ h => h) ⟨?s0, ?s1, ?s2, ?s3, ?s4, ?s5, ?s6, ?s7, ?s8, ?s9, ?s10, ?s11, ?s12, ?s13, ?s14, ?s15, ?s16, ?s17, ?s18, ?s19, ?s20, ?s21, ?s22, ?s23, trivial⟩ ?hend
      case s0 =>
        intro ac wc D D' hDk hDk' hdo hcl hR hrest hdep K hK
        have e0 : ac.tmps.getD 6 undef = .slice (some ⟨g, 0, none⟩) N cap := hrest 6 (by kernel_rfl)
        have f0 := slot_of e0
        clear hdep hrest
        go_simp
        exact hK _ _ rfl (RS.same (hdo 23 (by decide)) hR) trivial
      case s1 =>
        intro ac wc D D' hDk hDk' hdo hcl hR hrest hdep K hK
        have e0 : ac.tmps.getD 7 undef = .int .i64 (kk : Int) := hrest 7 (by kernel_rfl)
        have f0 := slot_of e0
        clear hdep hrest
        go_simp
        exact hK _ _ rfl (RS.same (hdo 23 (by decide)) hR) trivial
      case s2 =>
        intro ac wc D D' hDk hDk' hdo hcl hR hrest hdep K hK
        have e0 : ac.tmps.getD 6 undef = .slice (some ⟨g, 0, none⟩) N cap := hrest 6 (by kernel_rfl)
        have f0 := slot_of e0
        clear hdep hrest
        go_simp
        exact hK _ _ rfl (RS.same (hdo 23 (by decide)) hR) trivial
      case s3 =>
        intro ac wc D D' hDk hDk' hdo hcl hR hrest hdep K hK
        have e0 : ac.tmps.getD 7 undef = .int .i64 (kk : Int) := hrest 7 (by kernel_rfl)
        have f0 := slot_of e0
        clear hdep hrest
        go_simp
        exact hK _ _ rfl (RS.same (hdo 23 (by decide)) hR) trivial
      case s4 =>
        intro ac wc D D' hDk hDk' hdo hcl hR hrest hdep K hK
        have e0 : ac.tmps.getD 28 undef = .slice (some ⟨g, 0, none⟩) N cap := hdep 2 (by kernel_rfl)
        have f0 := slot_of e0
        have e1 : ac.tmps.getD 29 undef = .int .i64 (kk : Int) := hdep 3 (by kernel_rfl)
        have f1 := slot_of e1
        clear hdep hrest
        go_simp
        exact hK _ _ rfl (RS.same (hdo 23 (by decide)) hR) trivial
      case s5 =>
        intro ac wc D D' hDk hDk' hdo hcl hR hrest hdep K hK
        have hD : D 23 = false := by
          cases hq : D 23 with
          | false => rfl
          | true =>
            have h21 := hcl 23 _ rfl hq 21 (by kernel_rfl)
            have h5 := hcl 21 _ rfl h21 5 (by kernel_rfl)
            rw [h5] at hDk; cases hDk
        have e0 : ac.tmps.getD 30 undef = .pointer (some ⟨g, kk, none⟩) := hdep 4 (by kernel_rfl)
        have f0 := slot_of e0
        clear hdep hrest
        have hB := RS.pre hR hD
        have cc := (CX.out _ hB).1
        go_simp
        exact hK _ _ rfl (RS.same (hdo 23 (by decide)) hR) trivial
      case s6 =>
        intro ac wc D D' hDk hDk' hdo hcl hR hrest hdep K hK
        have e0 : ac.tmps.getD 6 undef = .slice (some ⟨g, 0, none⟩) N cap := hrest 6 (by kernel_rfl)
        have f0 := slot_of e0
        clear hdep hrest
        go_simp
        exact hK _ _ rfl (RS.same (hdo 23 (by decide)) hR) trivial
      case s7 =>
        intro ac wc D D' hDk hDk' hdo hcl hR hrest hdep K hK
        have e0 : ac.tmps.getD 7 undef = .int .i64 (kk : Int) := hrest 7 (by kernel_rfl)
        have f0 := slot_of e0
        clear hdep hrest
        go_simp
        exact hK _ _ rfl (RS.same (hdo 23 (by decide)) hR) trivial
      case s8 =>
        intro ac wc D D' hDk hDk' hdo hcl hR hrest hdep K hK
        have e0 : ac.tmps.getD 33 undef = .int .i64 (kk : Int) := hdep 7 (by kernel_rfl)
        have f0 := slot_of e0
        clear hdep hrest
        go_simp
        exact hK _ _ rfl (RS.same (hdo 23 (by decide)) hR) trivial
      case s9 =>
        intro ac wc D D' hDk hDk' hdo hcl hR hrest hdep K hK
        have e0 : ac.tmps.getD 32 undef = .slice (some ⟨g, 0, none⟩) N cap := hdep 6 (by kernel_rfl)
        have f0 := slot_of e0
        have e1 : ac.tmps.getD 34 undef = .int .i64 (j : Int) := hdep 8 (by kernel_rfl)
        have f1 := slot_of e1
        clear hdep hrest
        go_simp
        exact hK _ _ rfl (RS.same (hdo 23 (by decide)) hR) trivial
      case s10 =>
        intro ac wc D D' hDk hDk' hdo hcl hR hrest hdep K hK
        have hD : D 23 = false := by
          cases hq : D 23 with
          | false => rfl
          | true =>
            have h21 := hcl 23 _ rfl hq 21 (by kernel_rfl)
            have h20 := hcl 21 _ rfl h21 20 (by kernel_rfl)
            have h10 := hcl 20 _ rfl h20 10 (by kernel_rfl)
            rw [h10] at hDk; cases hDk
        have e0 : ac.tmps.getD 35 undef = .pointer (some ⟨g, j, none⟩) := hdep 9 (by kernel_rfl)
        have f0 := slot_of e0
        clear hdep hrest
        have hB := RS.pre hR hD
        have cc := (CX.out _ hB).2.1
        go_simp
        exact hK _ _ rfl (RS.same (hdo 23 (by decide)) hR) trivial
      case s11 =>
        intro ac wc D D' hDk hDk' hdo hcl hR hrest hdep K hK
        have hD : D 23 = false := by
          cases hq : D 23 with
          | false => rfl
          | true =>
            have h21 := hcl 23 _ rfl hq 21 (by kernel_rfl)
            have h20 := hcl 21 _ rfl h21 20 (by kernel_rfl)
            have h19 := hcl 20 _ rfl h20 19 (by kernel_rfl)
            have h11 := hcl 19 _ rfl h19 11 (by kernel_rfl)
            rw [h11] at hDk; cases hDk
        have e0 : ac.tmps.getD 2 undef = .pointer (some ⟨w.heap.size, 0, none⟩) := hrest 2 (by kernel_rfl)
        have f0 := slot_of e0
        clear hdep hrest
        have hB := RS.pre hR hD
        have c0 := (PX.out _ hB).cell0
        have c1 := (PX.out _ hB).cell1
        have c2 := (PX.out _ hB).cell2
        have c3 := (PX.out _ hB).cell3
        go_simp
        exact hK _ _ rfl (RS.same (hdo 23 (by decide)) hR) trivial
      case s12 =>
        intro ac wc D D' hDk hDk' hdo hcl hR hrest hdep K hK
        have e0 : ac.tmps.getD 1 undef = .string S := hrest 1 (by kernel_rfl)
        have f0 := slot_of e0
        clear hdep hrest
        go_simp
        exact hK _ _ rfl (RS.same (hdo 23 (by decide)) hR) trivial
      case s13 =>
        intro ac wc D D' hDk hDk' hdo hcl hR hrest hdep K hK
        have e0 : ac.tmps.getD 7 undef = .int .i64 (kk : Int) := hrest 7 (by kernel_rfl)
        have f0 := slot_of e0
        clear hdep hrest
        go_simp
        exact hK _ _ rfl (RS.same (hdo 23 (by decide)) hR) trivial
      case s14 =>
        intro ac wc D D' hDk hDk' hdo hcl hR hrest hdep K hK
        have e0 : ac.tmps.getD 39 undef = .int .i64 (kk : Int) := hdep 13 (by kernel_rfl)
        have f0 := slot_of e0
        clear hdep hrest
        go_simp
        exact hK _ _ rfl (RS.same (hdo 23 (by decide)) hR) trivial
      case s15 =>
        intro ac wc D D' hDk hDk' hdo hcl hR hrest hdep K hK
        have e0 : ac.tmps.getD 38 undef = .string S := hdep 12 (by kernel_rfl)
        have f0 := slot_of e0
        have e1 : ac.tmps.getD 40 undef = .int .i64 (j : Int) := hdep 14 (by kernel_rfl)
        have f1 := slot_of e1
        clear hdep hrest
        go_simp
        exact hK _ _ rfl (RS.same (hdo 23 (by decide)) hR) trivial
      case s16 =>
        intro ac wc D D' hDk hDk' hdo hcl hR hrest hdep K hK
        have e0 : ac.tmps.getD 1 undef = .string S := hrest 1 (by kernel_rfl)
        have f0 := slot_of e0
        clear hdep hrest
        go_simp
        exact hK _ _ rfl (RS.same (hdo 23 (by decide)) hR) trivial
      case s17 =>
        intro ac wc D D' hDk hDk' hdo hcl hR hrest hdep K hK
        have e0 : ac.tmps.getD 7 undef = .int .i64 (kk : Int) := hrest 7 (by kernel_rfl)
        have f0 := slot_of e0
        clear hdep hrest
        go_simp
        exact hK _ _ rfl (RS.same (hdo 23 (by decide)) hR) trivial
      case s18 =>
        intro ac wc D D' hDk hDk' hdo hcl hR hrest hdep K hK
        have e0 : ac.tmps.getD 42 undef = .string S := hdep 16 (by kernel_rfl)
        have f0 := slot_of e0
        have e1 : ac.tmps.getD 43 undef = .int .i64 (kk : Int) := hdep 17 (by kernel_rfl)
        have f1 := slot_of e1
        clear hdep hrest
        go_simp
        exact hK _ _ rfl (RS.same (hdo 23 (by decide)) hR) trivial
      case s19 =>
        intro ac wc D D' hDk hDk' hdo hcl hR hrest hdep K hK
        have hD : D 23 = false := by
          cases hq : D 23 with
          | false => rfl
          | true =>
            have h21 := hcl 23 _ rfl hq 21 (by kernel_rfl)
            have h20 := hcl 21 _ rfl h21 20 (by kernel_rfl)
            have h19 := hcl 20 _ rfl h20 19 (by kernel_rfl)
            rw [h19] at hDk; cases hDk
        have e0 : ac.tmps.getD 37 undef = .agg #[.slice a n c, .slice a' n' c', .int .i64 r, .int .i64 hd] := hdep 11 (by kernel_rfl)
        have f0 := slot_of e0
        have e1 : ac.tmps.getD 41 undef = .int .u8 xj := hdep 15 (by kernel_rfl)
        have f1 := slot_of e1
        have e2 : ac.tmps.getD 44 undef = .int .u8 xk := hdep 18 (by kernel_rfl)
        have f2 := slot_of e2
        clear hdep hrest
        have hB := RS.pre hR hD
        go_simp
        refine (AP.out _).mono ?_
        rintro e wA ⟨rfl, bA⟩
        exact hK _ _ rfl (RS.step hR hD (hdo 23 (by decide)) bA) trivial
      case s20 =>
        intro ac wc D D' hDk hDk' hdo hcl hR hrest hdep K hK
        have e0 : ac.tmps.getD 36 undef = .int .i64 sj0 := hdep 10 (by kernel_rfl)
        have f0 := slot_of e0
        have e1 : ac.tmps.getD 45 undef = .int .i64 gp := hdep 19 (by kernel_rfl)
        have f1 := slot_of e1
        clear hdep hrest
        go_simp
        exact hK _ _ rfl (RS.same (hdo 23 (by decide)) hR) trivial
      case s21 =>
        intro ac wc D D' hDk hDk' hdo hcl hR hrest hdep K hK
        have e0 : ac.tmps.getD 31 undef = .int .i64 rd := hdep 5 (by kernel_rfl)
        have f0 := slot_of e0
        have e1 : ac.tmps.getD 46 undef = .int .i64 (sj0 + gp) := hdep 20 (by kernel_rfl)
        have f1 := slot_of e1
        clear hdep hrest
        go_simp
        have hmx := HST.out
        exact hK _ _ (MX.out) (RS.same (hdo 23 (by decide)) hR) trivial
      case s22 =>
        intro ac wc D D' hDk hDk' hdo hcl hR hrest hdep K hK
        have e0 : ac.tmps.getD 26 undef = .slice (some ⟨g, 0, none⟩) N cap := hdep 0 (by kernel_rfl)
        have f0 := slot_of e0
        have e1 : ac.tmps.getD 27 undef = .int .i64 (kk : Int) := hdep 1 (by kernel_rfl)
        have f1 := slot_of e1
        clear hdep hrest
        go_simp
        exact hK _ _ rfl (RS.same (hdo 23 (by decide)) hR) trivial
      case s23 =>
        intro ac wc D D' hDk hDk' hdo hcl hR hrest hdep K hK
        have hD : D 23 = false := by
          cases hq : D 23 with
          | false => rfl
          | true =>
            rw [hq] at hDk; cases hDk
        have e0 : ac.tmps.getD 48 undef = .pointer (some ⟨g, kk, none⟩) := hdep 22 (by kernel_rfl)
        have f0 := slot_of e0
        have e1 : ac.tmps.getD 47 undef = .int .i64 st := hdep 21 (by kernel_rfl)
        have f1 := slot_of e1
        clear hdep hrest
        have hB := RS.pre hR hD
        have cc := (CX.out _ hB).1
        have ff := (CX.out _ hB).2.2.1
        go_simp
        exact hK undef _ trivial (RS.post hDk' (PO.out _ hB)) trivial
      case start =>
        intro D hD
        exact RS.start hD d0
      case hend =>
        rintro ⟨tm, df⟩ w' D hall hsz hdf hR hrest _
        have hdf' : df = [] := hdf
        subst hdf'
        have hsz : tm.size = 50 := hsz
        have hP := hR.done (hall 23 (by decide))
        have OX := Lib.hid hP.1
        have QX := Lib.hid hP.2.1
        have BX := Lib.hid hP.2.2
        clear hP hR hall
        have e0 : tm.getD 0 undef = .agg #[.slice a n c, .slice a' n' c', .int .i64 r, .int .i64 hd] := hrest 0 (by kernel_rfl)
        have e1 : tm.getD 1 undef = .string S := hrest 1 (by kernel_rfl)
        have e2 : tm.getD 2 undef = .pointer (some ⟨w.heap.size, 0, none⟩) := hrest 2 (by kernel_rfl)
        have e3 : tm.getD 3 undef = undef := hrest 3 (by kernel_rfl)
        have e4 : tm.getD 4 undef = .slice none 0 0 := hrest 4 (by kernel_rfl)
        have e5 : tm.getD 5 undef = .bool false := hrest 5 (by kernel_rfl)
        have e6 : tm.getD 6 undef = .slice (some ⟨g, 0, none⟩) N cap := hrest 6 (by kernel_rfl)
        have e7 : tm.getD 7 undef = .int .i64 (kk : Int) := hrest 7 (by kernel_rfl)
        have e8 : tm.getD 8 undef = .agg #[.slice a n c, .slice a' n' c', .int .i64 r, .int .i64 hd] := hrest 8 (by kernel_rfl)
        have e9 : tm.getD 9 undef = .bool true := hrest 9 (by kernel_rfl)
        have e10 : tm.getD 10 undef = .bool false := hrest 10 (by kernel_rfl)
        have e11 : tm.getD 11 undef = .bool false := hrest 11 (by kernel_rfl)
        have e12 : tm.getD 12 undef = .agg #[.slice a n c, .slice a' n' c', .int .i64 r, .int .i64 hd] := hrest 12 (by kernel_rfl)
        have e13 : tm.getD 13 undef = .string S := hrest 13 (by kernel_rfl)
        have e14 : tm.getD 14 undef = .bool true := hrest 14 (by kernel_rfl)
        have e15 : tm.getD 15 undef = .bool false := hrest 15 (by kernel_rfl)
        have e16 : tm.getD 16 undef = .bool false := hrest 16 (by kernel_rfl)
        have e17 : tm.getD 17 undef = .agg #[.slice a n c, .slice a' n' c', .int .i64 r, .int .i64 hd] := hrest 17 (by kernel_rfl)
        have e18 : tm.getD 18 undef = .string S := hrest 18 (by kernel_rfl)
        have e19 : tm.getD 19 undef = .slice (some ⟨g, 0, none⟩) N cap := hrest 19 (by kernel_rfl)
        have e20 : tm.getD 20 undef = .int .i64 (kk : Int) := hrest 20 (by kernel_rfl)
        have e21 : tm.getD 21 undef = .slice (some ⟨g, 0, none⟩) N cap := hrest 21 (by kernel_rfl)
        have e22 : tm.getD 22 undef = .int .i64 (N : Int) := hrest 22 (by kernel_rfl)
        have e23 : tm.getD 23 undef = .bool true := hrest 23 (by kernel_rfl)
        have e24 : tm.getD 24 undef = u24 := hrest 24 (by kernel_rfl)
        have e25 : tm.getD 25 undef = u25 := hrest 25 (by kernel_rfl)
        have e49 : tm.getD 49 undef = undef := hrest 49 (by kernel_rfl)
        clear hrest
        have htm := frame_of tm 50 hsz
        simp only [show List.range 50 = [0, 1, 2, 3, 4, 5, 6, 7, 8, 9, 10, 11, 12, 13, 14, 15, 16, 17, 18, 19, 20, 21, 22, 23, 24, 25, 26, 27, 28, 29, 30, 31, 32, 33, 34, 35, 36, 37, 38, 39, 40, 41, 42, 43, 44, 45, 46, 47, 48, 49] from rfl, List.map] at htm
        generalize tm.getD 0 undef = x0 at *
        generalize tm.getD 1 undef = x1 at *
        generalize tm.getD 2 undef = x2 at *
        generalize tm.getD 3 undef = x3 at *
        generalize tm.getD 4 undef = x4 at *
        generalize tm.getD 5 undef = x5 at *
        generalize tm.getD 6 undef = x6 at *
        generalize tm.getD 7 undef = x7 at *
        generalize tm.getD 8 undef = x8 at *
        generalize tm.getD 9 undef = x9 at *
        generalize tm.getD 10 undef = x10 at *
        generalize tm.getD 11 undef = x11 at *
        generalize tm.getD 12 undef = x12 at *
        generalize tm.getD 13 undef = x13 at *
        generalize tm.getD 14 undef = x14 at *
        generalize tm.getD 15 undef = x15 at *
        generalize tm.getD 16 undef = x16 at *
        generalize tm.getD 17 undef = x17 at *
        generalize tm.getD 18 undef = x18 at *
        generalize tm.getD 19 undef = x19 at *
        generalize tm.getD 20 undef = x20 at *
        generalize tm.getD 21 undef = x21 at *
        generalize tm.getD 22 undef = x22 at *
        generalize tm.getD 23 undef = x23 at *
        generalize tm.getD 24 undef = x24 at *
        generalize tm.getD 25 undef = x25 at *
        generalize tm.getD 26 undef = x26 at *
        generalize tm.getD 27 undef = x27 at *
        generalize tm.getD 28 undef = x28 at *
        generalize tm.getD 29 undef = x29 at *
        generalize tm.getD 30 undef = x30 at *
        generalize tm.getD 31 undef = x31 at *
        generalize tm.getD 32 undef = x32 at *
        generalize tm.getD 33 undef = x33 at *
        generalize tm.getD 34 undef = x34 at *
        generalize tm.getD 35 undef = x35 at *
        generalize tm.getD 36 undef = x36 at *
        generalize tm.getD 37 undef = x37 at *
        generalize tm.getD 38 undef = x38 at *
        generalize tm.getD 39 undef = x39 at *
        generalize tm.getD 40 undef = x40 at *
        generalize tm.getD 41 undef = x41 at *
        generalize tm.getD 42 undef = x42 at *
        generalize tm.getD 43 undef = x43 at *
        generalize tm.getD 44 undef = x44 at *
        generalize tm.getD 45 undef = x45 at *
        generalize tm.getD 46 undef = x46 at *
        generalize tm.getD 47 undef = x47 at *
        generalize tm.getD 48 undef = x48 at *
        generalize tm.getD 49 undef = x49 at *
        subst htm
        subst e0 e1 e2 e3 e4 e5 e6 e7 e8 e9 e10 e11 e12 e13 e14 e15 e16 e17 e18 e19 e20 e21 e22 e23 e24 e25 e49
        go_wp2_with fail
        go_roundw
        case rel => exact ⟨kk + 1, by omega, by omega, by go_num, OX, QX, BX⟩
        case measure => simp [intOf]; omega
    · obtain rfl : k = N := by omega
      have O6 := Lib.hid (ho.out.mono S3.out)
      go_wp2_with fail
      go_ret2
      exact ⟨.slice (some ⟨g, 0, none⟩) k cap, by rw [HO.out]; rfl, by rw [E.out]; exact O6.out, hbel.out⟩

end Go.Proofs.YtlcmkocbpnekhaaDoor
