/-
  The reading of a ring with the fewest codes, by the model: for a book of at most 1048576 lists, each of at most as many integers, and a ring of at most as many.
-/
import Derived.Test.YtcfnklpbiodhjaaFewP
import Derived.Test.YtcfnklpbiodhjaaReads
import Derived.Test.YtcfnklpbiodhjaaRingP
import Derived.Maps.AppendAt
import Derived.BigQuiet
namespace Go.Proofs.Ytcfnklpbiodhjaa
open Go.RowKit Go.Sort

/-- The fewest codes of the last d places, and of the place itself, as far as they are written. -/
def fewD (bk : List (List Int)) (rs : List Int) (d q : Nat) : Int := if rs.length ≤ q + d then fewOf (tab bk rs d q) else 0
/-- The same while the row of place q with q + (d + 1) = n is made. -/
def midF (bk : List (List Int)) (rs : List Int) (d k q : Nat) : Int := if q + (d + 1) = rs.length then fewTo (tab bk rs d) bk rs q k else fewD bk rs d q
theorem midF_row {bk : List (List Int)} {rs : List Int} {d k p : Nat} (hp : p + (d + 1) = rs.length) : midF bk rs d k p = fewTo (tab bk rs d) bk rs p k := by unfold midF; rw [if_pos hp]
theorem midF_other {bk : List (List Int)} {rs : List Int} {d k q : Nat} (hp : q + (d + 1) ≠ rs.length) : midF bk rs d k q = fewD bk rs d q := by unfold midF; rw [if_neg hp]
theorem midF_here {bk : List (List Int)} {rs : List Int} {d k p : Nat} (h : here bk rs p k = true) (hp : p + (d + 1) = rs.length) (h1 : 1 ≤ clen bk k) : midF bk rs d (k + 1) p = min (midF bk rs d k p) (midF bk rs d k (p + clen bk k) + 1) := by
  rw [midF_row hp, midF_row hp, midF_other (by omega)]
  simp only [fewTo]
  rw [if_pos h]
  unfold fewD
  rw [if_pos (by omega)]
theorem midF_no {bk : List (List Int)} {rs : List Int} {d k p : Nat} (h : here bk rs p k = false) (hp : p + (d + 1) = rs.length) (q : Nat) : midF bk rs d (k + 1) q = midF bk rs d k q := by
  by_cases e : q = p
  · subst e
    rw [midF_row hp, midF_row hp]
    simp only [fewTo]
    rw [h]
    simp
  · rw [midF_other (by omega), midF_other (by omega)]
theorem midF_all {bk : List (List Int)} {rs : List Int} {d : Nat} (hl : Lens bk) (hd : Differ bk) (hb : bk.length ≤ 1048576) (hn : rs.length ≤ 20) (q : Nat) : midF bk rs d bk.length q = fewD bk rs (d + 1) q := by
  by_cases e : q + (d + 1) = rs.length
  · rw [midF_row e]
    unfold fewD
    rw [if_pos (by omega), tab_last _ _ _ _ e]
    exact (rowFit hl hd hn (by omega) (fun q' _ h2 => tab_fit hl hd hb hn d q' h2) _ (Nat.le_refl _)).few
  · rw [midF_other e]
    unfold fewD
    rw [tab_else _ _ _ _ e]
    by_cases h : rs.length ≤ q + d
    · rw [if_pos h, if_pos (by omega)]
    · rw [if_neg h, if_neg (by omega)]
theorem fewOf_bounds {n q : Nat} {x : Tri} (h : Fit n q x) : 0 ≤ fewOf x ∧ fewOf x ≤ 1000 := by
  have := h.codes0
  have := h.codes
  unfold fewOf
  split <;> omega
theorem fewD_bounds {bk : List (List Int)} {rs : List Int} (hl : Lens bk) (hd : Differ bk) (hb : bk.length ≤ 1048576) (hn : rs.length ≤ 20) (d : Nat) {q : Nat} (hq : q ≤ rs.length) : 0 ≤ fewD bk rs d q ∧ fewD bk rs d q ≤ 1000 := by
  unfold fewD
  split
  · exact fewOf_bounds (tab_fit hl hd hb hn d q hq)
  · omega
theorem midF_bounds {bk : List (List Int)} {rs : List Int} (hl : Lens bk) (hd : Differ bk) (hb : bk.length ≤ 1048576) (hn : rs.length ≤ 20) (d : Nat) {k q : Nat} (hk : k ≤ bk.length) (hq : q ≤ rs.length) : 0 ≤ midF bk rs d k q ∧ midF bk rs d k q ≤ 1000 := by
  by_cases e : q + (d + 1) = rs.length
  · rw [midF_row e, (rowFit (rs := rs) (p := q) hl hd hn (by omega) (fun q' _ h2 => tab_fit hl hd hb hn d q' h2) k hk).few]
    have r := rowFit hl hd hn (show q < rs.length by omega) (fun q' _ h2 => tab_fit hl hd hb hn d q' h2) k hk
    unfold fewOf
    split
    · omega
    · rename_i h0
      obtain ⟨j, hj, _, hh, h1, h2⟩ := r.first h0
      have f := tab_fit hl hd hb hn d _ (here_room hh (hl j (by omega)).1)
      have := f.codes0
      have := f.codes
      omega
  · rw [midF_other e]
    exact fewD_bounds hl hd hb hn d hq

theorem readings_some {bk : List (List Int)} {rs : List Int} (hb : bookB bk = true) (hg : groupsB rs 0 20 = true) (hbl : bk.length ≤ 1048576) : (readB bk rs = true → 1 ≤ readingsOf bk rs) ∧ (readB bk rs = false → readingsOf bk rs < 1) := by
  have hn := (groupsB_ok hg).2.2
  have f := (tab_fit (rs := rs) (lens_of hb) (differ_of hb) hbl (by omega) rs.length 0 (Nat.zero_le _)).pos
  have e : readingsOf bk rs = (whole bk rs 0).1 := by unfold readingsOf whole; rw [hb, hg]; rfl
  have e2 : readB bk rs = decide ((whole bk rs 0).1 ≠ 0) := by unfold readB; rw [hb, hg]; rfl
  rw [e, e2]
  unfold whole
  constructor
  · intro h
    have := of_decide_eq_true h
    omega
  · intro h
    have := of_decide_eq_false h
    simp only [ne_eq, Decidable.not_not] at this
    omega
theorem readings_none {bk : List (List Int)} {rs : List Int} (h : bookB bk = false ∨ groupsB rs 0 20 = false) : readingsOf bk rs < 1 ∧ readB bk rs = false := by
  unfold readingsOf readB
  rcases h with h | h
  · rw [h]; simp
  · rw [h]; simp
theorem readings_if {bk : List (List Int)} {rs : List Int} (hbl : bk.length ≤ 1048576) : (readB bk rs = true → 1 ≤ readingsOf bk rs ∧ bookB bk = true ∧ groupsB rs 0 20 = true) ∧ (readB bk rs = false → readingsOf bk rs < 1) := by
  by_cases h : bookB bk = true ∧ groupsB rs 0 20 = true
  · have := readings_some h.1 h.2 hbl
    exact ⟨fun q => ⟨this.1 q, h.1, h.2⟩, this.2⟩
  · have : bookB bk = false ∨ groupsB rs 0 20 = false := by
      cases h1 : bookB bk
      · exact .inl rfl
      · cases h2 : groupsB rs 0 20
        · exact .inr rfl
        · exact absurd ⟨h1, h2⟩ h
    have r := readings_none this
    exact ⟨fun q => (by rw [r.2] at q; cases q), fun _ => r.1⟩

set_option maxHeartbeats 4000000 in
theorem specRead {w : World} {u v : Value} {bk : List (List Int)} {rs : List Int} (h : Lists w u bk) (hx : Ints w v rs) :
    Calls Try.prog 16 #[u, v] w (MadeIntsB w (readOf bk rs) (readB bk rs)) := by
  have h1 := h
  have hx1 := hx
  obtain ⟨a, cap, rfl, hl, hc⟩ := h
  obtain ⟨a', cap', rfl, hl2, hc'⟩ := hx
  have hl' : (bk.length : Int) ≤ 1048576 := by omega
  have hl2' : (rs.length : Int) ≤ 1048576 := by omega
  have hif := readings_if (bk := bk) (rs := rs) (by omega)
  have og0 : OwnI (w.alloc (.cells #[] 3)) w.heap.size (.slice (some ⟨w.heap.size, 0, none⟩) 0 0) [] := own_empty w
  have ob0 : Below w.heap.size w (w.alloc (.cells #[] 3)) := (Below.refl _ _).alloc (Nat.le_refl _) _
  have HS := Lib.hid (specReadings (h1.below ob0) (hx1.below ob0))
  cases hrb : readB bk rs
  · have hlt := hif.2 hrb
    have HN := Lib.hid (readOf_no hrb)
    rw [HN.out]
    clear hif hc hc' hrb h1 hx1
    have hlt' : readingsOf bk rs < 1 := hlt
    obtain ⟨R, hR⟩ : ∃ R, R = readingsOf bk rs := ⟨_, rfl⟩
    rw [← hR] at hlt hlt' HS
    clear hR
    go_enter Try.func16, Try.ntmps16
    go_wp2_with (go_at_call 8; refine HS.out.mono ?_)
    rintro e w1 ⟨rfl, b1⟩
    go_wp2_with fail
    go_ret2
    exact ⟨_, rfl, og0.below b1, ob0.trans (b1.mono ob0.size)⟩
  · obtain ⟨hge, hv, hg⟩ := hif.1 hrb
    clear hif
    have hn := (groupsB_ok hg).2.2
    have LN := Lib.hid (lens_of hv)
    have DF := Lib.hid (differ_of hv)
    have HRB := Lib.hid hrb
    have hw0 : (whole bk rs 0).1 ≠ 0 := by
      have e : readB bk rs = decide ((whole bk rs 0).1 ≠ 0) := by unfold readB; rw [hv, hg]; rfl
      rw [e] at hrb
      exact of_decide_eq_true hrb
    have HW0 := Lib.hid hw0
    obtain ⟨n, hnn⟩ : ∃ n, n = rs.length := ⟨_, rfl⟩
    have HNN := Lib.hid hnn
    have hn20 : (n : Int) ≤ 20 := by omega
    have hmk := run_make_row' (P := Try.prog) 24 3 (.int .i64 0) 8 Try.underlying24 info_int rfl .i64 .i64 (n + 1) (by omega) (by omega)
    have hmk' : ∀ w : World, (Instr.makeSlice 24 (.int .i64 ((n : Int) + 1)) (.int .i64 ((n : Int) + 1))).run Try.prog w = .ok (.slice (some ⟨w.heap.size, 0, none⟩) (n + 1) (n + 1)) (w.alloc (.cells (madeCells #[.int .i64 0] (n + 1)) 3)) := by
      have := hmk; simpa using this
    clear hmk
    obtain ⟨R, hR⟩ : ∃ R, R = readingsOf bk rs := ⟨_, rfl⟩
    rw [← hR] at hge HS
    rw [← hnn] at hl2' hl2 HS ⊢
    clear hR hnn hrb hw0 hg hv
    go_enter Try.func16, Try.ntmps16
    go_wp2_with (go_at_call 8; refine HS.out.mono ?_)
    rintro e w1 ⟨rfl, b1⟩
    have ob1 := ob0.trans (b1.mono ob0.size)
    have og1 := og0.below b1
    have hszS : w.heap.size < w1.heap.size := (World.ownsRow.lt og1 w.heap.size rfl).2
    clear og0 b1 HS
    have hr0 := World.rowIs_made w1 (.int .i64 0) (n + 1) 3
    have hr1 : (w1.alloc (.cells (madeCells #[.int .i64 0] (n + 1)) 3)).rowIs w1.heap.size 3 (n + 1) (fun q => .int .i64 (fewD bk rs 0 q)) := by
      refine hr0.congr (fun j hj => ?_)
      unfold fewD
      rw [← HNN.out]
      split
      · have : j = rs.length := by have := HNN.out; omega
        simp [fewOf, tab, this]
      · rfl
    have hb1 := ob1.alloc ob1.size (.cells (madeCells #[.int .i64 0] (n + 1)) 3)
    have hsz1 := ob1.size
    have og2 : OwnI (w1.alloc (.cells (madeCells #[.int .i64 0] (n + 1)) 3)) w.heap.size (.slice (some ⟨w.heap.size, 0, none⟩) 0 0) [] := og1.below ((Below.refl _ _).alloc (Nat.le_refl _) _)
    have HR1 := Lib.hid hr1
    have OG2 := Lib.hid og2
    clear hr0 hr1 og1 og2
    go_wp2_with fail
    go_loopw [8, 9] (fun A _ wr => ∃ p1 d : Nat, p1 + d = n ∧ A = .int .i64 ((p1 : Int) - 1) ∧ wr.rowIs w1.heap.size 3 (n + 1) (fun q => .int .i64 (fewD bk rs d q)) ∧ OwnI wr w.heap.size (.slice (some ⟨w.heap.size, 0, none⟩) 0 0) [] ∧ Below w.heap.size w wr) (fun A _ _ => (intOf A + 1).toNat)
    case atStart => exact ⟨n, 0, by omega, rfl, HR1.out, OG2.out, hb1⟩
    case round =>
      clear HR1 OG2 hb1
      obtain ⟨p1, d, hpd, rfl, hrow, hown, hbel⟩ := hrel
      cases p1 with
      | zero =>
        obtain rfl : d = n := by omega
        have hr2 : wr.rowIs w1.heap.size 3 (d + 1) (fun q => .int .i64 (fewOf (whole bk rs q))) := by
          refine hrow.congr (fun j hj => ?_)
          unfold fewD whole
          rw [← HNN.out, if_pos (by omega)]
        have HR2 := Lib.hid hr2
        have HO2 := Lib.hid hown
        clear hrow hr2 hown
        rw [show ((0 : Nat) : Int) - 1 = (-1 : Int) from rfl]
        go_wp2_with fail
        obtain ⟨i0, hi, hz0, hz1, hz2⟩ := info_parts info_int
        have hw1 : w.heap.size + 1 ≤ w1.heap.size := hszS
        go_loopw [6, 10, 11] (fun O A _ wr => ∃ (p : Nat) (out : List Int), A = .int .i64 p ∧ Walked bk rs out p ∧ OwnI wr w.heap.size O out ∧ O.ownBlock ≠ some w1.heap.size ∧ wr.rowIs w1.heap.size 3 (d + 1) (fun q => .int .i64 (fewOf (whole bk rs q))) ∧ Below w.heap.size w wr) (fun _ A _ _ => d - (intOf A).toNat)
        case atStart => exact ⟨0, [], rfl, Walked.zero HW0.out, HO2.out, by simp [Value.ownBlock]; omega, HR2.out, hbel⟩
        case round =>
          clear HR2 HO2 hbel
          obtain ⟨p, out, rfl, hwk, hown, hne, hrow, hbel⟩ := hrel
          have hwl := hwk.len
          rw [← HNN.out] at hwl
          by_cases hp : p < d
          · obtain ⟨j, hj1, hj2, hj3, hj4, hj5, hj6⟩ := whole_first (rs := rs) LN.out DF.out (by omega) (by have := HNN.out; omega) (p := p) (by rw [← HNN.out]; exact hp) hwk.some
            have hlj := (LN.out j hj1).1
            have hroomj := here_room hj3 hlj
            have HWN := Lib.hid (hwk.next (by rw [← HNN.out]; exact hp) hlj hj2 hj3 hj4)
            have HJ3 := Lib.hid hj3
            have HJ5 := Lib.hid hj5
            have HJ6 := Lib.hid hj6
            have HROW := Lib.hid hrow
            have HOWN := Lib.hid hown
            have HNE := Lib.hid hne
            have hpd : (p : Int) < (d : Int) := by omega
            clear hj2 hj3 hj4 hj5 hj6 hrow hown hne hwk
            go_wp2_with fail
            go_loopw [11] (fun K ws => ∃ k : Nat, k ≤ j ∧ K = .int .i64 k ∧ OwnI ws w.heap.size u6 out ∧ ws.rowIs w1.heap.size 3 (d + 1) (fun q => .int .i64 (fewOf (whole bk rs q))) ∧ Below w.heap.size w ws) (fun K _ => j - (intOf K).toNat)
            case atStart => exact ⟨0, by omega, rfl, HOWN.out, HROW.out, hbel⟩
            case round =>
              clear HROW HOWN hbel
              obtain ⟨k, hk, rfl, hown, hrow, hbel⟩ := hrel
              rcases hc with rfl | ⟨b, o, rfl, hb, hcell⟩
              · simp at hj1
              · have hkl : k < bk.length := by omega
                obtain ⟨y, hy, iy⟩ := hcell k hkl
                obtain ⟨ys, hys⟩ : ∃ ys, ys = bk.getD k [] := ⟨_, rfl⟩
                have hll := LN.out k hkl
                have hcl : clen bk k = ys.length := by unfold clen; rw [hys]
                rw [hcl] at hll
                rw [← hys] at iy
                have hhere : here bk rs p k = decide (ys = (rs.drop p).take ys.length) := by unfold here; rw [hys]
                have HAT0 := Lib.hid (fun dd os => Calls.regrown_of (specAt (p := p) ((hx1.below hbel).below (below_regrown wr dd os)) ((iy.below hbel).below (below_regrown wr dd os)) hll.1 (by have := HNN.out; omega)))
                rw [← hhere, ← HNN.out] at HAT0
                obtain ⟨ay, cy, rfl, hyl, -⟩ := id iy
                have hc1 : wr.cell? ⟨b, o + k, none⟩ = some (.slice ay ys.length cy) := (hbel.cell (p := ⟨b, o + k, none⟩) hb).trans hy
                have hki : (k : Int) < (bk.length : Int) := by omega
                have HCL := Lib.hid hcl
                have HCC := Lib.hid hcell
                have HROW := Lib.hid hrow
                have HOWN := Lib.hid hown
                have hd1 : ∀ dd os, (grow (redrawn wr dd) os).cell? ⟨b, o + k, none⟩ = some (.slice ay ys.length cy) := fun dd os => cell_regrown hc1 dd os
                clear hcell hys hcl hy iy hhere hrow hown hc1
                cases hh : here bk rs p k
                · rw [hh] at HAT0
                  have hkj : k ≠ j := by
                    intro e
                    rw [e, HJ3.out] at hh
                    cases hh
                  clear hh
                  go_wp2_with fail
                  refine wp_region_quiet_below (by kernel_rfl) (by kernel_rfl) ?_
                  repeat (go_big_quiet_step (exact HAT0.out _ _))
                  refine wpQuiet_nil ?_
                  intro _ hw'
                  obtain ⟨⟨dq, osq⟩, hw''⟩ := hw'
                  subst hw''
                  go_wp2_with fail
                  go_roundw
                  case rel => exact ⟨k + 1, by omega, by go_num, HOWN.out.below (below_regrown wr dq osq), HROW.out.of_block ((below_regrown wr dq osq).block _ HROW.out.lt), hbel.trans ((below_regrown wr dq osq).mono hbel.size)⟩
                  case measure => simp [intOf]; omega
                · rw [hh] at HAT0
                  have hroom := here_room hh (by rw [HCL.out]; exact hll.1)
                  have hbX := fewOf_bounds (tab_fit (rs := rs) LN.out DF.out (by omega) (by have := HNN.out; omega) rs.length (p + clen bk k) hroom)
                  rw [HCL.out, ← HNN.out] at hroom
                  obtain ⟨X, hX⟩ : ∃ X, X = fewOf (whole bk rs (p + clen bk k)) := ⟨_, rfl⟩
                  obtain ⟨Y, hY⟩ : ∃ Y, Y = fewOf (whole bk rs p) := ⟨_, rfl⟩
                  have hbX' : 0 ≤ X ∧ X ≤ 1000 := by rw [hX]; exact hbX
                  have hw1x : IntKind.i64.wrap (X + 1) = X + 1 := IntWalk.i64_in _ (by omega)
                  have hcX : wr.cell? ⟨w1.heap.size, p + ys.length, none⟩ = some (.int .i64 X) := by rw [hX, HCL.out]; exact HROW.out.cell (by omega)
                  have hcY : wr.cell? ⟨w1.heap.size, p, none⟩ = some (.int .i64 Y) := by rw [hY]; exact HROW.out.cell (by omega)
                  have hd2 : ∀ dd os, (grow (redrawn wr dd) os).cell? ⟨w1.heap.size, p + ys.length, none⟩ = some (.int .i64 X) := fun dd os => cell_regrown hcX dd os
                  have hd3 : ∀ dd os, (grow (redrawn wr dd) os).cell? ⟨w1.heap.size, p, none⟩ = some (.int .i64 Y) := fun dd os => cell_regrown hcY dd os
                  have hws : IntKind.i64.wrap ((p : Int) + (ys.length : Int)) = (p : Int) + (ys.length : Int) := IntWalk.i64_in _ (by omega)
                  have hi3 : ((p : Int) + (ys.length : Int)).toNat = p + ys.length := by omega
                  have hi2 : (p : Int) + (ys.length : Int) < (d : Int) + 1 := by omega
                  have hi4 : 0 ≤ (p : Int) + (ys.length : Int) := by omega
                  have hi5 : (p : Int) < (d : Int) + 1 := by omega
                  have hi6 : p + ys.length < d + 1 := by omega
                  have hi7 : p < d + 1 := by omega
                  clear hcX hcY hbX hbX'
                  by_cases hkj : k = j
                  · have hne0 : (X + 1 == Y) = true := by subst hkj; rw [hX, hY]; simpa using HJ5.out
                    have hne1 : (X + 1 != Y) = false := by simp only [bne, hne0, Bool.not_true]
                    have HKJ := Lib.hid hkj
                    clear hh hX hY hkj
                    go_wp2_with fail
                    refine wp_region_quiet_below (by kernel_rfl) (by kernel_rfl) ?_
                    repeat (go_big_quiet_step (exact HAT0.out _ _))
                    refine wpQuiet_nil ?_
                    intro _ hw'
                    obtain ⟨⟨dq, osq⟩, hw''⟩ := hw'
                    subst hw''
                    have hownq := HOWN.out.below (below_regrown wr dq osq)
                    have hrowq := HROW.out.of_block ((below_regrown wr dq osq).block _ HROW.out.lt)
                    have hbq := hbel.trans ((below_regrown wr dq osq).mono hbel.size)
                    have hd1' := hd1 dq osq
                    obtain ⟨W, hW⟩ : ∃ W, W = grow (redrawn wr dq) osq := ⟨_, rfl⟩
                    rw [← hW] at hownq hrowq hbq hd1' ⊢
                    have hol := hwl.1
                    have hszq := hbq.size
                    unfold OwnI at hownq
                    clear hW hd1 hd2 hd3 hws hi3 hw1x HOWN HROW hbel HAT0
                    go_wp2_with (at_builtin; refine wpList_append_own_at _ rfl _ _ 24 rfl w.heap.size 3 i0 (.int .i64 0) 1 8 Try.underlying24 hi hz0 hz1 hz2 rfl (by decide) _ _ _ rfl (hownq.alloc _) ⟨W.heap.size, 0, none⟩ 1 1 [.int .i64 k] rfl rfl ?c1 ?c2 ?c3 ?c4 ?c5 ?_)
                    case c1 => exact cell_one_new _ _ _
                    case c2 => intro u hu; simp at hu; subst hu; rfl
                    case c3 => simp only [maxLen]; omega
                    case c4 => omega
                    case c5 => simp; omega
                    intro v' w3 hown' hgrow _ hat
                    have hal : Below W.heap.size W (W.alloc (.cells #[.int .i64 k] 3)) := (Below.refl _ _).alloc (Nat.le_refl _) _
                    have hlt1 : w1.heap.size < W.heap.size := hrowq.lt
                    have hb3 : Below w.heap.size w w3 := (hbq.alloc hszq (.cells #[.int .i64 k] 3)).grown hgrow (by simp; omega) (fun g hg => (World.ownsRow.lt hownq g hg).1)
                    have hr3 := (hrowq.of_block (hal.block _ hrowq.lt)).of_block (hgrow.block _ (by simp; omega) (fun e => HNE.out e.symm))
                    have hne3 : v'.ownBlock ≠ some w1.heap.size := by
                      rcases hat with q | q
                      · rw [q]; exact HNE.out
                      · rw [q]; simp; omega
                    have ho3 : OwnI w3 w.heap.size v' (out ++ [(k : Int)]) := by
                      unfold OwnI
                      rw [List.length_append, List.map_append]
                      exact hown'
                    have hc3 : w3.cell? ⟨b, o + k, none⟩ = some (.slice ay ys.length cy) := by
                      refine hgrow.cell ?_ (fun e => ?_)
                      · rw [hal.cell (p := ⟨b, o + k, none⟩) (by show b < W.heap.size; omega)]
                        exact hd1'
                      · have := (World.ownsRow.lt hownq b e.symm).1
                        omega
                    have HO3 := Lib.hid ho3
                    have HN3 := Lib.hid hne3
                    have HR3 := Lib.hid hr3
                    have HW3 := Lib.hid (show Walked bk rs (out ++ [(k : Int)]) (p + ys.length) by rw [← HCL.out, HKJ.out]; exact HWN.out)
                    clear ho3 hne3 hr3 hown' hgrow hat hownq hrowq hbq hd1' hal
                    go_wp2_with fail
                    go_roundw
                    case rel => exact ⟨p + ys.length, _, by go_num, HW3.out, HO3.out, HN3.out, HR3.out, hb3⟩
                    case measure => simp [intOf]; omega
                  · have hne0 : (X + 1 == Y) = false := by
                      have := HJ6.out k (by omega) hh
                      rw [← hX, ← hY] at this
                      simpa using this
                    have hne1 : (X + 1 != Y) = true := by simp only [bne, hne0, Bool.not_false]
                    clear hh hX hY
                    go_wp2_with fail
                    refine wp_region_quiet_below (by kernel_rfl) (by kernel_rfl) ?_
                    repeat (go_big_quiet_step (exact HAT0.out _ _))
                    refine wpQuiet_nil ?_
                    intro _ hw'
                    obtain ⟨⟨dq, osq⟩, hw''⟩ := hw'
                    subst hw''
                    clear hws hi3 hw1x
                    go_wp2_with fail
                    go_roundw
                    case rel => exact ⟨k + 1, by omega, by go_num, HOWN.out.below (below_regrown wr dq osq), HROW.out.of_block ((below_regrown wr dq osq).block _ HROW.out.lt), hbel.trans ((below_regrown wr dq osq).mono hbel.size)⟩
                    case measure => simp [intOf]; omega
          · obtain rfl : p = d := by omega
            go_wp2_with fail
            go_ret2
            refine ⟨u6, rfl, ?_, hbel⟩
            rw [Walked.done (rs := rs) (by rw [← HNN.out]; exact hwk) HRB.out]
            exact hown
      | succ p =>
        rw [show ((p + 1 : Nat) : Int) - 1 = (p : Int) by omega]
        have hp0 : 0 ≤ (p : Int) := by omega
        have hpn : p + (d + 1) = n := by omega
        have HPN := Lib.hid (show p + (d + 1) = rs.length by rw [← HNN.out]; exact hpn)
        have k1 : ∃ x, wr.cell? ⟨w1.heap.size, p, none⟩ = some x := ⟨_, hrow.cell (by omega)⟩
        obtain ⟨x, k1⟩ := k1
        have kf : wr.frozen? ⟨w1.heap.size, p, none⟩ = false := hrow.frozen p
        have hp1 : (p : Int) < (n : Int) + 1 := by omega
        have hp1' : p < n + 1 := by omega
        have HROW := Lib.hid hrow
        have HOWN := Lib.hid hown
        clear hpd hrow hown
        go_wp2_with fail
        have hm0 : (wr.setCell ⟨w1.heap.size, p, none⟩ (.int .i64 1000)).rowIs w1.heap.size 3 (n + 1) (fun q => .int .i64 (midF bk rs d 0 q)) := by
          refine (HROW.out.set p (.int .i64 1000)).congr (fun i _ => ?_)
          by_cases q : i = p
          · subst q
            rw [if_pos rfl, midF_row HPN.out]
            rfl
          · rw [if_neg q, midF_other (by have := HPN.out; omega)]
        have ho0 : OwnI (wr.setCell ⟨w1.heap.size, p, none⟩ (.int .i64 1000)) w.heap.size (.slice (some ⟨w.heap.size, 0, none⟩) 0 0) [] := ownsRow_setCell_other HOWN.out (by simp [Value.ownBlock]; omega) _
        have hs0 := hbel.setCell (p := ⟨w1.heap.size, p, none⟩) hsz1 (.int .i64 1000)
        clear k1 kf
        go_loopw [9] (fun K ws => ∃ k : Nat, k ≤ bk.length ∧ K = .int .i64 k ∧ ws.rowIs w1.heap.size 3 (n + 1) (fun q => .int .i64 (midF bk rs d k q)) ∧ OwnI ws w.heap.size (.slice (some ⟨w.heap.size, 0, none⟩) 0 0) [] ∧ Below w.heap.size w ws) (fun K _ => bk.length - (intOf K).toNat)
        case atStart => exact ⟨0, by omega, rfl, hm0, ho0, ⟨hs0.os, hs0.tape, hs0.output, hs0.size, hs0.block⟩⟩
        case round =>
          clear hm0 ho0 hs0 HROW HOWN hbel
          obtain ⟨k, hk, rfl, hrow, hown, hbel⟩ := hrel
          by_cases hlt : k < bk.length
          · rcases hc with rfl | ⟨b, o, rfl, hb, hcell⟩
            · simp at hlt
            · obtain ⟨y, hy, iy⟩ := hcell k hlt
              obtain ⟨ys, hys⟩ : ∃ ys, ys = bk.getD k [] := ⟨_, rfl⟩
              have hll := LN.out k hlt
              have hcl : clen bk k = ys.length := by unfold clen; rw [hys]
              rw [hcl] at hll
              rw [← hys] at iy
              have hat := specAt (p := p) (hx1.below hbel) (iy.below hbel) hll.1 (by have := HPN.out; omega)
              have hhere : here bk rs p k = decide (ys = (rs.drop p).take ys.length) := by unfold here; rw [hys]
              rw [← hhere, ← HNN.out] at hat
              obtain ⟨ay, cy, rfl, hyl, -⟩ := id iy
              have hc1 : wr.cell? ⟨b, o + k, none⟩ = some (.slice ay ys.length cy) := (hbel.cell (p := ⟨b, o + k, none⟩) hb).trans hy
              have hki : (k : Int) < (bk.length : Int) := by omega
              have HYS := Lib.hid hys
              have HCL := Lib.hid hcl
              have HCC := Lib.hid hcell
              have HROW := Lib.hid hrow
              have HOWN := Lib.hid hown
              clear hcell hys hcl hy iy hhere hrow hown
              cases hh : here bk rs p k
              · rw [hh] at hat
                have HH := Lib.hid (midF_no (d := d) hh HPN.out)
                have HAT := Lib.hid hat
                clear hat hh
                go_wp2_with (go_at_call 28; with_reducible refine Calls.mono HAT.out ?_)
                rintro e w2 ⟨rfl, b2⟩
                go_wp2_with fail
                go_roundw
                case rel => exact ⟨k + 1, by omega, by go_num, (HROW.out.of_block (b2.block _ HROW.out.lt)).congr (fun i _ => by rw [HH.out]), HOWN.out.below b2, hbel.trans (b2.mono hbel.size)⟩
                case measure => simp [intOf]; omega
              · rw [hh] at hat
                have hroom := here_room hh (by rw [HCL.out]; exact hll.1)
                have HH := Lib.hid (midF_here hh HPN.out (by rw [HCL.out]; exact hll.1))
                rw [HCL.out] at HH hroom
                have hbX := midF_bounds (rs := rs) LN.out DF.out (by omega) (by have := HNN.out; omega) d (k := k) (q := p) (by omega) (by omega)
                have hbY := midF_bounds (rs := rs) LN.out DF.out (by omega) (by have := HNN.out; omega) d (k := k) (q := p + ys.length) (by omega) hroom
                rw [← HNN.out] at hroom
                have HAT := Lib.hid hat
                clear hat hh
                go_wp2_with (go_at_call 28; with_reducible refine Calls.mono HAT.out ?_)
                rintro e w2 ⟨rfl, b2⟩
                have hrow2 := HROW.out.of_block (b2.block _ HROW.out.lt)
                have hown2 := HOWN.out.below b2
                have hb2 := hbel.trans (b2.mono hbel.size)
                obtain ⟨X, hX⟩ : ∃ X, X = midF bk rs d k p := ⟨_, rfl⟩
                obtain ⟨Y, hY⟩ : ∃ Y, Y = midF bk rs d k (p + ys.length) := ⟨_, rfl⟩
                rw [← hX] at hbX
                rw [← hY] at hbY
                have k1 : w2.cell? ⟨w1.heap.size, p, none⟩ = some (.int .i64 X) := by rw [hX]; exact hrow2.cell (by omega)
                have k2 : w2.cell? ⟨w1.heap.size, p + ys.length, none⟩ = some (.int .i64 Y) := by rw [hY]; exact hrow2.cell (by omega)
                have k3 : w2.cell? ⟨b, o + k, none⟩ = some (.slice ay ys.length cy) := by rw [b2.cell (p := ⟨b, o + k, none⟩) (Nat.lt_of_lt_of_le hb hbel.size)]; exact hc1
                have kf : w2.frozen? ⟨w1.heap.size, p, none⟩ = false := hrow2.frozen p
                rw [← hX, ← hY] at HH
                have HROW2 := Lib.hid hrow2
                have HOWN2 := Lib.hid hown2
                have hi1 : (p : Int) < (n : Int) + 1 := by omega
                have hi2 : (p : Int) + (ys.length : Int) < (n : Int) + 1 := by omega
                have hi1' : p < n + 1 := by omega
                have hi2' : p + ys.length < n + 1 := by omega
                have hi3 : ((p : Int) + (ys.length : Int)).toNat = p + ys.length := by omega
                clear hX hY hrow2 HROW HAT hbel b2 hc1 hown2 HOWN
                go_wp2_with fail
                go_region
                go_wp2_with fail
                go_roundw
                case rel =>
                  have hs := hb2.setCell (p := ⟨w1.heap.size, p, none⟩) hsz1 (.int .i64 (min X (Y + 1)))
                  have ho := ownsRow_setCell_other HOWN2.out (a := ⟨w1.heap.size, p, none⟩) (by simp [Value.ownBlock]; omega) (.int .i64 (min X (Y + 1)))
                  refine ⟨k + 1, by omega, by go_num, (HROW2.out.set p (.int .i64 (min X (Y + 1)))).congr (fun i _ => ?_), ho, ⟨hs.os, hs.tape, hs.output, hs.size, hs.block⟩⟩
                  by_cases q : i = p
                  · subst q
                    rw [if_pos rfl, HH.out]
                  · rw [if_neg q, midF_other (by have := HPN.out; omega), midF_other (by have := HPN.out; omega)]
                case measure => simp [intOf]; omega
          · obtain rfl : k = bk.length := by omega
            have hr2 : wr.rowIs w1.heap.size 3 (n + 1) (fun q => .int .i64 (fewD bk rs (d + 1) q)) := hrow.congr (fun i _ => by rw [midF_all (rs := rs) LN.out DF.out (by omega) (by have := HNN.out; omega)])
            have HR2 := Lib.hid hr2
            have HO2 := Lib.hid hown
            clear hr2 hrow hown
            go_wp2_with fail
            go_roundw
            case rel => exact ⟨p, d + 1, by omega, by go_num, HR2.out, HO2.out, hbel⟩
            case measure => simp [intOf]

end Go.Proofs.Ytcfnklpbiodhjaa
