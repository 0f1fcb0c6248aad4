/-
  How many readings a ring has, by the model: for a book of at most 1048576 lists, each of at most as many integers, and a ring of at most as many.
-/
import Derived.Test.YtcfnklpbiodhjaaTabP
import Derived.Test.YtcfnklpbiodhjaaBooks
import Derived.BigRegion
namespace Go.Proofs.Ytcfnklpbiodhjaa
open Go.RowKit Go.Sort

/-- A part of a list that can be read. -/
theorem Ints.part {w : World} {b o cap : Nat} {rs : List Int} (h : Ints w (.slice (some ⟨b, o, none⟩) rs.length cap) rs) {p m : Nat} (hp : p + m ≤ rs.length) (hm : 1 ≤ m) : Ints w (.slice (some ⟨b, o + p, none⟩) m (cap - p)) ((rs.drop p).take m) := by
  obtain ⟨a', cap', e, hl, hc⟩ := h
  simp only [Value.slice.injEq, true_and] at e
  obtain ⟨rfl, rfl⟩ := e
  have hlen : ((rs.drop p).take m).length = m := by rw [List.length_take, List.length_drop]; omega
  rcases hc with rfl | ⟨b', o', e, hb, hcell⟩
  · simp at hp; omega
  · simp only [Option.some.injEq, Addr.mk.injEq, and_true] at e
    obtain ⟨rfl, rfl⟩ := e
    refine ⟨_, _, by rw [hlen], ⟨by omega, by omega⟩, .inr ⟨b, o + p, rfl, hb, fun i hi => ?_⟩⟩
    rw [hlen] at hi
    rw [Nat.add_assoc, hcell (p + i) (by omega)]
    have hpi : p + i < rs.length := by omega
    simp [hi, hpi]

set_option maxHeartbeats 1000000 in
theorem specAt {w : World} {u v : Value} {rs xs : List Int} {p : Nat} (h : Ints w u rs) (hx : Ints w v xs) (h1 : 1 ≤ xs.length) (hp : p ≤ rs.length) :
    Calls Try.prog 28 #[u, .int .i64 p, v] w fun e w' => e = .returned (.bool (decide (xs = (rs.drop p).take xs.length))) ∧ Below w.heap.size w w' := by
  have hk := h
  have hxk := hx
  obtain ⟨a, cap, rfl, hl, hc⟩ := h
  obtain ⟨a', cap', rfl, hl2, -⟩ := hx
  have hl' : (rs.length : Int) ≤ 1048576 := by omega
  have hl2' : (xs.length : Int) ≤ 1048576 := by omega
  by_cases hroom : p + xs.length ≤ rs.length
  · have hr : (p : Int) + (xs.length : Int) ≤ (rs.length : Int) := by omega
    rcases hc with rfl | ⟨b, o, rfl, hb, -⟩
    · have hroom' : p + xs.length ≤ 0 := hroom
      omega
    · have hpart : Ints w (.slice (some ⟨b, o + p, none⟩) (p + xs.length - p) (cap - p)) ((rs.drop p).take xs.length) := by rw [Nat.add_sub_cancel_left]; exact hk.part hroom h1
      have hs := l1Same hpart hxk
      rw [show decide ((rs.drop p).take xs.length = xs) = decide (xs = (rs.drop p).take xs.length) by simp only [eq_comm]] at hs
      obtain ⟨B, hB⟩ : ∃ B, B = decide (xs = (rs.drop p).take xs.length) := ⟨_, rfl⟩
      have hlen : ((rs.drop p).take xs.length).length = xs.length := by rw [List.length_take, List.length_drop]; omega
      rw [← hB] at hs ⊢
      have HS := Lib.hid hs
      rw [Nat.add_sub_cancel_left] at hs
      have HS2 := Lib.hid hs
      have hcap : p + xs.length ≤ cap := by omega
      have hcap' : (p : Int) + (xs.length : Int) ≤ (cap : Int) := by omega
      clear hs hB hlen hk hxk hpart
      go_enter Try.func28, Try.ntmps28
      go_wp2_with (go_at_call 42; first | (with_reducible refine Calls.mono HS.out ?_) | (with_reducible refine Calls.mono HS2.out ?_))
      rintro e w1 ⟨rfl, b1⟩
      go_wp2_with fail
      go_ret
      exact ⟨rfl, b1⟩
  · have hr : (rs.length : Int) < (p : Int) + (xs.length : Int) := by omega
    have hn : decide (xs = (rs.drop p).take xs.length) = false := by
      simp only [decide_eq_false_iff_not]
      intro e
      have := congrArg List.length e
      rw [List.length_take, List.length_drop] at this
      omega
    have hd : decide ((p : Int) + (xs.length : Int) ≤ (rs.length : Int)) = false := by simp; omega
    rw [hn]
    clear hroom hn hr
    go_enter Try.func28, Try.ntmps28
    go_wp2_with fail
    go_ret
    exact ⟨rfl, Below.refl _ _⟩

theorem tab_zero (bk : List (List Int)) (rs : List Int) (d q : Nat) (h : q + d < rs.length) : tab bk rs d q = (0, 0, 0) := by
  induction d with
  | zero => simp only [tab]; rw [if_neg (by omega)]
  | succ d ih => rw [tab_else _ _ _ _ (by omega)]; exact ih (by omega)

/-- The numbers of readings while the row of place q with q + (d + 1) = n is made. -/
def mid (bk : List (List Int)) (rs : List Int) (d k q : Nat) : Int := if q + (d + 1) = rs.length then rowW (fun i => (tab bk rs d i).1) bk rs q k else (tab bk rs d q).1
theorem mid_zero (bk : List (List Int)) (rs : List Int) (d q : Nat) : mid bk rs d 0 q = (tab bk rs d q).1 := by
  unfold mid
  split
  · rw [tab_zero bk rs d q (by omega)]; rfl
  · rfl
theorem mid_all {bk : List (List Int)} {rs : List Int} (hl : Lens bk) (hb : bk.length ≤ 1048576) (d q : Nat) : mid bk rs d bk.length q = (tab bk rs (d + 1) q).1 := by
  unfold mid
  split
  · rename_i h
    rw [tab_last _ _ _ _ h, rowW_is hl hb (fun q _ _ => tab_ok hl hb d q) _ (Nat.le_refl _)]
  · rename_i h
    rw [tab_else _ _ _ _ h]

theorem mid_here {bk : List (List Int)} {rs : List Int} {d k p : Nat} (h : here bk rs p k = true) (hp : p + (d + 1) = rs.length) (h1 : 1 ≤ clen bk k) : mid bk rs d (k + 1) p = IntKind.i64.wrap (mid bk rs d k p + mid bk rs d k (p + clen bk k)) := by
  unfold mid
  rw [if_pos hp, if_pos hp, if_neg (by omega)]
  simp only [rowW]
  rw [if_pos h]
theorem mid_other {bk : List (List Int)} {rs : List Int} {d k q : Nat} (hp : q + (d + 1) ≠ rs.length) (l : Nat) : mid bk rs d k q = mid bk rs d l q := by
  unfold mid
  rw [if_neg hp, if_neg hp]
theorem mid_no {bk : List (List Int)} {rs : List Int} {d k p : Nat} (h : here bk rs p k = false) (hp : p + (d + 1) = rs.length) (q : Nat) : mid bk rs d (k + 1) q = mid bk rs d k q := by
  by_cases e : q = p
  · subst e
    unfold mid
    rw [if_pos hp, if_pos hp]
    simp only [rowW]
    rw [h]
    simp
  · exact mid_other (by omega) _

theorem setCell_new (w : World) (cs : Array Value) (T : TypeId) (n : Nat) (v : Value) : (w.alloc (.cells cs T)).setCell ⟨w.heap.size, n, none⟩ v = w.alloc (.cells (cs.setIfInBounds n v) T) := by
  exact World.setCell_alloc_new _ _ _ _

theorem rowIs_same {w : World} {b T n : Nat} {f g : Nat → Int} (h : w.rowIs b T n (fun i => .int .i64 (f i))) (e : ∀ i, i < n → f i = g i) : w.rowIs b T n (fun i => .int .i64 (g i)) := h.congr (fun i hi => by rw [e i hi])

set_option maxHeartbeats 4000000 in
theorem specReadings {w : World} {u v : Value} {bk : List (List Int)} {rs : List Int} (h : Lists w u bk) (hx : Ints w v rs) :
    Calls Try.prog 8 #[u, v] w fun e w' => e = .returned (.int .i64 (readingsOf bk rs)) ∧ Below w.heap.size w w' := by
  have h1 := h
  have hx1 := hx
  obtain ⟨a, cap, rfl, hl, hc⟩ := h
  obtain ⟨a', cap', rfl, hl2, hc'⟩ := hx
  have hl' : (bk.length : Int) ≤ 1048576 := by omega
  have hl2' : (rs.length : Int) ≤ 1048576 := by omega
  cases hv : bookB bk
  · have HE := Lib.hid (show (-1 : Int) = readingsOf bk rs by unfold readingsOf; rw [hv]; rfl)
    go_enter Try.func8, Try.ntmps8
    go_wp2_with (go_at_call 26; refine (specBook h1).mono ?_)
    rintro e w1 ⟨rfl, b1⟩
    rw [hv]
    go_wp2_with fail
    go_ret
    exact ⟨ret_int HE.out, b1⟩
  · cases hg : groupsB rs 0 20
    · have HE := Lib.hid (show (-1 : Int) = readingsOf bk rs by unfold readingsOf; rw [hv, hg]; rfl)
      go_enter Try.func8, Try.ntmps8
      go_wp2_with (go_at_call 26; refine (specBook h1).mono ?_)
      rintro e w1 ⟨rfl, b1⟩
      rw [hv]
      have hlg := l1Groups (lo := 0) (hi := 20) (hx1.below b1)
      rw [hg] at hlg
      go_wp2_with (go_at_call 27; refine hlg.mono ?_; rintro e w' ⟨rfl, rfl⟩)
      go_ret
      exact ⟨ret_int HE.out, b1⟩
    · have HE := Lib.hid (show (tab bk rs rs.length 0).1 = readingsOf bk rs by unfold readingsOf; rw [hv, hg]; rfl)
      have hn := (groupsB_ok hg).2.2
      have LN := Lib.hid (lens_of hv)
      obtain ⟨n, hnn⟩ : ∃ n, n = rs.length := ⟨_, rfl⟩
      have HNN := Lib.hid hnn
      have hn20 : (n : Int) ≤ 20 := by omega
      rw [← hnn] at HE
      have hmk := run_make_row' (P := Try.prog) 24 3 (.int .i64 0) 8 Try.underlying24 info_int rfl .i64 .i64 (n + 1) (by omega) (by omega)
      have hmk' : ∀ w : World, (Instr.makeSlice 24 (.int .i64 ((n : Int) + 1)) (.int .i64 ((n : Int) + 1))).run Try.prog w = .ok (.slice (some ⟨w.heap.size, 0, none⟩) (n + 1) (n + 1)) (w.alloc (.cells (madeCells #[.int .i64 0] (n + 1)) 3)) := by
        have := hmk; simpa using this
      clear hmk
      rw [← hnn]
      rw [← hnn] at hl2' hl2
      go_enter Try.func8, Try.ntmps8
      go_wp2_with (go_at_call 26; refine (specBook h1).mono ?_)
      rintro e w1 ⟨rfl, b1⟩
      rw [hv]
      have hlg := l1Groups (lo := 0) (hi := 20) (hx1.below b1)
      rw [hg, ← hnn] at hlg
      clear hnn hv hg
      have hrow0 := World.rowIs_made w1 (.int .i64 0) (n + 1) 3
      have hc0 : (w1.alloc (.cells (madeCells #[.int .i64 0] (n + 1)) 3)).cell? ⟨w1.heap.size, n, none⟩ = some (.int .i64 0) := hrow0.cell (by omega)
      have hf0 : (w1.alloc (.cells (madeCells #[.int .i64 0] (n + 1)) 3)).frozen? ⟨w1.heap.size, n, none⟩ = false := hrow0.frozen n
      have HR0 := Lib.hid hrow0
      clear hrow0
      go_wp2_with (go_at_call 27; refine hlg.mono ?_; rintro e w' ⟨rfl, rfl⟩)
      have hr1 : ((w1.alloc (.cells (madeCells #[.int .i64 0] (n + 1)) 3)).setCell ⟨w1.heap.size, n, none⟩ (.int .i64 1)).rowIs w1.heap.size 3 (n + 1) (fun q => .int .i64 (tab bk rs 0 q).1) := by
        refine (HR0.out.set n (.int .i64 1)).congr (fun j _ => ?_)
        simp only [tab]
        rw [← HNN.out]
        by_cases e : j = n <;> simp [e]
      have hb1 := (b1.alloc b1.size (.cells (madeCells #[.int .i64 0] (n + 1)) 3)).setCell (p := ⟨w1.heap.size, n, none⟩) b1.size (.int .i64 1)
      rw [setCell_new] at hr1 hb1
      have hsz1 := b1.size
      clear hlg hc0 hf0 hmk' b1
      go_loopw [6, 7] (fun A _ wr => ∃ p1 d : Nat, p1 + d = n ∧ A = .int .i64 ((p1 : Int) - 1) ∧ wr.rowIs w1.heap.size 3 (n + 1) (fun q => .int .i64 (tab bk rs d q).1) ∧ Below w.heap.size w wr) (fun A _ _ => (intOf A + 1).toNat)
      case atStart => exact ⟨n, 0, by omega, rfl, hr1, hb1⟩
      case round =>
        obtain ⟨p1, d, hpd, rfl, hrow, hbel⟩ := hrel
        cases p1 with
        | zero =>
          obtain rfl : d = n := by omega
          have hc := hrow.cell (i := 0) (by omega)
          obtain ⟨x, hx⟩ : ∃ x, x = (tab bk rs d 0).1 := ⟨_, rfl⟩
          rw [← hx] at hc
          have HX := Lib.hid hx
          clear hx hrow
          go_wp2_with fail
          go_ret
          exact ⟨ret_int (by rw [HX.out]; exact HE.out), hbel⟩
        | succ p =>
          rw [show ((p + 1 : Nat) : Int) - 1 = (p : Int) by omega]
          have hp0 : 0 ≤ (p : Int) := by omega
          have hpn : p + (d + 1) = n := by omega
          have HPN := Lib.hid (show p + (d + 1) = rs.length by rw [← HNN.out]; exact hpn)
          have hm0 : wr.rowIs w1.heap.size 3 (n + 1) (fun q => .int .i64 (mid bk rs d 0 q)) := hrow.congr (fun i _ => by rw [mid_zero])
          clear hpd hrow
          go_wp2_with fail
          go_loopw [7] (fun K ws => ∃ k : Nat, k ≤ bk.length ∧ K = .int .i64 k ∧ ws.rowIs w1.heap.size 3 (n + 1) (fun q => .int .i64 (mid bk rs d k q)) ∧ Below w.heap.size w ws) (fun K _ => bk.length - (intOf K).toNat)
          case atStart => exact ⟨0, by omega, rfl, hm0, hbel⟩
          case round =>
            obtain ⟨k, hk, rfl, hrow, hbel⟩ := hrel
            by_cases hlt : k < bk.length
            · rcases hc with rfl | ⟨b, o, rfl, hb, hcell⟩
              · simp at hlt
              · obtain ⟨y, hy, iy⟩ := hcell k hlt
                obtain ⟨ys, hys⟩ : ∃ ys, ys = bk.getD k [] := ⟨_, rfl⟩
                have hll := LN.out k hlt
                have hcl : clen bk k = ys.length := by unfold clen; rw [hys]
                rw [hcl] at hll
                rw [← hys] at iy
                have hat := specAt (p := p) (hx1.below hbel) (iy.below hbel) hll.1 (by have := HPN.out; omega)
                have hhere : here bk rs p k = decide (ys = (rs.drop p).take ys.length) := by unfold here; rw [hys]
                rw [← hhere, ← HNN.out] at hat
                obtain ⟨ay, cy, rfl, hyl, -⟩ := id iy
                have hc1 : wr.cell? ⟨b, o + k, none⟩ = some (.slice ay ys.length cy) := (hbel.cell (p := ⟨b, o + k, none⟩) hb).trans hy
                have hki : (k : Int) < (bk.length : Int) := by omega
                have HYS := Lib.hid hys
                have HCL := Lib.hid hcl
                have HCC := Lib.hid hcell
                have HROW := Lib.hid hrow
                clear hcell hys hcl hy iy hhere hrow
                cases hh : here bk rs p k
                · rw [hh] at hat
                  have HH := Lib.hid (mid_no (d := d) hh HPN.out)
                  have HAT := Lib.hid hat
                  clear hat hh
                  go_wp2_with (go_at_call 28; with_reducible refine Calls.mono HAT.out ?_)
                  rintro e w2 ⟨rfl, b2⟩
                  go_wp2_with fail
                  go_roundw
                  case rel => exact ⟨k + 1, by omega, by go_num, (HROW.out.of_block (b2.block _ HROW.out.lt)).congr (fun i _ => by rw [HH.out]), hbel.trans (b2.mono hbel.size)⟩
                  case measure => simp [intOf]; omega
                · rw [hh] at hat
                  have hroom := here_room hh (by rw [HCL.out]; exact hll.1)
                  have HH := Lib.hid (mid_here hh HPN.out (by rw [HCL.out]; exact hll.1))
                  rw [HCL.out] at HH hroom
                  rw [← HNN.out] at hroom
                  have HAT := Lib.hid hat
                  clear hat hh
                  go_wp2_with (go_at_call 28; with_reducible refine Calls.mono HAT.out ?_)
                  rintro e w2 ⟨rfl, b2⟩
                  have hrow2 := HROW.out.of_block (b2.block _ HROW.out.lt)
                  have hb2 := hbel.trans (b2.mono hbel.size)
                  obtain ⟨X, hX⟩ : ∃ X, X = mid bk rs d k p := ⟨_, rfl⟩
                  obtain ⟨Y, hY⟩ : ∃ Y, Y = mid bk rs d k (p + ys.length) := ⟨_, rfl⟩
                  have k1 : w2.cell? ⟨w1.heap.size, p, none⟩ = some (.int .i64 X) := by rw [hX]; exact hrow2.cell (by omega)
                  have k2 : w2.cell? ⟨w1.heap.size, p + ys.length, none⟩ = some (.int .i64 Y) := by rw [hY]; exact hrow2.cell (by omega)
                  have k3 : w2.cell? ⟨b, o + k, none⟩ = some (.slice ay ys.length cy) := by rw [b2.cell (p := ⟨b, o + k, none⟩) (Nat.lt_of_lt_of_le hb hbel.size)]; exact hc1
                  have kf : w2.frozen? ⟨w1.heap.size, p, none⟩ = false := hrow2.frozen p
                  rw [← hX, ← hY] at HH
                  have HROW2 := Lib.hid hrow2
                  have hi1 : (p : Int) < (n : Int) + 1 := by omega
                  have hi2 : (p : Int) + (ys.length : Int) < (n : Int) + 1 := by omega
                  have hi1' : p < n + 1 := by omega
                  have hi2' : p + ys.length < n + 1 := by omega
                  have hi3 : ((p : Int) + (ys.length : Int)).toNat = p + ys.length := by omega
                  clear hX hY hrow2 HROW HAT hbel b2 hc1
                  go_wp2_with fail
                  go_region
                  go_wp2_with fail
                  go_roundw
                  case rel =>
                    have hs := hb2.setCell (p := ⟨w1.heap.size, p, none⟩) hsz1 (.int .i64 (wrap64 (X + Y)))
                    refine ⟨k + 1, by omega, by go_num, (HROW2.out.set p (.int .i64 (wrap64 (X + Y)))).congr (fun i _ => ?_), ⟨hs.os, hs.tape, hs.output, hs.size, hs.block⟩⟩
                    by_cases q : i = p
                    · subst q
                      rw [if_pos rfl, HH.out, wrap_is]
                    · rw [if_neg q, mid_other (k := k) (q := i) (by have := HPN.out; omega) (k + 1)]
                  case measure => simp [intOf]; omega
            · obtain rfl : k = bk.length := by omega
              have hr2 : wr.rowIs w1.heap.size 3 (n + 1) (fun q => .int .i64 (tab bk rs (d + 1) q).1) := hrow.congr (fun i _ => by rw [mid_all LN.out (by omega)])
              have HR2 := Lib.hid hr2
              clear hr2 hrow
              go_wp2_with fail
              go_roundw
              case rel => exact ⟨p, d + 1, by omega, by go_num, HR2.out, hbel⟩
              case measure => simp [intOf]

end Go.Proofs.Ytcfnklpbiodhjaa
