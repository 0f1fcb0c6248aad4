/-
  The ring that a list of indexes of codes makes, by the model and by the program: for a book of at most 1048576 lists, each of at most as many integers, and at most as many indexes.
-/
import Derived.Test.YtcfnklpbiodhjaaRingP
import Derived.Test.YtcfnklpbiodhjaaBookOf
import Derived.Test.YtcfnklpbiodhjaaStrs
namespace Go.Proofs.Ytcfnklpbiodhjaa
open Go.RowKit

theorem own_slice {w : World} {base E : Nat} {v : Value} {n : Nat} {ys : List Value} (h : w.ownsRow base E 1 v n ys) : ∃ a c, v = .slice a n c := by
  rcases h.2 with ⟨rfl, h0⟩ | ⟨g, cap, cur, rfl, _⟩
  · exact ⟨none, 0, by rw [h0]⟩
  · exact ⟨_, _, rfl⟩

theorem made_pair {w : World} {xs ys : List Int} {a b : Bool} {v : Value} {w' : World} (h : OwnI w' w.heap.size v xs) (hb : Below w.heap.size w w') (hx : xs = ys) (hab : a = b) : MadeIntsB w ys b (.returned (.tuple #[v, .bool a])) w' := by
  subst hx
  subst hab
  exact ⟨_, rfl, h, hb⟩

theorem own_nil_at (w : World) (base : Nat) : OwnI w base (.slice none 0 0) [] := World.ownsRow_nil _ _ _ _
theorem own_later {w : World} {base base' : Nat} {v : Value} {xs : List Int} (h : OwnI w base v xs) (hb : base' ≤ base) : OwnI w base' v xs := h.mono hb

/-- The cells of a list that can be read, as an append wants them. -/
theorem news_of {w : World} {b o : Nat} {ys : List Int} (h : ∀ i, i < ys.length → w.cell? ⟨b, o + i, none⟩ = some (.int .i64 (ys.getD i 0))) : ∀ j u, (ys.map (Value.int .i64))[j]? = some u → w.cell? ((⟨b, o, none⟩ : Addr).add j) = some u := by
  intro j u hj
  simp only [List.getElem?_map, Option.map_eq_some_iff] at hj
  obtain ⟨z, hz, rfl⟩ := hj
  have hlt : j < ys.length := by
    rcases Nat.lt_or_ge j ys.length with q | q
    · exact q
    · rw [List.getElem?_eq_none q] at hz; cases hz
  have ea : (⟨b, o, none⟩ : Addr).add j = ⟨b, o + j, none⟩ := by unfold Addr.add; split <;> simp_all
  rw [ea, h j hlt]
  simp [List.getD_eq_getElem?_getD, hz]

set_option maxHeartbeats 1000000 in
theorem specRing {w : World} {u v : Value} {bk : List (List Int)} {ls : List Int} (h : Lists w u bk) (hx : Ints w v ls) :
    Calls Try.prog 33 #[u, v] w (MadeIntsB w (ringOf bk ls) (ringB bk ls)) := by
  have h1 := h
  obtain ⟨a, cap, rfl, hl, hc⟩ := h
  obtain ⟨a', cap', rfl, hl2, hc'⟩ := hx
  have hl' : (bk.length : Int) ≤ 1048576 := by omega
  have hl2' : (ls.length : Int) ≤ 1048576 := by omega
  have hal : Below w.heap.size w (w.alloc (.cells #[] 3)) := (Below.refl _ _).alloc (Nat.le_refl _) _
  cases hv : bookB bk
  · have HN := Lib.hid (ringB_book (ls := ls) hv)
    go_enter Try.func33, Try.ntmps33
    go_wp2_with (go_at_call 26; refine (specBook (h1.below hal)).mono ?_)
    rintro e w1 ⟨rfl, b1⟩
    rw [hv]
    go_wp2_with fail
    go_ret2
    exact made_pair ((own_empty w).below b1) (hal.trans (b1.mono hal.size)) HN.out.2.symm HN.out.1.symm
  · obtain ⟨i0, hi, hz0, hz1, hz2⟩ := info_parts info_int
    have HV := Lib.hid hv
    go_enter Try.func33, Try.ntmps33
    go_wp2_with (go_at_call 26; refine (specBook (h1.below hal)).mono ?_)
    rintro e w1 ⟨rfl, b1⟩
    have hb1 := hal.trans (b1.mono hal.size)
    have ho1 := (own_empty w).below b1
    rw [hv]
    go_wp2_with fail
    clear b1 hal hv h1
    go_loopw [6, 7] (fun o i wr => ∃ k : Nat, k ≤ ls.length ∧ i = .int .i64 k ∧ OwnI wr w.heap.size o (ringTo bk ls k) ∧ RingTo bk ls k ∧ Below w.heap.size w wr) (fun _ i _ => ls.length - (intOf i).toNat)
    case atStart => exact ⟨0, by omega, rfl, ho1, RingTo.zero _ _, hb1⟩
    case round =>
      obtain ⟨k, hk, rfl, hown, hrt, hbel⟩ := hrel
      obtain ⟨n, hn⟩ : ∃ n, n = (ringTo bk ls k).length := ⟨_, rfl⟩
      have hn20 : n ≤ 20 := by rw [hn]; exact hrt.short
      have HRT := Lib.hid hrt
      have HNL := Lib.hid hn
      clear hrt hn
      by_cases hlt : k < ls.length
      · rcases hc' with rfl | ⟨b', o', rfl, hb', hcell'⟩
        · simp at hlt
        · obtain ⟨x, hx⟩ : ∃ x, x = ls.getD k 0 := ⟨_, rfl⟩
          have hc1 : wr.cell? ⟨b', o' + k, none⟩ = some (.int .i64 x) := by rw [hx]; exact (hbel.cell (p := ⟨b', o' + k, none⟩) hb').trans (hcell' k hlt)
          have hki : (k : Int) < (ls.length : Int) := by omega
          have HX := Lib.hid hx
          have HC' := Lib.hid hcell'
          clear hx hcell'
          by_cases hin : 0 ≤ x ∧ x ≤ (bk.length : Int) - 1
          · obtain ⟨hx0, hx1⟩ := hin
            have hx2 : x < (bk.length : Int) := by omega
            rcases hc with rfl | ⟨b, o, rfl, hb, hcell⟩
            · simp at hx2; omega
            · obtain ⟨y, hy, iy⟩ := hcell x.toNat (by omega)
              obtain ⟨hg1, hg2, hg3⟩ := book_row HV.out hx0 hx2
              obtain ⟨ys, hys⟩ : ∃ ys, ys = bk.getD x.toNat [] := ⟨_, rfl⟩
              rw [← hys] at iy hg1 hg2 hg3
              have hrl : ringTo bk ls (k + 1) = ringTo bk ls k ++ ys := by rw [hys, HX.out]; rfl
              have hc2 : wr.cell? ⟨b, o + x.toNat, none⟩ = some y := (hbel.cell (p := ⟨b, o + x.toNat, none⟩) hb).trans hy
              have iy' := iy.below hbel
              obtain ⟨ay, cy, rfl, hyl, hyc⟩ := iy'
              rcases hyc with e | ⟨by', oy, rfl, hby, hyc⟩
              · rw [e] at hg2; simp at hg2
              · have HYC := Lib.hid hyc
                have HCL := Lib.hid hcell
                have HYS := Lib.hid hys
                have HRL := Lib.hid hrl
                clear hyc hy iy hys hrl hcell
                have hsz := hbel.size
                unfold OwnI at hown
                rw [← HNL.out] at hown
                go_wp2_with (first | (go_at_call 43; refine (in_yes _ _ _ _ hx0 hx1).mono ?_; rintro e w' ⟨rfl, rfl⟩) | (at_builtin; refine wpList_append_own _ rfl _ _ 24 rfl w.heap.size 3 i0 (.int .i64 0) 1 8 Try.underlying24 hi hz0 hz1 hz2 rfl (by decide) _ _ _ rfl hown ⟨by', oy, none⟩ ys.length cy (ys.map (Value.int .i64)) rfl (by simp) ?c2 ?c1 ?c3 ?c4 ?c5 ?_))
                case c1 => intro q hq; simp only [List.mem_map] at hq; obtain ⟨z, _, rfl⟩ := hq; rfl
                case c2 => exact news_of HYC.out
                case c3 => simp only [maxLen]; omega
                case c4 => omega
                case c5 => omega
                intro v' w2 hown' hgrow _
                have HB := Lib.hid (hbel.grown hgrow hbel.size (fun g hg => (hown.lt g hg).1))
                obtain ⟨m, hm⟩ : ∃ m, m = n + ys.length := ⟨_, rfl⟩
                rw [← hm, ← List.map_append, ← HRL.out] at hown'
                have HM := Lib.hid (show m = (ringTo bk ls (k + 1)).length by rw [HRL.out, List.length_append, ← HNL.out, hm])
                obtain ⟨av, cv, rfl⟩ := own_slice hown'
                have HO := Lib.hid hown'
                have hm25 : m ≤ 25 := by omega
                clear hown' hgrow hown hbel hm
                by_cases h20 : (20 : Int) < (m : Int)
                · have HN := Lib.hid (ringB_long (bk := bk) hlt (by rw [← HM.out]; omega))
                  go_wp2_with fail
                  go_ret2
                  refine made_pair (own_later (own_empty w2) HB.out.size) ((HB.out).trans ?_) HN.out.2.symm HN.out.1.symm
                  exact ((Below.refl _ _).alloc (Nat.le_refl _) _).mono HB.out.size
                · have h20' : (m : Int) ≤ 20 := by omega
                  clear h20
                  go_wp2_with fail
                  go_roundw
                  case rel =>
                    refine ⟨k + 1, by omega, by go_num, ?_, HRT.out.succ (by rw [← HX.out]; exact hx0) (by rw [← HX.out]; exact hx2) (by rw [← HM.out]; omega), HB.out⟩
                    unfold OwnI
                    rw [← HM.out]
                    exact HO.out
                  case measure => simp [intOf]; omega
          · have hno : x < 0 ∨ (bk.length : Int) - 1 < x := by omega
            have HNO := Lib.hid hno
            have HN := Lib.hid (ringB_index (bk := bk) hlt (by rw [← HX.out]; exact hno))
            clear hin hno
            go_wp2_with (go_at_call 43; refine (in_no _ _ _ _ HNO.out).mono ?_; rintro e w' ⟨rfl, rfl⟩)
            go_ret2
            refine made_pair (own_later (own_empty wr) hbel.size) (hbel.trans ?_) HN.out.2.symm HN.out.1.symm
            exact ((Below.refl _ _).alloc (Nat.le_refl _) _).mono hbel.size
      · obtain rfl : k = ls.length := by omega
        have HN := Lib.hid (ringB_yes HV.out HRT.out)
        have HO := Lib.hid hown
        clear hown
        go_wp2_with fail
        go_ret2
        exact made_pair HO.out hbel HN.out.2.symm HN.out.1.symm

theorem dgS_append (xs ys : List Int) : dgS xs ++ dgS ys = dgS (xs ++ ys) := by
  apply ByteArray.ext
  simp [dgS, dg, ByteArray.data_append]
theorem dgS_size (xs : List Int) : (dgS xs).size = xs.length := by
  show (dg xs).toArray.size = _
  simp [dg]

end Go.Proofs.Ytcfnklpbiodhjaa
