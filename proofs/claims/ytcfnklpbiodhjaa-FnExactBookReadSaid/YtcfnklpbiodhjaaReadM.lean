/-
  The reading of a ring with the fewest codes, by the program: for a book of at most 1048576 lists, each of at most as many integers, and a ring of at most as many.
-/
import Derived.Test.YtcfnklpbiodhjaaReadI
import Derived.Test.YtcfnklpbiodhjaaReadS
namespace Go.Proofs.Ytcfnklpbiodhjaa
open Go.RowKit Go.Maps Go.ChangeMaps

theorem dgS_empty {xs : List Int} (h : xs = []) : dgS xs = ⟨#[]⟩ := by subst h; rfl
theorem dgS_some {xs : List Int} (h : 1 ≤ xs.length) : (dgS xs).toList.isEmpty = false := by
  cases xs with
  | nil => simp at h
  | cons x r => simp [dgS, dg, go_sem]

set_option maxHeartbeats 4000000 in
theorem implRead {w : World} {u v : Value} {bk : List (List Int)} {rs : List Int} (h : Lists w u bk) (hx : Ints w v rs) :
    Calls Try.prog 17 #[u, v] w (MadeIntsB w (readOf bk rs) (readB bk rs)) := by
  have HX := Lib.hid hx
  have hl1 := h.len
  cases hv : bookB bk
  · have e1 := readings_none (bk := bk) (rs := rs) (.inl hv)
    rw [e1.2, readOf_no e1.2]
    have HV := Lib.hid hv
    clear e1 hv hx
    go_enter Try.func17, Try.ntmps17
    go_wp2_with (go_at_call 23; refine (bookOf h).mono ?_)
    rintro e w1 ⟨q, rfl, b1, _⟩
    rw [HV.out]
    go_wp2_with fail
    go_ret2
    exact ⟨_, rfl, World.ownsRow_nil _ _ _ _, b1⟩
  · have HV := Lib.hid hv
    cases hg : groupsB rs 0 20
    · have e1 := readings_none (bk := bk) (rs := rs) (.inr hg)
      rw [e1.2, readOf_no e1.2]
      have HG := Lib.hid hg
      clear e1 hv hx hg
      go_enter Try.func17, Try.ntmps17
      go_wp2_with (go_at_call 23; refine (bookOf h).mono ?_)
      rintro e w1 ⟨q, rfl, b1, _⟩
      rw [HV.out]
      go_wp2_with (go_at_call 24; refine (implRingOf (HX.out.below b1)).mono ?_)
      rintro e w2 ⟨rfl, b2⟩
      rw [HG.out]
      go_wp2_with fail
      go_ret2
      exact ⟨_, rfl, World.ownsRow_nil _ _ _ _, b1.trans (b2.mono b1.size)⟩
    · have e2 : ringStr rs = dgS rs := by unfold ringStr; rw [hg]; rfl
      have e3 : readB bk rs = decide ((whole bk rs 0).1 ≠ 0) := by unfold readB; rw [hv, hg]; rfl
      have HG := Lib.hid hg
      have HE := Lib.hid e2
      have HB := Lib.hid e3
      have HRP := Lib.hid (ringB_parts hg)
      clear e2 e3 hv hx hg
      go_enter Try.func17, Try.ntmps17
      go_wp2_with (go_at_call 23; refine (bookOf h).mono ?_)
      rintro e w1 ⟨q, rfl, b1, hst⟩
      have HST := Lib.hid (hst HV.out)
      clear hst
      rw [HV.out]
      go_wp2_with (go_at_call 24; refine (implRingOf (HX.out.below b1)).mono ?_)
      rintro e w2 ⟨rfl, b2⟩
      rw [HG.out, HE.out]
      have c2 := b1.trans (b2.mono b1.size)
      go_wp2_with (go_at_call 25; refine (implOutlooks (HST.out.below b2) HV.out HRP.out.1 HRP.out.2).mono ?_)
      rintro e w3 ⟨b, n, f, rfl, hk, hf, b3⟩
      have HK := Lib.hid hk
      have HF := Lib.hid hf
      have HST3 := Lib.hid ((HST.out.below b2).below b3)
      have c3 := c2.trans (b3.mono c2.size)
      have HL := Lib.hid (fun (W : World) (hW : Below w3.heap.size w3 W) (p : Nat) (hp : p ≤ rs.length) => (HK.out.below hW).lookup3 (s := dgS (rs.drop p)) (by rw [dgS_size, List.length_drop]; have := HRP.out.2; simp only [maxLen]; omega) (x := whole bk rs p) (HF.out p (Nat.zero_le _) hp))
      have hlook := HL.out w3 (Below.refl _ _) 0 (Nat.zero_le _)
      rw [List.drop_zero] at hlook
      clear hk hf b1 b2 b3 HST h
      obtain ⟨⟨m0, d0, f0⟩, hx0⟩ : ∃ x, x = whole bk rs 0 := ⟨_, rfl⟩
      rw [← hx0] at hlook HB
      have HX0 := Lib.hid hx0
      clear hx0
      by_cases hm : m0 = 0
      · have hm0 : (m0 == 0) = true := by simpa using hm
        have HN := Lib.hid (show readB bk rs = false by rw [HB.out]; simpa using hm)
        clear hm
        go_wp2_with fail
        rw [field0]
        go_wp2_with fail
        go_ret2
        rw [HN.out, readOf_no HN.out]
        exact ⟨_, rfl, World.ownsRow_nil _ _ _ _, c3⟩
      · have hm0 : (m0 == 0) = false := by simpa using hm
        have HN := Lib.hid (show readB bk rs = true by rw [HB.out]; simpa using hm)
        have HW0 := Lib.hid (show (whole bk rs 0).1 ≠ 0 by rw [← HX0.out]; exact hm)
        clear hm
        go_wp2_with fail
        rw [field0]
        go_wp2_with fail
        clear hlook
        have hm3 : (w3.alloc (.cells #[] 3)).heap.size = w3.heap.size + 1 := by simp
        have ho3 : OwnI (w3.alloc (.cells #[] 3)) w3.heap.size (.slice (some ⟨w3.heap.size, 0, none⟩) 0 0) [] := own_empty w3
        have hb3 : Below w3.heap.size w3 (w3.alloc (.cells #[] 3)) := (Below.refl _ _).alloc (Nat.le_refl _) _
        obtain ⟨i0, hi, hz0, hz1, hz2⟩ := info_parts info_int
        have LN := Lib.hid (lens_of HV.out)
        have DF := Lib.hid (differ_of HV.out)
        go_loopw [8, 10, 11] (fun S O _ wr => ∃ (p : Nat) (out : List Int), S = .string (dgS (rs.drop p)) ∧ Walked bk rs out p ∧ OwnI wr w3.heap.size O out ∧ Below w3.heap.size w3 wr) (fun S _ _ _ => match S with | .string s => s.size | _ => 0)
        case atStart => exact ⟨0, [], by rw [List.drop_zero], Walked.zero HW0.out, ho3, hb3⟩
        case round =>
          clear ho3 hb3
          obtain ⟨p, out, rfl, hwk, hown, hbel⟩ := hrel
          have hwl := hwk.len
          have hrl := HRP.out.2
          by_cases hp : p < rs.length
          · obtain ⟨j, hj1, hj2, hj3, hj4, hj5, hj6⟩ := whole_first (rs := rs) LN.out DF.out hl1 HRP.out.2 hp hwk.some
            have hlj := (LN.out j hj1).1
            have hlj5 := (LN.out j hj1).2
            have hroomj := here_room hj3 hlj
            have HWN := Lib.hid (hwk.next hp hlj hj2 hj3 hj4)
            have hlook := HL.out wr hbel p (by omega)
            rw [hj2] at hlook
            obtain ⟨m1, hm1⟩ : ∃ m1, m1 = (whole bk rs p).1 := ⟨_, rfl⟩
            obtain ⟨d1, hd1⟩ : ∃ d1, d1 = (whole bk rs p).2.1 := ⟨_, rfl⟩
            rw [← hm1, ← hd1] at hlook
            obtain ⟨E, hE⟩ : ∃ E, E = dgS (rs.drop p) := ⟨_, rfl⟩
            have hEs : E.size = rs.length - p := by rw [hE, dgS_size, List.length_drop]
            have hEi : E.toList.isEmpty = false := by rw [hE]; exact dgS_some (by rw [List.length_drop]; omega)
            rw [← hE] at hlook ⊢
            have HE1 := Lib.hid hE
            have HES := Lib.hid hEs
            obtain ⟨aq, cq, hq, hlq, hcq⟩ := HST3.out
            subst hq
            rw [List.length_map] at hlq hcq ⊢
            rcases hcq with e | ⟨b', o, rfl, hb', hcell⟩
            · have : bk.length = 0 := by simpa using congrArg List.length e
              omega
            · have hy := hcell j hj1
              have e1 : (bk.map dgS).getD j ByteArray.empty = dgS (bk.getD j []) := by simp [hj1]
              rw [e1] at hy
              obtain ⟨T, hT⟩ : ∃ T, T = dgS (bk.getD j []) := ⟨_, rfl⟩
              have hTs : T.size = clen bk j := by rw [hT, dgS_size]; rfl
              rw [← hT] at hy
              have hc1 : wr.cell? ⟨b', o + j, none⟩ = some (.string T) := (hbel.cell (p := ⟨b', o + j, none⟩) hb').trans hy
              have HTS := Lib.hid hTs
              have HCC := Lib.hid hcell
              have hji : (j : Int) < (bk.length : Int) := by omega
              have hol := hwl.1
              have hsz := hbel.size
              have hTE : (T.size : Int) ≤ (E.size : Int) := by rw [HTS.out, HES.out]; omega
              unfold OwnI at hown
              clear hj2 hj3 hj4 hj5 hj6 hm1 hd1 hE hEs e1 hT hTs hy hcell hwk
              go_wp2_with fail
              rw [field2]
              go_wp2_with (at_builtin; refine wpList_append_own _ rfl _ _ 24 rfl w3.heap.size 3 i0 (.int .i64 0) 1 8 Try.underlying24 hi hz0 hz1 hz2 rfl (by decide) _ _ _ rfl (hown.alloc _) ⟨wr.heap.size, 0, none⟩ 1 1 [.int .i64 j] rfl rfl ?c1 ?c2 ?c3 ?c4 ?c5 ?_)
              case c1 => exact cell_one_new _ _ _
              case c2 => intro u hu; simp at hu; subst hu; rfl
              case c3 => simp only [maxLen]; omega
              case c4 => omega
              case c5 => simp; omega
              intro v' w4 hown' hgrow _
              have hal : Below wr.heap.size wr (wr.alloc (.cells #[.int .i64 j] 3)) := (Below.refl _ _).alloc (Nat.le_refl _) _
              have hb4 : Below w3.heap.size w3 w4 := (hbel.alloc hsz (.cells #[.int .i64 j] 3)).grown hgrow (by simp; omega) (fun g hg => (World.ownsRow.lt hown g hg).1)
              have hc4 : w4.cell? ⟨b', o + j, none⟩ = some (.string T) := by
                refine hgrow.cell ?_ (fun e => ?_)
                · rw [hal.cell (p := ⟨b', o + j, none⟩) (by show b' < wr.heap.size; omega)]
                  exact hc1
                · have := (World.ownsRow.lt hown b' e.symm).1
                  omega
              have ho4 : OwnI w4 w3.heap.size v' (out ++ [(j : Int)]) := by
                unfold OwnI
                rw [List.length_append, List.map_append]
                exact hown'
              have HO4 := Lib.hid ho4
              have HN4 := Lib.hid (show E.extract T.size E.size = dgS (rs.drop (p + clen bk j)) by rw [HTS.out, HES.out, HE1.out]; exact dgS_drop _ _ _ hroomj)
              clear ho4 hown' hgrow hal hown hbel hc1
              go_wp2_with fail
              go_roundw
              case rel => exact ⟨p + clen bk j, _, by rw [HN4.out], HWN.out, HO4.out, hb4⟩
              case measure =>
                show (E.extract T.size E.size).size < E.size
                rw [HN4.out, HES.out, dgS_size, List.length_drop]
                omega
          · obtain rfl : p = rs.length := by omega
            have hE0 : dgS (rs.drop rs.length) = ⟨#[]⟩ := dgS_empty (by simp)
            rw [hE0]
            clear hE0
            go_wp2_with fail
            go_ret2
            rw [HN.out, Walked.done hwk HN.out]
            exact ⟨_, rfl, hown.mono c3.size, c3.trans (hbel.mono c3.size)⟩

end Go.Proofs.Ytcfnklpbiodhjaa
