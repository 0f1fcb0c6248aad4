/-
  A drawn number with pulses; two drawn numbers. For codes of at most 1048576 bytes.
-/
import Derived.Test.YtmdkfhbkdeoahaaDrwC
namespace Go.Proofs.Ytmdkfhbkdeoahaa
open Go.RowKit Go.Sort

/-- A list that is no nil. -/
def Some' (v : Value) (n : Nat) : Prop := ∃ g c, v = .slice (some ⟨g, 0, none⟩) n c
theorem own_some {w : World} {base : Nat} {v : Value} {xs : List Int} (h : OwnI w base v xs) (hl : 0 < xs.length) : Some' v xs.length := by
  rcases h.shape with ⟨_, e⟩ | ⟨g, c, e, _⟩
  · rw [e] at hl; simp at hl
  · exact ⟨g, c, e⟩

set_option maxHeartbeats 4000000 in
theorem drawNet {w : World} {a : Option Addr} {len cap : Nat} {zs : List Int} (h : IsRowK .u8 w a len cap zs) (hl : len ≤ 1048576) :
    Calls Try.prog 21 #[.slice a len cap] w fun e w' => ∃ (n : Int) (v : Value) (ps : List Int), e = .returned (.tuple #[.int .i64 n, v]) ∧ 0 ≤ n ∧ n ≤ 4 ∧ Ints w' v ps ∧ ps.length ≤ 7 ∧ Low 6 ps ∧ Some' v ps.length ∧ Below w.heap.size w w' := by
  obtain ⟨i0, hi, hz0, hz1, hz2⟩ := info_parts info_int
  go_enter Try.func21, Try.ntmps21
  go_wp2_with (go_at_call 26; refine (openRd h hl).mono ?_)
  rintro e w1 ⟨g, rfl, hg, hr, b1⟩
  have hg1 := hr.lt
  have B1 := Lib.hid b1
  clear h b1
  go_wp2_with (go_at_call 36; refine (pick hr (by omega) (by omega) (by omega)).mono ?_)
  rintro e w2 ⟨n, rfl, hn0, hn1, hr2, g2⟩
  have hn1' := hn1 (by omega)
  clear hr hn1
  go_wp2_with (go_at_call 36; refine (pick (hr2.alloc _) (by omega) (by omega) (by omega)).mono ?_)
  rintro e w3 ⟨m, rfl, hm0, hm1, hr3, g3⟩
  have hm1' := hm1 (by omega)
  have hg2 := hr2.lt
  have hs2 := g2.size
  have og : OwnI w3 w1.heap.size (.slice (some ⟨w2.heap.size, 0, none⟩) 0 0) [] := ((own_empty w2).kept g3 (own_not (own_empty w2) hg2)).mono hs2
  have gg := grown_trans (grown_alloc g2 (.cells #[] 3)) g3
  obtain ⟨N, hN⟩ : ∃ N : Int, N = 1 + n := ⟨_, rfl⟩
  obtain ⟨p1, hp1⟩ : ∃ p1, p1 = 0 + 1 + 1 := ⟨_, rfl⟩
  rw [← hp1] at hr3
  rw [← hN]
  clear hm1 g3 g2 hr2
  go_wp2_with fail
  go_loopw [6, 8] (fun o i wr => ∃ (k q : Nat) (xs : List Int), (k : Int) ≤ m ∧ i = .int .i64 k ∧ xs.length = k ∧ Low 6 xs ∧ OwnI wr w1.heap.size o xs ∧ Some' o k ∧ Rdr wr g q ∧ q ≤ p1 + 4 * k ∧ w1.grownBy wr (some g)) (fun _ i _ => (9 - intOf i).toNat)
  case atStart => exact ⟨0, p1, [], by omega, rfl, rfl, Low.nil _, og, ⟨_, _, rfl⟩, hr3, by omega, gg⟩
  case round =>
    obtain ⟨k, q, xs, hk, rfl, hxl, hlow, hown, hsm, hrd, hq, hgr⟩ := hrel
    have hk7 : k ≤ 7 := by omega
    have hsz := hgr.size
    have LX := Lib.hid hlow
    have HS := Lib.hid hsm
    clear hlow hsm
    by_cases hlt : (k : Int) < m
    · go_wp2_with (go_at_call 28; refine (drawPulse hrd (by omega) (by omega) (by omega)).mono ?_)
      rintro e w4 ⟨x, q4, rfl, hx0, hx1, hr4, hq4, g4⟩
      have hown2 := hown.kept g4 (own_not hown hg1)
      have hgr2 := grown_trans hgr g4
      have hsz2 := hgr2.size
      clear hown hrd hgr g4
      unfold OwnI at hown2
      rw [hxl] at hown2
      go_wp2_with (at_builtin; refine wpList_append_own _ rfl _ _ 23 rfl w1.heap.size 3 i0 (.int .i64 0) 1 8 Try.underlying23 hi hz0 hz1 hz2 rfl (by decide) _ _ _ rfl (hown2.alloc _) ⟨w4.heap.size, 0, none⟩ 1 1 [.int .i64 x] rfl rfl ?c1 ?c2 ?c3 ?c4 ?c5 ?_)
      case c1 => exact cell_one_new _ _ _
      case c2 => intro u hu; simp at hu; subst hu; rfl
      case c3 => simp only [maxLen]; omega
      case c4 => omega
      case c5 => simp; omega
      intro v' w5 hown' hgrow _
      have hlw := low_of hown2
      have HG := Lib.hid (grown_new (grown_alloc hgr2 _) hgrow hlw)
      have HR := Lib.hid ((hr4.alloc _).grown hgrow (fun b e => Nat.lt_of_lt_of_le hg1 (hlw b e)))
      have HO := Lib.hid (show OwnI w5 w1.heap.size v' (xs ++ [x]) by
        unfold OwnI
        simpa [hxl] using hown')
      have HS' := Lib.hid (own_some HO.out (by simp))
      clear hown' hgrow hown2 hgr2 hr4 hlw
      go_wp2_with fail
      go_roundw
      case rel => exact ⟨k + 1, q4, xs ++ [x], by omega, by go_num, by simp [hxl], LX.out.snoc (by omega) (by omega), HO.out, by have := HS'.out; simpa [hxl] using this, HR.out, by omega, HG.out⟩
      case measure => simp [intOf]; omega
    · clear hk og hr3 gg
      go_wp2_with (go_at_call 36; refine (pick hrd (by omega) (by omega) (by omega)).mono ?_)
      rintro e w4 ⟨r, rfl, hr0, hr1, hr4, g4⟩
      have hr1' := hr1 (by omega)
      have hown2 := hown.kept g4 (own_not hown hg1)
      have hgr2 := grown_trans hgr g4
      have HX := Lib.hid (hown2.ints (by omega))
      have HB := Lib.hid (B1.out.grown hgr2 B1.out.size (fun k hk => by simp only [Option.some.injEq] at hk; omega))
      obtain ⟨G, C, rfl⟩ := HS.out
      have HG := Lib.hid (show Some' (.slice (some ⟨G, 0, none⟩) k C) xs.length from ⟨G, C, by rw [hxl]⟩)
      have HL := Lib.hid (show xs.length ≤ 7 by omega)
      have hc : r = 15 ∨ r = 0 ∨ r = 1 ∨ r = 2 ∨ r = 3 ∨ r = 4 ∨ r = 5 ∨ r = 6 ∨ r = 7 ∨ r = 8 ∨ r = 9 ∨ r = 10 ∨ r = 11 ∨ r = 12 ∨ r = 13 ∨ r = 14 := by omega
      clear hown hrd hgr g4 hr1 hxl hown2 hgr2 hr4 hr0 hr1'
      rcases hc with rfl | rfl | rfl | rfl | rfl | rfl | rfl | rfl | rfl | rfl | rfl | rfl | rfl | rfl | rfl | rfl
      all_goals
        go_wp2_with fail
        go_ret2
        exact ⟨_, _, xs, rfl, by omega, by omega, HX.out, HL.out, LX.out, HG.out, HB.out⟩

end Go.Proofs.Ytmdkfhbkdeoahaa
