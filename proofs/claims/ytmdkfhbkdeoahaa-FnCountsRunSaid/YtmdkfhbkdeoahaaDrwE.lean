/-
  Drawn counts with pulses that can often be. For codes of at most 1048576 bytes.
-/
import Derived.Test.YtmdkfhbkdeoahaaDrwD
import Derived.Test.YtmdkfhbkdeoahaaCtrQ
import Derived.Maps.AppendAt
namespace Go.Proofs.Ytmdkfhbkdeoahaa
open Go.RowKit Go.Sort

def Apart (c o : Value) : Prop := ∀ b, c.ownBlock = some b → o.ownBlock ≠ some b
theorem Apart.not {c o : Value} (h : Apart c o) : c.ownBlock = none ∨ c.ownBlock ≠ o.ownBlock := by
  cases e : c.ownBlock with
  | none => exact .inl rfl
  | some b => exact .inr (fun q => h b e q.symm)
/-- A list made later lies apart. -/
theorem apart_new {w1 w2 : World} {b1 b2 : Nat} {c o : Value} {xs ys : List Int} (ho : OwnI w1 b1 o xs) (hc : OwnI w2 b2 c ys) (hb : w1.heap.size ≤ b2) : Apart c o := by
  intro b e q
  have := (World.ownsRow.lt hc b e).1
  have := (World.ownsRow.lt ho b q).2
  omega
theorem apart_old {w1 w2 : World} {b1 b2 : Nat} {c o : Value} {xs ys : List Int} (hc : OwnI w1 b1 c xs) (ho : OwnI w2 b2 o ys) (hb : w1.heap.size ≤ b2) : Apart c o := by
  intro b e q
  have := (World.ownsRow.lt hc b e).2
  have := (World.ownsRow.lt ho b q).1
  omega

/-- Drawn pulses. -/
def DrawnPulses (w : World) (g : Nat) (e : Ending) (w' : World) : Prop :=
  ∃ (v : Value) (ps : List Int), e = .returned v ∧ OwnI w' w.heap.size v ps ∧ ps.length ≤ 9 ∧ Low 6 ps ∧ Some' v ps.length ∧ w.grownBy w' (some g)

set_option maxHeartbeats 4000000 in
theorem drawPulses {w : World} {g p Bc : Nat} {v : Value} {cs : List Int} (h : Rdr w g p) (hp : p ≤ 500) (hv : OwnI w Bc v cs) (hB : g < Bc) (hBs : Bc ≤ w.heap.size) (hl : cs.length ≤ 4) :
    Calls Try.prog 31 #[.pointer (some ⟨g, 0, none⟩), v] w (DrawnPulses w g) := by
  have hgl := h.lt
  obtain ⟨i0, hi, hz0, hz1, hz2⟩ := info_parts info_int
  go_enter Try.func31, Try.ntmps31
  go_wp2_with (go_at_call 36; refine (pick (h.alloc _) (by omega) (by omega) (by omega)).mono ?_)
  rintro e w1 ⟨m, rfl, hm0, hm1, hr1, g1⟩
  have hm1' := hm1 (by omega)
  have og1 : OwnI w1 w.heap.size (.slice (some ⟨w.heap.size, 0, none⟩) 0 0) [] := (own_empty w).kept g1 (own_not (own_empty w) hgl)
  have gg1 : w.grownBy w1 (some g) := grown_trans (World.grownBy_alloc w _ (some g)) g1
  have hv1 : OwnI w1 Bc v cs := hv.kept gg1 (own_not hv hB)
  have ap1 : Apart v (.slice (some ⟨w.heap.size, 0, none⟩) 0 0) := apart_old hv og1 (Nat.le_refl _)
  obtain ⟨p1, hp1⟩ : ∃ p1, p1 = p + 1 := ⟨_, rfl⟩
  rw [← hp1] at hr1
  clear g1 hm1 hv h
  go_wp2_with fail
  go_loopw [1, 5, 7, 8, 9, 10] (fun c o i _ _ _ wr => ∃ (k q : Nat) (ds xs : List Int), (k : Int) ≤ m ∧ i = .int .i64 k ∧ OwnI wr Bc c ds ∧ ds.length ≤ 4 ∧ xs.length ≤ k ∧ OwnI wr w.heap.size o xs ∧ Some' o xs.length ∧ Low 6 xs ∧ Apart c o ∧ Rdr wr g q ∧ q ≤ p1 + 4 * k ∧ w.grownBy wr (some g)) (fun _ _ i _ _ _ _ => (10 - intOf i).toNat)
  case atStart => exact ⟨0, p1, cs, [], by omega, rfl, hv1, hl, Nat.le_refl _, og1, ⟨_, _, rfl⟩, Low.nil _, ap1, hr1, by omega, gg1⟩
  case round =>
    obtain ⟨k, q, ds, xs, hk, rfl, hcw, hdl, hxl, hown, hsm, hlow, hap, hrd, hq, hgr⟩ := hrel
    have hk8 : k ≤ 8 := by omega
    have hsz := hgr.size
    have LX := Lib.hid hlow
    have HS := Lib.hid hsm
    obtain ⟨ac, cc, rfl, -⟩ := own_list hcw (by omega)
    have hdi : (ds.length : Int) ≤ 4 := by omega
    clear hlow hsm og1 gg1 hv1 ap1 hr1
    by_cases hlt : (k : Int) < m
    · go_wp2_with (go_at_call 28; refine (drawPulse hrd (by omega) (by omega) (by omega)).mono ?_)
      rintro e w4 ⟨x, q4, rfl, hx0, hx1, hr4, hq4, g4⟩
      have hown2 := hown.kept g4 (own_not hown hgl)
      have hcw2 := hcw.kept g4 (own_not hcw hB)
      have hgr2 := grown_trans hgr g4
      have hsz2 := hgr2.size
      have SPx := Lib.hid (specPulse (hcw2.ints (by omega)) (p := x) (by omega))
      have hg4 := hr4.lt
      clear hown hrd hgr g4 hcw
      go_wp2_with (go_at_call 10; refine SPx.out.mono ?_)
      rintro e w5 ⟨nx, rfl, onx, b5⟩
      have hsz5 := b5.size
      have hr5 := hr4.below b5 hg4
      have hown5 := hown2.below b5
      have hcw5 := hcw2.below b5
      have hgr5 := grown_new hgr2 (below_grown b5) (fun b e => by cases e)
      have hapn : Apart nx _ := apart_new hown2 onx (Nat.le_refl _)
      obtain ⟨GO, CO, rfl⟩ := HS.out
      have O5 := Lib.hid hown5
      have C5 := Lib.hid hcw5
      have N5 := Lib.hid onx
      have AP := Lib.hid hap
      have APN := Lib.hid hapn
      have R5 := Lib.hid hr5
      have G5 := Lib.hid hgr5
      have PF := Lib.hid (fun (es : List Int) (h : pulC ds x = some es) => (pulse_facts h).2.2.1)
      obtain ⟨o, ho⟩ : ∃ o, o = pulC ds x := ⟨_, rfl⟩
      rw [← ho] at N5 PF SPx ⊢
      clear hown2 hcw2 hr4 hown5 hcw5 onx hap hapn hr5 hgr5 b5 ho SPx
      cases o with
      | none =>
        go_wp2_with fail
        go_roundw
        case rel => exact ⟨k + 1, q4, ds, xs, by omega, by go_num, C5.out, hdl, by omega, O5.out, ⟨GO, CO, rfl⟩, LX.out, AP.out, R5.out, by omega, G5.out⟩
        case measure => simp [intOf]; omega
      | some es =>
        have hel := PF.out es rfl
        have hor := O5.out
        unfold OwnI at hor
        go_wp2_with (at_builtin; refine wpList_append_own_at _ rfl _ _ 23 rfl w.heap.size 3 i0 (.int .i64 0) 1 8 Try.underlying23 hi hz0 hz1 hz2 rfl (by decide) _ _ _ rfl (hor.alloc _) ⟨w5.heap.size, 0, none⟩ 1 1 [.int .i64 x] rfl rfl ?c1 ?c2 ?c3 ?c4 ?c5 ?_)
        case c1 => exact cell_one_new _ _ _
        case c2 => intro u hu; simp at hu; subst hu; rfl
        case c3 => simp only [maxLen]; omega
        case c4 => omega
        case c5 => simp; omega
        intro v' w6 hown' hgrow _ hwhere
        have hlw := low_of hor
        have HG := Lib.hid (grown_new (grown_alloc G5.out _) hgrow hlw)
        have HR := Lib.hid ((R5.out.alloc _).grown hgrow (fun b e => Nat.lt_of_lt_of_le hgl (hlw b e)))
        have HO := Lib.hid (show OwnI w6 w.heap.size v' (xs ++ [x]) by
          unfold OwnI
          rw [List.length_append, List.map_append]
          exact hown')
        have HN := Lib.hid (show OwnI w6 Bc nx es from (OwnI.kept (N5.out.alloc _) hgrow APN.out.not).mono (by omega))
        have HS' := Lib.hid (own_some HO.out (by simp))
        have HA := Lib.hid (show Apart nx v' from by
          intro b e q
          rcases hwhere with h | h
          · rw [h] at q; exact APN.out b e q
          · rw [h] at q
            have := (World.ownsRow.lt N5.out b e).2
            simp at q
            omega)
        clear hown' hgrow hlw hwhere hor
        go_wp2_with fail
        go_roundw
        case rel => exact ⟨k + 1, q4, es, xs ++ [x], by omega, by go_num, HN.out, by omega, by simp; omega, HO.out, HS'.out, LX.out.snoc (by omega) (by omega), HA.out, HR.out, by omega, HG.out⟩
        case measure => simp [intOf]; omega
    · clear hk
      go_wp2_with (go_at_call 36; refine (pick hrd (by omega) (by omega) (by omega)).mono ?_)
      rintro e w4 ⟨r, rfl, hr0, hq1, hr4, g4⟩
      have hown2 := hown.kept g4 (own_not hown hgl)
      have hgr2 := grown_trans hgr g4
      have hsz2 := hgr2.size
      clear hown hrd hgr g4 hcw hap hq1
      by_cases h0 : r = 0
      · subst h0
        go_wp2_with (go_at_call 28; refine (drawPulse hr4 (by omega) (by omega) (by omega)).mono ?_)
        rintro e w5 ⟨x, q5, rfl, hx0, hx1, hr5, hq5, g5⟩
        have hown5 := hown2.kept g5 (own_not hown2 hgl)
        have hgr5 := grown_trans hgr2 g5
        have hsz5 := hgr5.size
        clear hown2 hgr2 g5 hr4 hr5
        unfold OwnI at hown5
        go_wp2_with (at_builtin; refine wpList_append_own_at _ rfl _ _ 23 rfl w.heap.size 3 i0 (.int .i64 0) 1 8 Try.underlying23 hi hz0 hz1 hz2 rfl (by decide) _ _ _ rfl (hown5.alloc _) ⟨w5.heap.size, 0, none⟩ 1 1 [.int .i64 x] rfl rfl ?c1 ?c2 ?c3 ?c4 ?c5 ?_)
        case c1 => exact cell_one_new _ _ _
        case c2 => intro u hu; simp at hu; subst hu; rfl
        case c3 => simp only [maxLen]; omega
        case c4 => omega
        case c5 => simp; omega
        intro v' w6 hown' hgrow _ _
        have HG := Lib.hid (grown_new (grown_alloc hgr5 _) hgrow (low_of hown5))
        have HO := Lib.hid (show OwnI w6 w.heap.size v' (xs ++ [x]) by
          unfold OwnI
          rw [List.length_append, List.map_append]
          exact hown')
        have HS' := Lib.hid (own_some HO.out (by simp))
        clear hown' hgrow hown5 hgr5
        go_wp2_with fail
        go_ret
        exact ⟨_, _, rfl, HO.out, by simp; omega, LX.out.snoc (by omega) (by omega), HS'.out, HG.out⟩
      · have t0 : (r == 0) = false := beq_eq_false_iff_ne.2 h0
        clear h0
        go_wp2_with fail
        go_ret
        exact ⟨_, xs, rfl, hown2, by omega, LX.out, HS.out, hgr2⟩

set_option maxHeartbeats 400000 in
theorem drawCountsRun {w : World} {a : Option Addr} {len cap : Nat} {zs : List Int} (h : IsRowK .u8 w a len cap zs) (hl : len ≤ 1048576) :
    Calls Try.prog 13 #[.slice a len cap] w fun e w' => ∃ (u v : Value) (cs ps : List Int), e = .returned (.tuple #[u, v]) ∧ Ints w' u cs ∧ cs.length ≤ 4 ∧ Low 51 cs ∧ Ints w' v ps ∧ ps.length ≤ 9 ∧ Low 6 ps ∧ Some' v ps.length ∧ Below w.heap.size w w' := by
  go_enter Try.func13, Try.ntmps13
  go_wp2_with (go_at_call 26; refine (openRd h hl).mono ?_)
  rintro e w1 ⟨g, rfl, hg, hr, b1⟩
  have hg1 := hr.lt
  go_wp2_with (go_at_call 27; refine (drawCounts hr (by omega)).mono ?_)
  rintro e w2 ⟨v, cs, q, rfl, ho, hl4, hlo, hr2, hq, g2⟩
  obtain ⟨av, cv, rfl, -⟩ := own_list ho (by omega)
  go_wp2_with (go_at_call 31; refine (drawPulses hr2 (by omega) ho hg1 g2.size hl4).mono ?_)
  rintro e w3 ⟨v3, ps, rfl, op, hp9, hpl, hps, g3⟩
  have ho3 := ho.kept g3 (own_not ho hg1)
  have gg := grown_trans g2 g3
  have hi := ho3.ints (by omega)
  have hi2 := op.ints (by omega)
  go_wp2_with fail
  go_ret2
  exact ⟨_, _, cs, ps, rfl, hi, hl4, hlo, hi2, hp9, hpl, hps, b1.grown gg b1.size (fun k hk => by simp only [Option.some.injEq] at hk; omega)⟩

end Go.Proofs.Ytmdkfhbkdeoahaa
