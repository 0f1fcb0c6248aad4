/-
  The path that goes on without standing, by the program: for all starts and at most 1048576 runs.
-/
import Derived.Test.YtoebgdcgcdigaabFree0
namespace Go.Proofs.Ytoebgdcgcdigaab
open Go.RowKit Go.Sort

/-- A call that hands back a new path and a bool. -/
def MadePathB (w : World) (p : List Int × List Int) (b : Bool) (e : Ending) (w' : World) : Prop :=
  ∃ v, e = .returned (.tuple #[v, .bool b]) ∧ OwnPath w' w.heap.size v p ∧ Below w.heap.size w w'
theorem nil_path (w : World) (base : Nat) : OwnPath w base (.agg #[.slice none 0 0, .slice none 0 0]) ([], []) :=
  ⟨_, _, rfl, World.ownsRow_nil _ _ _ _, World.ownsRow_nil _ _ _ _, .inl rfl, .inl rfl⟩
theorem made_path {w w' : World} {v : Value} {p p' : List Int × List Int} {b b' : Bool} (h : OwnPath w' w.heap.size v p) (hb : Below w.heap.size w w') (e : p = p') (eb : b = b') : MadePathB w p' b' (.returned (.tuple #[v, .bool b])) w' := by
  subst e
  subst eb
  exact ⟨_, rfl, h, hb⟩
/-- What is being built, read off. -/
theorem Building.own {w : World} {B b : Nat} {p : List Int × List Int} (h : Building w B b p) : ∃ a n c a' n' c', Pair w b (.slice a n c) (.slice a' n' c') 32 ∧ OwnPath w B (.agg #[.slice a n c, .slice a' n' c']) p := by
  obtain ⟨u1, u2, hp, hB, o1, o2, a1, a2, _⟩ := h
  obtain ⟨a, n, c, rfl⟩ := own_is_slice o1
  obtain ⟨a', n', c', rfl⟩ := own_is_slice o2
  exact ⟨a, n, c, a', n', c', hp, _, _, rfl, o1, o2, a1, a2⟩
theorem OwnPath.setApart {w : World} {base c : Nat} {v : Value} {p : List Int × List Int} (h : OwnPath w base v p) (hc : c < base) (i : Nat) (u : Value) : OwnPath (w.setCell ⟨c, i, none⟩ u) base v p := by
  obtain ⟨u1, u2, rfl, h1, h2, h3⟩ := h
  exact ⟨u1, u2, rfl, h1.setBelow hc u, h2.setBelow hc u, h3⟩
set_option maxHeartbeats 4000000 in
theorem fit0 {w : World} {v : Value} {rs : List Int} {start : Int} (h : Ints w v rs) (hst : -9223372036854775808 ≤ start ∧ start ≤ 9223372036854775807) :
    Calls Try.prog 17 #[.int .i64 rs.length, .slice none 0 0, .int .i64 start, v] w (MadePathB w (runOf start rs) (runB start rs)) := by
  obtain ⟨a, cap, rfl, hl, hc⟩ := h
  by_cases hn : 1 ≤ (rs.length : Int) ∧ (rs.length : Int) ≤ 5
  · obtain ⟨hn1, hn5⟩ := hn
    rcases hc with rfl | ⟨b, o, rfl, hb, hcell⟩
    · simp at hn1
    have q0 := below_alloc w (.cells #[.slice none 0 0, .slice none 0 0] 32)
    have pr := Pair.new w (.slice none 0 0) (.slice none 0 0) 32
    have sz : (w.alloc (.cells #[.slice none 0 0, .slice none 0 0] 32)).heap.size = w.heap.size + 1 := Go.Deep.nblk_alloc _ _
    obtain ⟨W, hW⟩ : ∃ X, X = w.alloc (.cells #[.slice none 0 0, .slice none 0 0] 32) := ⟨_, rfl⟩
    rw [← hW] at q0 pr sz
    have e1 := below_alloc W (.cells #[.slice none 0 0, .slice none 0 0] 32)
    have pf := Pair.new W (.slice none 0 0) (.slice none 0 0) 32
    obtain ⟨W1, hW1⟩ : ∃ X, X = W.alloc (.cells #[.slice none 0 0, .slice none 0 0] 32) := ⟨_, rfl⟩
    rw [← hW1] at e1 pf
    have hbd : Building W1 W.heap.size W.heap.size (pathTo start rs 0) := ⟨_, _, pf, Nat.le_refl _, World.ownsRow_nil _ _ _ _, World.ownsRow_nil _ _ _ _, .inl rfl, .inl rfl, by simp [Value.ownBlock], by simp [Value.ownBlock]⟩
    have HW := Lib.hid (show (w.alloc (.cells #[.slice none 0 0, .slice none 0 0] 32)).alloc (.cells #[.slice none 0 0, .slice none 0 0] 32) = W1 by rw [hW1, hW])
    rw [sz] at hbd
    have SZ := Lib.hid sz
    have PR := Lib.hid pr
    have HC := Lib.hid hcell
    have Q0 := Lib.hid q0
    have tl : ((rs.length : Int) != (rs.length : Int)) = false := by simp
    clear hW hW1 q0 pr sz pf hcell
    go_enter Try.func17, Try.ntmps17
    go_wp2_with (go_at_call 44; refine (sections_yes _ hn1 hn5).mono ?_; rintro e w' ⟨rfl, rfl⟩)
    rw [HW.out]
    go_loopw [11, 29] (fun r i wr => ∃ k : Nat, k ≤ rs.length ∧ i = .int .i64 k ∧ r = .int .i64 (runTo start rs k) ∧ RunsTo start rs k ∧ Building wr (w.heap.size + 1) (w.heap.size + 1) (pathTo start rs k) ∧ Below W.heap.size W wr) (fun _ i _ => rs.length - (intOf i).toNat)
    case atStart => exact ⟨0, by omega, rfl, rfl, RunsTo.zero _ _, hbd, e1⟩
    case round =>
      obtain ⟨k, hk, rfl, rfl, hrt, hbu, hbel⟩ := hrel
      obtain ⟨t, ht⟩ : ∃ t, t = runTo start rs k := ⟨_, rfl⟩
      have htb : -9223372036854775808 ≤ t ∧ t ≤ 9223372036854775807 := by
        rw [ht]
        cases k with
        | zero => exact hst
        | succ j =>
          have q := hrt j (by omega)
          unfold runOk at q
          have q2 : runTo start rs (j + 1) = runTo start rs j + rs.getD j 0 := rfl
          omega
      rw [← ht]
      have T := Lib.hid ht
      have RT := Lib.hid hrt
      have BU := Lib.hid hbu
      have hbelw := (Q0.out).trans (hbel.mono Q0.out.size)
      clear ht hrt hbu
      by_cases hlt : k < rs.length
      · obtain ⟨r, hr⟩ : ∃ r, r = rs.getD k 0 := ⟨_, rfl⟩
        have ec := (hbelw.cell (p := ⟨b, o + k, none⟩) hb).trans (HC.out k hlt)
        rw [← hr] at ec
        have R := Lib.hid hr
        have hki : (k : Int) < (rs.length : Int) := by omega
        have FR := Lib.hid (free0 (w := wr) (n := rs.length) (t := t) (r := r) (k := k) hn1 hn5 hki htb)
        clear hr
        cases hf : free0B t r
        · have HN := Lib.hid (runB_no (start := start) hlt (fun q => by
            have : free0B t r = true := decide_eq_true (by rw [T.out, R.out]; exact ⟨q.1, q.2.1, q.2.2⟩)
            rw [hf] at this
            cases this))
          have F0 : free0T t r = 0 := by unfold free0T; rw [hf]; rfl
          rw [hf, F0] at FR
          clear hf F0
          have k0 := (PR.out.below hbel).cell0
          have k1 := (PR.out.below hbel).cell1
          go_wp2_with (go_at_call 14; refine FR.out.mono ?_)
          rintro e w1 ⟨rfl, b1⟩
          have pr1 := (PR.out.below hbel).below b1
          have k2 := pr1.cell0
          have k3 := pr1.cell1
          have k4 := pr1.frozen 0
          have k5 := pr1.frozen 1
          have pr2 := stored_pair (x' := .slice none 0 0) (y' := .slice none 0 0) pr1
          have k6 := pr2.cell0
          have k7 := pr2.cell1
          have C1 := Lib.hid (((hbelw.trans (b1.mono hbelw.size)).setCell (p := ⟨w.heap.size, 0, none⟩) (Nat.le_refl _) (.slice none 0 0)).setCell (p := ⟨w.heap.size, 1, none⟩) (Nat.le_refl _) (.slice none 0 0))
          clear pr1 pr2 b1
          go_wp2_with fail
          refine bodyPost_ret (v := .tuple #[.agg #[.slice none 0 0, .slice none 0 0], .bool false]) (by simp [results, Try.results17, go_sem, k6, k7]) rfl (made_path (nil_path _ _) C1.out (runOf_no HN.out).symm HN.out.symm)
        · have hok : runOk start rs k := by
            have q := of_decide_eq_true hf
            rw [T.out, R.out] at q
            exact ⟨q.1, q.2.1, q.2.2⟩
          have F0 : free0T t r = t := by unfold free0T; rw [hf]; rfl
          rw [hf, F0] at FR
          have hq := of_decide_eq_true hf
          have hw : IntKind.i64.wrap (t + r) = t + r := IntWalk.i64_in _ (by omega)
          have hw' : wrap64 (t + r) = t + r := (IntWalk.i64_left _).symm.trans hw
          have HS := Lib.hid (RT.out.succ hok)
          have HT := Lib.hid (show runTo start rs (k + 1) = t + r by rw [T.out, R.out]; rfl)
          have hk5 : k ≤ 5 := by omega
          have htr1 : 0 ≤ t + r := by omega
          have htr2 : t + r ≤ 2000 := hq.2.2
          clear hf F0 hok hq
          go_wp2_with (go_at_call 14; refine FR.out.mono ?_)
          rintro e w1 ⟨rfl, b1⟩
          have EN := Lib.hid (enter (x := t) (r := r) (BU.out.below b1) hw (by rw [(pathTo_len start rs k).1]; omega) (by rw [(pathTo_len start rs k).2]; omega))
          rw [T.out, ← pathTo_succ1, ← T.out, ← HT.out, ← pathTo_succ2] at EN
          go_wp2_with fail
          refine EN.out.mono ?_
          rintro e w2 ⟨rfl, hb2, b2⟩
          have c2 := (hbel.trans (b1.mono hbel.size)).trans (show Below W.heap.size w1 w2 by rw [SZ.out]; exact b2)
          have HB2 := Lib.hid hb2
          clear hb2 b1 b2 hbel hbelw EN
          go_wp2_with fail
          go_roundw
          case rel => exact ⟨k + 1, by omega, by go_num, ret_val HT.out.symm, HS.out, HB2.out, c2⟩
          case measure => simp [intOf]; omega
      · obtain rfl : k = rs.length := by omega
        have HY := Lib.hid (runB_yes (start := start) hn1 hn5 RT.out)
        obtain ⟨a1, n1, c1, a2, n2, c2, pf, po⟩ := BU.out.own
        have pr1 := PR.out.below hbel
        have k0 := pf.cell0
        have k1 := pf.cell1
        have k2 := pr1.cell0
        have k3 := pr1.cell1
        have k4 := pr1.frozen 0
        have k5 := pr1.frozen 1
        have pr2 := stored_pair (x' := .slice a1 n1 c1) (y' := .slice a2 n2 c2) pr1
        have k6 := pr2.cell0
        have k7 := pr2.cell1
        have C1 := Lib.hid ((hbelw.setCell (p := ⟨w.heap.size, 0, none⟩) (Nat.le_refl _) (.slice a1 n1 c1)).setCell (p := ⟨w.heap.size, 1, none⟩) (Nat.le_refl _) (.slice a2 n2 c2))
        have PO := Lib.hid (((po.setApart (c := w.heap.size) (by omega) 0 (.slice a1 n1 c1)).setApart (c := w.heap.size) (by omega) 1 (.slice a2 n2 c2)).mono (base' := w.heap.size) (by omega))
        clear pf po pr1 pr2
        go_wp2_with fail
        refine bodyPost_ret (v := .tuple #[.agg #[.slice a1 n1 c1, .slice a2 n2 c2], .bool true]) (by simp [results, Try.results17, go_sem, k6, k7]) rfl (made_path PO.out C1.out (runOf_yes HY.out).symm HY.out.symm)
  · have hn' : (rs.length : Int) < 1 ∨ 5 < (rs.length : Int) := by omega
    have HN := Lib.hid (runB_len (start := start) hn')
    have H := Lib.hid hn'
    have C1 := Lib.hid (below_alloc w (.cells #[.slice none 0 0, .slice none 0 0] 32))
    clear hn hn' hc
    go_enter Try.func17, Try.ntmps17
    go_wp2_with (go_at_call 44; refine (sections_no _ H.out).mono ?_; rintro e w' ⟨rfl, rfl⟩)
    refine bodyPost_ret (v := .tuple #[.agg #[.slice none 0 0, .slice none 0 0], .bool false]) (by simp [results, Try.results17, go_sem]) rfl (made_path (nil_path _ _) C1.out (runOf_no HN.out).symm HN.out.symm)

end Go.Proofs.Ytoebgdcgcdigaab
