/-
  A move on any line, by the model and by the program.
-/
import Derived.Test.YtpofkfcjnhoamaaStepT
import Derived.Test.YtpofkfcjnhoamaaSpecV
import Derived.Test.YtpofkfcjnhoamaaRunI
namespace Go.Proofs.Ytpofkfcjnhoamaa
open Go.RowKit Go.Sort

theorem own_form {w : World} {base : Nat} {v : Value} {l : Ln} (h : OwnLine w base v l) : ∃ a n c a' n' c', v = .agg #[.slice a n c, .slice a' n' c'] := by
  obtain ⟨u1, u2, rfl, h1, h2, _⟩ := h
  obtain ⟨a, c, rfl⟩ := Ow.slice h1
  obtain ⟨a', n', c', rfl⟩ := own_is_slice h2
  exact ⟨_, _, _, _, _, _, rfl⟩
theorem lnOk_len {l : Ln} (h : lnB l = true) : l.1.length ≤ 5 ∧ l.2.length ≤ 5 := by
  have := lnB_is h
  exact ⟨this.1.2, this.2.1⟩
theorem zero_made {w X : World} {R : Nat} (p : Pair X R (.slice none 0 0) (.slice none 0 0) 26) (hR : w.heap.size ≤ R) (b : Below w.heap.size w X) :
    Pair ((X.setCell ⟨R, 0, none⟩ (.slice none 0 0)).setCell ⟨R, 1, none⟩ (.slice none 0 0)) R (.slice none 0 0) (.slice none 0 0) 26 ∧ MadeLineB w noLn false (.returned (.tuple #[.agg #[.slice none 0 0, .slice none 0 0], .bool false])) ((X.setCell ⟨R, 0, none⟩ (.slice none 0 0)).setCell ⟨R, 1, none⟩ (.slice none 0 0)) :=
  ⟨stored_pair p, _, rfl, ⟨_, _, rfl, ow_nil _ _ _ _ _, World.ownsRow_nil _ _ _ _, .inl rfl, .inl rfl⟩, (b.setCell (p := ⟨R, 0, none⟩) hR _).setCell (p := ⟨R, 1, none⟩) hR _⟩
theorem made_end {w X : World} {R B0 : Nat} {x y u1 u2 : Value} {l : Ln} (h : OwnLine X B0 (.agg #[u1, u2]) l) (hB : w.heap.size ≤ B0) (p : Pair X R x y 26) (hR : w.heap.size ≤ R) (b : Below w.heap.size w X) :
    OwnLine ((X.setCell ⟨R, 0, none⟩ u1).setCell ⟨R, 1, none⟩ u2) w.heap.size (.agg #[u1, u2]) l ∧ Below w.heap.size w ((X.setCell ⟨R, 0, none⟩ u1).setCell ⟨R, 1, none⟩ u2) ∧ Pair ((X.setCell ⟨R, 0, none⟩ u1).setCell ⟨R, 1, none⟩ u2) R u1 u2 26 := by
  obtain ⟨v1, v2, e, h1, h2, h3⟩ := h
  simp only [Value.agg.injEq, Array.mk.injEq, List.cons.injEq, and_true] at e
  obtain ⟨rfl, rfl⟩ := e
  have nA := away_types h1 p (by decide)
  have nB := away_types (ownI_ow h2) p (by decide)
  refine ⟨⟨u1, u2, rfl, ?_, ?_, h3⟩, (b.setCell (p := ⟨R, 0, none⟩) hR _).setCell (p := ⟨R, 1, none⟩) hR _, stored_pair p⟩
  · have k1 := ownsRow_setCell_other h1 (a := ⟨R, 0, none⟩) nA u1
    exact Ow.mono (ownsRow_setCell_other k1 (a := ⟨R, 1, none⟩) nA u2) hB
  · have k1 := ownsRow_setCell_other h2 (a := ⟨R, 0, none⟩) nB u1
    exact OwnI.mono (ownsRow_setCell_other k1 (a := ⟨R, 1, none⟩) nB u2) hB

set_option maxHeartbeats 2000000 in
theorem specLineStep {w : World} {v : Value} {l : Ln} {s : Int} {S : ByteArray} (h : LineV w v l) :
    Calls Try.prog 18 #[v, .agg #[.int .i64 s, .string S]] w (MadeLineB w ((lnStep l (s, S)).getD noLn) (lnStep l (s, S)).isSome) := by
  have hv := h
  obtain ⟨u1, u2, rfl, h1, h2⟩ := h
  obtain ⟨a1, c1, rfl⟩ := Rd.slice h1
  obtain ⟨a2, c2, rfl, -, -⟩ := h2
  obtain ⟨W, hW⟩ : ∃ X, X = ((w.alloc (.cells #[.slice a1 l.1.length c1, .slice a2 l.2.length c2] 26)).alloc (.cells #[.int .i64 s, .string S] 40)).alloc (.cells #[.slice none 0 0, .slice none 0 0] 26) := ⟨_, rfl⟩
  obtain ⟨p0, p1, p2, q0, s0⟩ := three_pairs w _ _ _ _ _ _ _ _ _ W hW
  have HW := Lib.hid hW.symm
  have Q0 := Lib.hid q0
  have P0 := Lib.hid p0
  have P1 := Lib.hid p1
  have P2 := Lib.hid p2
  have LV := Lib.hid (fun (X : World) (c : Below W.heap.size W X) => (hv.below q0).below c)
  have e0 := p0.cell0
  have e1 := p0.cell1
  have VA := Lib.hid (specLineValid (hv.below q0))
  clear hW p0 p1 p2 q0 s0 hv h1
  cases hb : lnB l
  · have E := Lib.hid (show lnStep l (s, S) = none by unfold lnStep; rw [hb]; rfl)
    rw [hb] at VA
    clear hb
    go_enter Try.func18, Try.ntmps18
    go_upto_region 1 with fail
    rw [HW.out]
    go_wp2_with (go_at_call 11; refine VA.out.mono ?_)
    rintro e w1 ⟨rfl, b1⟩
    have Z := Lib.hid (zero_made (w := w) (P2.out.below b1) (by omega) (chain Q0.out b1))
    have PP := P2.out.below b1
    have c0 := PP.cell0
    have c1' := PP.cell1
    have f0 := PP.frozen 0
    have f1 := PP.frozen 1
    have d0 := Z.out.1.cell0
    have d1 := Z.out.1.cell1
    clear PP b1 e0 e1
    go_wp2_with fail
    rw [E.out]
    exact bodyPost_ret (v := .tuple #[.agg #[.slice none 0 0, .slice none 0 0], .bool false]) (by simp [results, Try.results18, go_sem, d0, d1]) rfl Z.out.2
  · have E := Lib.hid (show lnStep l (s, S) = lnDo l (s, S) by unfold lnStep; rw [hb]; rfl)
    have hl := lnOk_len hb
    rw [hb] at VA
    clear hb
    go_enter Try.func18, Try.ntmps18
    go_upto_region 1 with fail
    rw [HW.out]
    go_wp2_with (go_at_call 11; refine VA.out.mono ?_)
    rintro e w1 ⟨rfl, b1⟩
    have A0 := P0.out.below b1
    have A1 := P1.out.below b1
    have k0 := A0.cell0
    have k1 := A0.cell1
    have k2 := A1.cell0
    have k3 := A1.cell1
    have ST := Lib.hid (l4Step (s := s) (S := S) (LV.out _ b1) hl)
    obtain ⟨r, hr⟩ : ∃ r, r = (lnDo l (s, S)).getD noLn := ⟨_, rfl⟩
    obtain ⟨t, ht⟩ : ∃ t, t = (lnDo l (s, S)).isSome := ⟨_, rfl⟩
    rw [← hr, ← ht] at ST
    have R := Lib.hid (And.intro hr ht)
    have B1 := Lib.hid b1
    clear A0 A1 e0 e1 hr ht b1
    go_wp2_with (go_at_call 50; refine ST.out.mono ?_)
    rintro e w2 ⟨v2, rfl, o2, b2⟩
    obtain ⟨a5, n5, d5, a6, n6, d6, rfl⟩ := own_form o2
    have C2 := Lib.hid (chain B1.out b2)
    have PP := P2.out.below C2.out
    have Z := Lib.hid (made_end (w := w) o2 (Nat.le_trans Q0.out.size B1.out.size) PP (by omega) (chain Q0.out C2.out))
    have c0 := PP.cell0
    have c1' := PP.cell1
    have f0 := PP.frozen 0
    have f1 := PP.frozen 1
    have d0 := Z.out.2.2.cell0
    have d1 := Z.out.2.2.cell1
    clear PP b2 k0 k1 k2 k3 o2
    go_wp2_with fail
    rw [E.out, ← R.out.1, ← R.out.2]
    exact bodyPost_ret (v := .tuple #[.agg #[.slice a5 n5 d5, .slice a6 n6 d6], .bool t]) (by simp [results, Try.results18, go_sem, d0, d1]) rfl ⟨_, rfl, Z.out.1, Z.out.2.1⟩

theorem mvs_one (W : World) (s : Int) (S : ByteArray) (t : TypeId) : Mvs (W.alloc (.cells #[.int .i64 s, .string S] t)) (.slice (some ⟨W.heap.size, 0, none⟩) 1 1) [(s, S)] := by
  have p := Pair.new W (.int .i64 s) (.string S) t
  refine ⟨_, _, rfl, by simp, .inr ⟨_, _, rfl, p.lt, fun q hq => ?_⟩⟩
  have h2 : q = 0 ∨ q = 1 := by simp at hq; omega
  rcases h2 with rfl | rfl
  · exact p.cell0
  · exact p.cell1

set_option maxHeartbeats 2000000 in
theorem implLineStep {w : World} {v : Value} {l : Ln} {s : Int} {S : ByteArray} (h : LineV w v l) (hS : S.size ≤ 2097152) :
    Calls Try.prog 16 #[v, .agg #[.int .i64 s, .string S]] w (MadeLineB w ((lnStep l (s, S)).getD noLn) (lnStep l (s, S)).isSome) := by
  have hv := h
  obtain ⟨u1, u2, rfl, h1, h2⟩ := h
  obtain ⟨a1, c1, rfl⟩ := Rd.slice h1
  obtain ⟨a2, c2, rfl, -, -⟩ := h2
  obtain ⟨W, hW⟩ : ∃ X, X = ((w.alloc (.cells #[.slice a1 l.1.length c1, .slice a2 l.2.length c2] 26)).alloc (.cells #[.int .i64 s, .string S] 40)).alloc (.cells #[.slice none 0 0, .slice none 0 0] 26) := ⟨_, rfl⟩
  obtain ⟨p0, p1, p2, q0, s0⟩ := three_pairs w _ _ _ _ _ _ _ _ _ W hW
  have HW := Lib.hid hW.symm
  have Q0 := Lib.hid q0
  have P2 := Lib.hid p2
  have bm := below_alloc W (.cells #[.int .i64 s, .string S] 40)
  have ST := Lib.hid (implLineRun ((hv.below q0).below bm) (mvs_one W s S 40) (fun i hi => by
    have : i = 0 := by simp at hi; exact hi
    subst this
    exact hS))
  rw [lnRun_one] at ST
  have e0 := p0.cell0
  have e1 := p0.cell1
  have e2 := p1.cell0
  have e3 := p1.cell1
  have BM := Lib.hid bm
  have SZ := Lib.hid s0
  obtain ⟨r, hr⟩ : ∃ r, r = (lnStep l (s, S)).getD noLn := ⟨_, rfl⟩
  obtain ⟨t, ht⟩ : ∃ t, t = (lnStep l (s, S)).isSome := ⟨_, rfl⟩
  rw [← hr, ← ht] at ST ⊢
  clear hW p0 p1 p2 q0 s0 hv h1 bm hr ht
  go_enter Try.func16, Try.ntmps16
  go_upto_region 1 with fail
  rw [HW.out]
  go_wp2_with (go_at_call 23; refine ST.out.mono ?_)
  rintro e w2 ⟨v2, rfl, o2, b2⟩
  obtain ⟨a5, n5, d5, a6, n6, d6, rfl⟩ := own_form o2
  have C2 := Lib.hid (chain BM.out b2)
  have PP := P2.out.below C2.out
  have Z := Lib.hid (made_end (w := w) o2 (Nat.le_trans Q0.out.size BM.out.size) PP (by omega) (chain Q0.out C2.out))
  have c0 := PP.cell0
  have c1' := PP.cell1
  have f0 := PP.frozen 0
  have f1 := PP.frozen 1
  have d0 := Z.out.2.2.cell0
  have d1 := Z.out.2.2.cell1
  clear PP b2 e0 e1 e2 e3 o2
  go_wp2_with fail
  exact bodyPost_ret (v := .tuple #[.agg #[.slice a5 n5 d5, .slice a6 n6 d6], .bool t]) (by simp [results, Try.results16, go_sem, d0, d1]) rfl ⟨_, rfl, Z.out.1, Z.out.2.1⟩

end Go.Proofs.Ytpofkfcjnhoamaa
