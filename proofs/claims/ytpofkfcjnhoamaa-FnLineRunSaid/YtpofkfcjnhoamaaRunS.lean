/-
  A line's moves, one by one, by the model. For lines and lists of moves of at most 1048576 elements.
-/
import Derived.Test.YtpofkfcjnhoamaaMadeR
namespace Go.Proofs.Ytpofkfcjnhoamaa
open Go.RowKit Go.Sort

theorem held_new {X : World} {g base B : Nat} {x y u1 u2 : Value} {l : Ln} (p : Pair X g x y 26) (h : OwnLine X B (.agg #[u1, u2]) l) (hB : base ≤ B) : HeldL ((X.setCell ⟨g, 0, none⟩ u1).setCell ⟨g, 1, none⟩ u2) g base u1 u2 l := by
  obtain ⟨v1, v2, e, h1, h2, _⟩ := h
  simp only [Value.agg.injEq, Array.mk.injEq, List.cons.injEq, and_true] at e
  obtain ⟨rfl, rfl⟩ := e
  have nA := away_types h1 p (by decide)
  have nB := away_types (ownI_ow h2) p (by decide)
  refine ⟨stored_pair p, ?_, ?_⟩
  · have k1 := ownsRow_setCell_other h1 (a := ⟨g, 0, none⟩) nA u1
    exact Ow.mono (ownsRow_setCell_other k1 (a := ⟨g, 1, none⟩) nA u2) hB
  · have k1 := ownsRow_setCell_other h2 (a := ⟨g, 0, none⟩) nB u1
    exact OwnI.mono (ownsRow_setCell_other k1 (a := ⟨g, 1, none⟩) nB u2) hB
theorem HeldL.lineV {w : World} {B base : Nat} {u1 u2 : Value} {l : Ln} (h : HeldL w B base u1 u2 l) (h1 : l.1.length ≤ 1048576) (h2 : l.2.length ≤ 1048576) : LineV w (.agg #[u1, u2]) l :=
  OwnLine.lineV ⟨u1, u2, rfl, h.blocks, h.trains, h.apart⟩ h1 h2
theorem HeldL.slices {w : World} {B base : Nat} {u1 u2 : Value} {l : Ln} (h : HeldL w B base u1 u2 l) : ∃ a n c a' n' c', u1 = .slice a n c ∧ u2 = .slice a' n' c' := by
  obtain ⟨a, c, rfl⟩ := Ow.slice h.blocks
  obtain ⟨a', n', c', rfl⟩ := own_is_slice h.trains
  exact ⟨_, _, _, _, _, _, rfl, rfl⟩

set_option maxHeartbeats 8000000 in
theorem specLineRun {w : World} {v u : Value} {l : Ln} {ms : List Mv} (h : LineV w v l) (hm : Mvs w u ms) :
    Calls Try.prog 24 #[v, u] w (MadeLineB w ((lnRun l ms).getD noLn) (lnRun l ms).isSome) := by
  have hv := h
  obtain ⟨u1, u2, rfl, h1, h2⟩ := h
  obtain ⟨a1, c1, rfl⟩ := Rd.slice h1
  have hh2 := h2
  obtain ⟨a2, c2, rfl, -, -⟩ := h2
  obtain ⟨am, cm, rfl⟩ := Rd.slice hm
  have km := Rd.len hm
  have km' : (ms.length : Int) ≤ 1048576 := by omega
  obtain ⟨W, hW⟩ : ∃ X, X = (w.alloc (.cells #[.slice a1 l.1.length c1, .slice a2 l.2.length c2] 26)).alloc (.cells #[.slice none 0 0, .slice none 0 0] 26) := ⟨_, rfl⟩
  obtain ⟨p0, p2, q0, s0⟩ := two_pairs w _ _ _ _ _ _ W hW
  have HW := Lib.hid hW.symm
  have Q0 := Lib.hid q0
  have P0 := Lib.hid p0
  have P2 := Lib.hid p2
  have e0 := p0.cell0
  have e1 := p0.cell1
  have VA := Lib.hid (specLineValid (hv.below q0))
  have LB := Lib.hid (fun (X : World) (c : Below W.heap.size W X) => Rd.below (Rd.below h1 q0) c)
  have LT := Lib.hid (fun (X : World) (c : Below W.heap.size W X) => (hh2.below q0).below c)
  have LM := Lib.hid (fun (X : World) (c : Below W.heap.size W X) => Rd.below (Rd.below hm q0) c)
  clear hW p0 p2 q0 s0 hv h1 hh2 hm
  cases hb : lnB l
  · have E := Lib.hid (lnRun_not (ms := ms) hb)
    rw [hb] at VA
    clear hb
    go_enter Try.func24, Try.ntmps24
    go_upto_region 1 with fail
    rw [HW.out]
    go_wp2_with (go_at_call 11; refine VA.out.mono ?_)
    rintro e w1 ⟨rfl, b1⟩
    have Z := Lib.hid (zero_made (w := w) (P2.out.below b1) (by omega) (chain Q0.out b1))
    have PP := P2.out.below b1
    have c0 := PP.cell0
    have c1' := PP.cell1
    have f0 := PP.frozen 0
    have f1 := PP.frozen 1
    have d0 := Z.out.1.cell0
    have d1 := Z.out.1.cell1
    clear PP b1 e0 e1
    go_wp2_with fail
    rw [E.out]
    exact bodyPost_ret (v := .tuple #[.agg #[.slice none 0 0, .slice none 0 0], .bool false]) (by simp [results, Try.results24, go_sem, d0, d1]) rfl Z.out.2
  · have E := Lib.hid (lnRun_is (ms := ms) hb)
    have hl := lnOk_len hb
    have k15 : l.1.length ≤ 1000 := by omega
    have k25 : l.2.length ≤ 1000 := by omega
    rw [hb] at VA
    clear hb
    go_enter Try.func24, Try.ntmps24
    go_upto_region 1 with fail
    rw [HW.out]
    go_wp2_with (go_at_call 11; refine VA.out.mono ?_)
    rintro e V ⟨rfl, b1⟩
    have BX := Lib.hid b1
    have PL := Lib.hid (P0.out.below b1)
    have HB := Lib.hid (fun (X : World) (c : Below V.heap.size V X) => LB.out X (b1.trans (c.mono b1.size)))
    have HT := Lib.hid (fun (X : World) (c : Below V.heap.size V X) => LT.out X (b1.trans (c.mono b1.size)))
    have lV : w.heap.size < V.heap.size := PL.out.lt
    have v0 := PL.out.cell0
    have v1 := PL.out.cell1
    clear b1 e0 e1 VA
    go_wp2_with fail
    go_cut [6] (fun p wx => ∃ g v1 v2, p = .pointer (some ⟨g, 0, none⟩) ∧ V.heap.size ≤ g ∧ HeldL wx g V.heap.size v1 v2 l ∧ Below V.heap.size V wx)
    case first =>
      have d0 : Below V.heap.size V V.drew := (Below.refl _ _).drew
      have CL := Lib.hid (fun (X : World) (kb : Below V.heap.size V X) => show X.cell? ⟨w.heap.size, 0, none⟩ = some (.slice a1 l.1.length c1) ∧ X.cell? ⟨w.heap.size, 1, none⟩ = some (.slice a2 l.2.length c2) from
        ⟨(PL.out.below kb).cell0, (PL.out.below kb).cell1⟩)
      go_region_held3 (fun X => X.cell? ⟨w.heap.size, 0, none⟩ = some (.slice a1 l.1.length c1) ∧ X.cell? ⟨w.heap.size, 1, none⟩ = some (.slice a2 l.2.length c2))
        (first
          | (refine CL.out _ ?_; (with_reducible (repeat (first | exact d0 | exact Below.refl _ _ | refine bel_drew ?_ | refine bel_alloc ?_ _ | refine chain ?_ bA | refine chain ?_ bB))); done)
          | (refine CL.out _ (copy_endC (q := V) (x := .slice none 0 0) (y := .slice none 0 0) ?_ ?_ ?_); (next => (first | exact Nat.le_refl _ | omega | exact Nat.le_succ _ | (refine Below.size (B := V.heap.size) ?_; (with_reducible (repeat (first | exact d0 | exact Below.refl _ _ | refine bel_drew ?_ | refine bel_alloc ?_ _ | refine chain ?_ bA | refine chain ?_ bB))); done) | (refine Nat.le_trans (Below.size (B := V.heap.size) ?_) (Nat.le_succ _); (with_reducible (repeat (first | exact d0 | exact Below.refl _ _ | refine bel_drew ?_ | refine bel_alloc ?_ _ | refine chain ?_ bA | refine chain ?_ bB))); done) | ((have q1 := bA.size); (have q2 := bB.size); simp at q1 q2 ⊢ <;> omega) | ((have q1 := bA.size); simp at q1 ⊢ <;> omega) | ((have q1 := bB.size); simp at q1 ⊢ <;> omega) | (simp <;> omega))); (next => (with_reducible (repeat (first | (refine pair_new_at ?_; (first | rfl | (simp; done))) | refine pair_drew ?_ | refine pair_alloc ?_ _ | refine pair_below ?_ bA | refine pair_below ?_ bB)))); (next => (with_reducible (repeat (first | exact d0 | exact Below.refl _ _ | refine bel_drew ?_ | refine bel_alloc ?_ _ | refine chain ?_ bA | refine chain ?_ bB))))))
        (first
          | (refine step_copyI rfl (.tmp 18) (.tmp 20) rfl rfl rfl (HT.out _ ?_) k25 ?_ (base := V.heap.size) ?_ ?_; (next => (with_reducible (repeat (first | exact d0 | exact Below.refl _ _ | refine bel_drew ?_ | refine bel_alloc ?_ _ | refine chain ?_ bA | refine chain ?_ bB)))); (next => (with_reducible (repeat (first | (refine blk_new_at ?_; (first | rfl | (simp; done))) | refine blk_drew ?_ | refine blk_alloc ?_ _ | refine blk_below ?_ bA | refine blk_below ?_ bB)))); (next => (first | exact Nat.le_refl _ | omega | exact Nat.le_succ _ | (refine Below.size (B := V.heap.size) ?_; (with_reducible (repeat (first | exact d0 | exact Below.refl _ _ | refine bel_drew ?_ | refine bel_alloc ?_ _ | refine chain ?_ bA | refine chain ?_ bB))); done) | (refine Nat.le_trans (Below.size (B := V.heap.size) ?_) (Nat.le_succ _); (with_reducible (repeat (first | exact d0 | exact Below.refl _ _ | refine bel_drew ?_ | refine bel_alloc ?_ _ | refine chain ?_ bA | refine chain ?_ bB))); done) | ((have q1 := bA.size); (have q2 := bB.size); simp at q1 q2 ⊢ <;> omega) | ((have q1 := bA.size); simp at q1 ⊢ <;> omega) | ((have q1 := bB.size); simp at q1 ⊢ <;> omega) | (simp <;> omega))); intro vB wB oB bB; obtain ⟨aB, nB, cB, rfl⟩ := own_is_slice oB; have cm := CL.out wB (by (with_reducible (repeat (first | exact d0 | exact Below.refl _ _ | refine bel_drew ?_ | refine bel_alloc ?_ _ | refine chain ?_ bA | refine chain ?_ bB)))); have cm0 := cm.1; have cm1 := cm.2; clear cm; (first | (refine given (P := Pair wB V.heap.size (.slice none 0 0) (.slice none 0 0) 26) ?_ ?_; (next => (with_reducible (repeat (first | (refine pair_new_at ?_; (first | rfl | (simp; done))) | refine pair_drew ?_ | refine pair_alloc ?_ _ | refine pair_below ?_ bA | refine pair_below ?_ bB)))); intro pz; have z0 := pz.cell0; have z1 := pz.cell1; have y0 := pz.frozen 0; have y1 := pz.frozen 1; clear pz) | (refine given (P := Pair wB (V.heap.size + 1) (.slice none 0 0) (.slice none 0 0) 26) ?_ ?_; (next => (with_reducible (repeat (first | (refine pair_new_at ?_; (first | rfl | (simp; done))) | refine pair_drew ?_ | refine pair_alloc ?_ _ | refine pair_below ?_ bA | refine pair_below ?_ bB)))); intro pz; have z0 := pz.cell0; have z1 := pz.cell1; have y0 := pz.frozen 0; have y1 := pz.frozen 1; clear pz) | (refine given (P := Pair wB (V.heap.size + 1 + 1) (.slice none 0 0) (.slice none 0 0) 26) ?_ ?_; (next => (with_reducible (repeat (first | (refine pair_new_at ?_; (first | rfl | (simp; done))) | refine pair_drew ?_ | refine pair_alloc ?_ _ | refine pair_below ?_ bA | refine pair_below ?_ bB)))); intro pz; have z0 := pz.cell0; have z1 := pz.cell1; have y0 := pz.frozen 0; have y1 := pz.frozen 1; clear pz) | (refine given (P := Pair wB wA.heap.size (.slice none 0 0) (.slice none 0 0) 26) ?_ ?_; (next => (with_reducible (repeat (first | (refine pair_new_at ?_; (first | rfl | (simp; done))) | refine pair_drew ?_ | refine pair_alloc ?_ _ | refine pair_below ?_ bA | refine pair_below ?_ bB)))); intro pz; have z0 := pz.cell0; have z1 := pz.cell1; have y0 := pz.frozen 0; have y1 := pz.frozen 1; clear pz) | (refine given (P := Pair wB (wA.heap.size + 1) (.slice none 0 0) (.slice none 0 0) 26) ?_ ?_; (next => (with_reducible (repeat (first | (refine pair_new_at ?_; (first | rfl | (simp; done))) | refine pair_drew ?_ | refine pair_alloc ?_ _ | refine pair_below ?_ bA | refine pair_below ?_ bB)))); intro pz; have z0 := pz.cell0; have z1 := pz.cell1; have y0 := pz.frozen 0; have y1 := pz.frozen 1; clear pz) | skip))
          | (refine step_copyB rfl (.tmp 14) (.tmp 16) rfl rfl rfl (HB.out _ ?_) k15 ?_ (base := V.heap.size) ?_ ?_; (next => (with_reducible (repeat (first | exact d0 | exact Below.refl _ _ | refine bel_drew ?_ | refine bel_alloc ?_ _ | refine chain ?_ bA | refine chain ?_ bB)))); (next => (with_reducible (repeat (first | (refine blk_new_at ?_; (first | rfl | (simp; done))) | refine blk_drew ?_ | refine blk_alloc ?_ _ | refine blk_below ?_ bA | refine blk_below ?_ bB)))); (next => (first | exact Nat.le_refl _ | omega | exact Nat.le_succ _ | (refine Below.size (B := V.heap.size) ?_; (with_reducible (repeat (first | exact d0 | exact Below.refl _ _ | refine bel_drew ?_ | refine bel_alloc ?_ _ | refine chain ?_ bA | refine chain ?_ bB))); done) | (refine Nat.le_trans (Below.size (B := V.heap.size) ?_) (Nat.le_succ _); (with_reducible (repeat (first | exact d0 | exact Below.refl _ _ | refine bel_drew ?_ | refine bel_alloc ?_ _ | refine chain ?_ bA | refine chain ?_ bB))); done) | ((have q1 := bA.size); (have q2 := bB.size); simp at q1 q2 ⊢ <;> omega) | ((have q1 := bA.size); simp at q1 ⊢ <;> omega) | ((have q1 := bB.size); simp at q1 ⊢ <;> omega) | (simp <;> omega))); intro vA wA oA bA; obtain ⟨aA, cA, rfl⟩ := Ow.slice oA; have cl := CL.out wA (by (with_reducible (repeat (first | exact d0 | exact Below.refl _ _ | refine bel_drew ?_ | refine bel_alloc ?_ _ | refine chain ?_ bA | refine chain ?_ bB)))); have cl0 := cl.1; have cl1 := cl.2; clear cl; (first | (refine given (P := Pair wA V.heap.size (.slice none 0 0) (.slice none 0 0) 26) ?_ ?_; (next => (with_reducible (repeat (first | (refine pair_new_at ?_; (first | rfl | (simp; done))) | refine pair_drew ?_ | refine pair_alloc ?_ _ | refine pair_below ?_ bA | refine pair_below ?_ bB)))); intro pz; have z0 := pz.cell0; have z1 := pz.cell1; have y0 := pz.frozen 0; have y1 := pz.frozen 1; clear pz) | (refine given (P := Pair wA (V.heap.size + 1) (.slice none 0 0) (.slice none 0 0) 26) ?_ ?_; (next => (with_reducible (repeat (first | (refine pair_new_at ?_; (first | rfl | (simp; done))) | refine pair_drew ?_ | refine pair_alloc ?_ _ | refine pair_below ?_ bA | refine pair_below ?_ bB)))); intro pz; have z0 := pz.cell0; have z1 := pz.cell1; have y0 := pz.frozen 0; have y1 := pz.frozen 1; clear pz) | (refine given (P := Pair wA (V.heap.size + 1 + 1) (.slice none 0 0) (.slice none 0 0) 26) ?_ ?_; (next => (with_reducible (repeat (first | (refine pair_new_at ?_; (first | rfl | (simp; done))) | refine pair_drew ?_ | refine pair_alloc ?_ _ | refine pair_below ?_ bA | refine pair_below ?_ bB)))); intro pz; have z0 := pz.cell0; have z1 := pz.cell1; have y0 := pz.frozen 0; have y1 := pz.frozen 1; clear pz) | (refine given (P := Pair wA wB.heap.size (.slice none 0 0) (.slice none 0 0) 26) ?_ ?_; (next => (with_reducible (repeat (first | (refine pair_new_at ?_; (first | rfl | (simp; done))) | refine pair_drew ?_ | refine pair_alloc ?_ _ | refine pair_below ?_ bA | refine pair_below ?_ bB)))); intro pz; have z0 := pz.cell0; have z1 := pz.cell1; have y0 := pz.frozen 0; have y1 := pz.frozen 1; clear pz) | (refine given (P := Pair wA (wB.heap.size + 1) (.slice none 0 0) (.slice none 0 0) 26) ?_ ?_; (next => (with_reducible (repeat (first | (refine pair_new_at ?_; (first | rfl | (simp; done))) | refine pair_drew ?_ | refine pair_alloc ?_ _ | refine pair_below ?_ bA | refine pair_below ?_ bB)))); intro pz; have z0 := pz.cell0; have z1 := pz.cell1; have y0 := pz.frozen 0; have y1 := pz.frozen 1; clear pz) | skip))
          | fail)
      all_goals (go_wp2_with fail; go_meet; first
        | (refine copy_endA (q := V) (l := l) ?_ ?_ ?_; (next => (with_reducible (repeat (first | exact oA | refine ownB_drew ?_ | refine ownB_alloc ?_ _ | refine ownB_below ?_ bB)))); (next => (with_reducible (repeat (first | exact oB | refine ownI_drew ?_ | refine ownI_alloc ?_ _ | refine ownI_below ?_ bA)))); (next => (with_reducible (repeat (first | exact d0 | exact Below.refl _ _ | refine bel_drew ?_ | refine bel_alloc ?_ _ | refine chain ?_ bA | refine chain ?_ bB)))))
        | (refine copy_endB (q := V) (x := .slice none 0 0) (y := .slice none 0 0) (l := l) ?_ ?_ ?_ ?_ ?_; (next => (first | exact Nat.le_refl _ | omega | exact Nat.le_succ _ | (refine Below.size (B := V.heap.size) ?_; (with_reducible (repeat (first | exact d0 | exact Below.refl _ _ | refine bel_drew ?_ | refine bel_alloc ?_ _ | refine chain ?_ bA | refine chain ?_ bB))); done) | (refine Nat.le_trans (Below.size (B := V.heap.size) ?_) (Nat.le_succ _); (with_reducible (repeat (first | exact d0 | exact Below.refl _ _ | refine bel_drew ?_ | refine bel_alloc ?_ _ | refine chain ?_ bA | refine chain ?_ bB))); done) | ((have q1 := bA.size); (have q2 := bB.size); simp at q1 q2 ⊢ <;> omega) | ((have q1 := bA.size); simp at q1 ⊢ <;> omega) | ((have q1 := bB.size); simp at q1 ⊢ <;> omega) | (simp <;> omega))); (next => (with_reducible (repeat (first | (refine pair_new_at ?_; (first | rfl | (simp; done))) | refine pair_drew ?_ | refine pair_alloc ?_ _ | refine pair_below ?_ bA | refine pair_below ?_ bB)))); (next => (with_reducible (repeat (first | exact oA | refine ownB_drew ?_ | refine ownB_alloc ?_ _ | refine ownB_below ?_ bB)))); (next => (with_reducible (repeat (first | exact oB | refine ownI_drew ?_ | refine ownI_alloc ?_ _ | refine ownI_below ?_ bA)))); (next => (with_reducible (repeat (first | exact d0 | exact Below.refl _ _ | refine bel_drew ?_ | refine bel_alloc ?_ _ | refine chain ?_ bA | refine chain ?_ bB))))))
    case rest =>
    obtain ⟨g, y1, y2, rfl, hg, held, bq⟩ := hcut
    obtain ⟨Y, hY⟩ : ∃ X, X = wc := ⟨_, rfl⟩
    rw [← hY] at held bq ⊢
    clear hY v0 v1
    have lR : w.heap.size + 1 < V.heap.size := (P2.out.below BX.out).lt
    have H0 := Lib.hid held
    have B0 := Lib.hid bq
    have WV := Lib.hid BX.out.size
    clear held bq
    go_wp2_with fail
    go_loopw [7] (fun i wr => ∃ (k : Nat) (x : Ln) (z1 z2 : Value), k ≤ ms.length ∧ i = .int .i64 k ∧ Hid (lnTo l ms k = some x) ∧ Hid (HeldL wr g V.heap.size z1 z2 x) ∧ Hid (Below V.heap.size V wr)) (fun i _ => ms.length - (intOf i).toNat)
    case atStart => exact ⟨0, l, y1, y2, by omega, rfl, Lib.hid rfl, H0, B0⟩
    case round =>
      obtain ⟨k, x, z1, z2, hk, rfl, T, HZ, BZ⟩ := hrel
      obtain ⟨Z, hZ⟩ : ∃ X, X = wr := ⟨_, rfl⟩
      rw [← hZ] at HZ BZ ⊢
      clear hZ
      have CZ := Lib.hid (BX.out.trans (BZ.out.mono BX.out.size))
      obtain ⟨aZ, nZ, cZ, aY, nY, cY, rfl, rfl⟩ := HZ.out.slices
      by_cases hlt : k < ms.length
      · obtain ⟨_, bm, om, rfl, hbm, hcell⟩ := Rd.at (LM.out Z CZ.out) hlt
        have g0 := hcell (k * 2) (by omega)
        have g1 := hcell (k * 2 + 1) (by omega)
        rw [mvF0] at g0
        rw [mvF1, ← Nat.add_assoc] at g1
        have hki : (k : Int) < (ms.length : Int) := by omega
        have hx := lnTo_len T.out
        have ST := Lib.hid (fun (X : World) (c : Below Z.heap.size Z X) => l4Step (s := (ms.getD k noMv).1) (S := (ms.getD k noMv).2) ((HZ.out.lineV (by omega) (by omega)).below c) (by omega))
        have SU := Lib.hid (lnTo_succ T.out)
        obtain ⟨m, hm⟩ : ∃ m, m = ms.getD k noMv := ⟨_, rfl⟩
        rw [← hm] at g0 g1 ST SU
        obtain ⟨r, hr⟩ : ∃ r, r = (lnDo x m).getD noLn := ⟨_, rfl⟩
        obtain ⟨t, ht⟩ : ∃ t, t = (lnDo x m).isSome := ⟨_, rfl⟩
        have ST2 := Lib.hid (fun (X : World) (c : Below Z.heap.size Z X) => show Calls Try.prog 50 #[.agg #[.slice aZ nZ cZ, .slice aY nY cY], .agg #[.int .i64 m.1, .string m.2]] X (MadeLineB X r t) from by rw [hr, ht]; exact ST.out X c)
        have R := Lib.hid (And.intro hr ht)
        have x0 := HZ.out.box.cell0
        have x1 := HZ.out.box.cell1
        have LG := Lib.hid HZ.out.box.lt
        clear hm hr ht hcell ST hx
        go_wp2_with fail
        go_cut [8, 9] (fun p q wx => ∃ gg y1 y2, p = .pointer (some ⟨gg, 0, none⟩) ∧ q = .bool t ∧ (Z.heap.size ≤ gg ∧ Pair wx gg y1 y2 26 ∧ OwnLine wx Z.heap.size (.agg #[y1, y2]) r ∧ Apart Z.heap.size gg (.agg #[y1, y2])) ∧ Below Z.heap.size Z wx)
        case first =>
          have d0 : Below Z.heap.size Z Z.drew := (Below.refl _ _).drew
          have CL := Lib.hid (fun (X : World) (kb : Below Z.heap.size Z X) => show X.cell? ⟨g, 0, none⟩ = some (.slice aZ nZ cZ) ∧ X.cell? ⟨g, 1, none⟩ = some (.slice aY nY cY) ∧ X.cell? ⟨bm, om + k * 2, none⟩ = some (.int .i64 m.1) ∧ X.cell? ⟨bm, om + k * 2 + 1, none⟩ = some (.string m.2) from
            ⟨(HZ.out.box.below kb).cell0, (HZ.out.box.below kb).cell1, (kb.cell (p := ⟨bm, om + k * 2, none⟩) hbm).trans g0, (kb.cell (p := ⟨bm, om + k * 2 + 1, none⟩) hbm).trans g1⟩)
          go_region_held3 (fun X => X.cell? ⟨g, 0, none⟩ = some (.slice aZ nZ cZ) ∧ X.cell? ⟨g, 1, none⟩ = some (.slice aY nY cY) ∧ X.cell? ⟨bm, om + k * 2, none⟩ = some (.int .i64 m.1) ∧ X.cell? ⟨bm, om + k * 2 + 1, none⟩ = some (.string m.2))
            (first
              | (refine CL.out _ ?_; (with_reducible (repeat (first | exact d0 | exact Below.refl _ _ | refine bel_drew ?_ | refine bel_alloc ?_ _ | refine chain ?_ bC))); done)
              | (refine CL.out _ (copy_endC (q := Z) (x := .slice none 0 0) (y := .slice none 0 0) ?_ ?_ ?_); (next => (first | exact Nat.le_refl _ | omega | (refine Below.size (B := Z.heap.size) ?_; (with_reducible (repeat (first | exact d0 | exact Below.refl _ _ | refine bel_drew ?_ | refine bel_alloc ?_ _ | refine chain ?_ bC))); done) | (simp <;> omega))); (next => (with_reducible (repeat (first | (refine pair_new_at ?_; (first | rfl | (simp; done))) | refine pair_drew ?_ | refine pair_alloc ?_ _ | refine pair_below ?_ bC)))); (next => (with_reducible (repeat (first | exact d0 | exact Below.refl _ _ | refine bel_drew ?_ | refine bel_alloc ?_ _ | refine chain ?_ bC))))))
            (first
              | (go_at_call 50; refine (ST2.out _ ?_).mono ?_; (next => (with_reducible (repeat (first | exact d0 | exact Below.refl _ _ | refine bel_drew ?_ | refine bel_alloc ?_ _ | refine chain ?_ bC)))); rintro e wC ⟨vC, rfl, oC, bC⟩; obtain ⟨a4, n4, c4, a5, n5, c5, rfl⟩ := own_form oC; (first | (refine given (P := Pair wC Z.heap.size (.slice none 0 0) (.slice none 0 0) 26) ?_ ?_; (next => (with_reducible (repeat (first | (refine pair_new_at ?_; (first | rfl | (simp; done))) | refine pair_drew ?_ | refine pair_alloc ?_ _ | refine pair_below ?_ bC)))); intro pz; have z0 := pz.cell0; have z1 := pz.cell1; have y0 := pz.frozen 0; have y1 := pz.frozen 1; clear pz) | skip))
              | fail)
          all_goals (go_wp2_with fail; go_meet; first
            | (refine made_endA (q := Z) oC ?_ ?_; (next => (first | exact Nat.le_refl _ | omega | (refine Below.size (B := Z.heap.size) ?_; (with_reducible (repeat (first | exact d0 | exact Below.refl _ _ | refine bel_drew ?_ | refine bel_alloc ?_ _ | refine chain ?_ bC))); done) | (simp <;> omega))); (next => (with_reducible (repeat (first | exact d0 | exact Below.refl _ _ | refine bel_drew ?_ | refine bel_alloc ?_ _ | refine chain ?_ bC)))))
            | (refine made_endB (q := Z) (x := .slice none 0 0) (y := .slice none 0 0) ?_ ?_ oC ?_ ?_ ?_; (next => (first | exact Nat.le_refl _ | omega | (refine Below.size (B := Z.heap.size) ?_; (with_reducible (repeat (first | exact d0 | exact Below.refl _ _ | refine bel_drew ?_ | refine bel_alloc ?_ _ | refine chain ?_ bC))); done) | (simp <;> omega))); (next => (with_reducible (repeat (first | (refine pair_new_at ?_; (first | rfl | (simp; done))) | refine pair_drew ?_ | refine pair_alloc ?_ _ | refine pair_below ?_ bC)))); (next => (first | exact Nat.le_refl _ | omega | (refine Below.size (B := Z.heap.size) ?_; (with_reducible (repeat (first | exact d0 | exact Below.refl _ _ | refine bel_drew ?_ | refine bel_alloc ?_ _ | refine chain ?_ bC))); done) | (simp <;> omega))); (next => (refine Pair.lt (x := .slice none 0 0) (y := .slice none 0 0) (t := 26) ?_; (with_reducible (repeat (first | (refine pair_new_at ?_; (first | rfl | (simp; done))) | refine pair_drew ?_ | refine pair_alloc ?_ _ | refine pair_below ?_ bC))))); (next => (with_reducible (repeat (first | exact d0 | exact Below.refl _ _ | refine bel_drew ?_ | refine bel_alloc ?_ _ | refine chain ?_ bC))))))
        case rest =>
        obtain ⟨gg, o1, o2, rfl, rfl, ⟨hgg, pw, ow, -⟩, b8⟩ := hcut
        obtain ⟨U, hU⟩ : ∃ X, X = wc := ⟨_, rfl⟩
        rw [← hU] at pw ow b8 ⊢
        clear hU x0 x1 g0 g1
        obtain ⟨a8, n8, d8, e8, m8, f8, hy⟩ := own_form ow
        simp only [Value.agg.injEq, Array.mk.injEq, List.cons.injEq, and_true] at hy
        obtain ⟨rfl, rfl⟩ := hy
        have CU := Lib.hid (BZ.out.trans (b8.mono BZ.out.size))
        cases t
        · have EN := Lib.hid (show lnRun l ms = none by
            rw [E.out]
            refine lnTo_none (k := k + 1) ?_ (by omega)
            rw [SU.out]
            have := R.out.2
            cases e : lnDo x m with
            | none => rfl
            | some z => rw [e] at this; cases this)
          have PP := P2.out.below (BX.out.trans (CU.out.mono BX.out.size))
          have ZM := Lib.hid (zero_made (w := w) PP (by omega) (Q0.out.trans ((BX.out.trans (CU.out.mono BX.out.size)).mono Q0.out.size)))
          have c0 := PP.cell0
          have c1' := PP.cell1
          have f0 := PP.frozen 0
          have f1 := PP.frozen 1
          have d0 := ZM.out.1.cell0
          have d1 := ZM.out.1.cell1
          clear PP pw ow b8
          go_wp2_with fail
          rw [EN.out]
          exact bodyPost_ret (v := .tuple #[.agg #[.slice none 0 0, .slice none 0 0], .bool false]) (by simp [results, Try.results24, go_sem, d0, d1]) rfl ZM.out.2
        · have SK := Lib.hid (show lnTo l ms (k + 1) = some r by
            rw [SU.out, R.out.1]
            have := R.out.2
            cases e : lnDo x m with
            | none => rw [e] at this; cases this
            | some z => rfl)
          have PG := HZ.out.box.below b8
          have HN := Lib.hid (held_new PG ow BZ.out.size)
          have BN := Lib.hid ((CU.out.setCell (p := ⟨g, 0, none⟩) hg (.slice a8 n8 d8)).setCell (p := ⟨g, 1, none⟩) hg (.slice e8 m8 f8))
          have c0 := pw.cell0
          have c1' := pw.cell1
          have d0 := PG.cell0
          have d1 := PG.cell1
          have f0 := PG.frozen 0
          have f1 := PG.frozen 1
          clear pw ow b8 PG
          go_wp2_with fail
          go_roundw
          case rel => exact ⟨k + 1, r, _, _, by omega, by go_num, SK, HN, BN⟩
          case measure => simp [intOf]; omega
      · obtain rfl : k = ms.length := by omega
        have ES := Lib.hid (E.out.trans T.out)
        have PP := P2.out.below CZ.out
        have PW := Lib.hid (line_end (w := w) HZ.out (Nat.le_trans Q0.out.size WV.out) PP (by omega) (Q0.out.trans (CZ.out.mono Q0.out.size)))
        have m0 := HZ.out.box.cell0
        have m1 := HZ.out.box.cell1
        have n0 := PP.cell0
        have n1 := PP.cell1
        have n2 := PP.frozen 0
        have n3 := PP.frozen 1
        have o0 := PW.out.2.2.cell0
        have o1 := PW.out.2.2.cell1
        clear PP
        go_wp2_with fail
        rw [ES.out]
        exact bodyPost_ret (v := .tuple #[.agg #[.slice aZ nZ cZ, .slice aY nY cY], .bool true]) (by simp [results, Try.results24, go_sem, o0, o1]) rfl ⟨_, rfl, PW.out.1, PW.out.2.1⟩

end Go.Proofs.Ytpofkfcjnhoamaa
