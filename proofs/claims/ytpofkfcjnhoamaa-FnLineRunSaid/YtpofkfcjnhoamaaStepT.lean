/-
  A move that is done on a line, by the model. For lines of at most five sections and five trains.
-/
import Derived.Test.YtpofkfcjnhoamaaStepS
namespace Go.Proofs.Ytpofkfcjnhoamaa
open Go.RowKit Go.Sort

theorem given {P Q : Prop} (h : P) (k : P → Q) : Q := k h
theorem isE_notL {S : ByteArray} (h : isE S = true) : isL S = false := by
  unfold isE at h
  have e := of_decide_eq_true h
  unfold isL
  refine decide_eq_false ?_
  rintro ⟨_, k⟩
  rw [e.2] at k
  exact absurd k (by decide)
/-- A line that lies in a box is handed back. -/
theorem line_end {w X : World} {r B0 R : Nat} {x y u1 u2 : Value} {l : Ln} (h : HeldL X r B0 u1 u2 l) (hB : w.heap.size ≤ B0) (p : Pair X R x y 26) (hR : w.heap.size ≤ R) (b : Below w.heap.size w X) :
    OwnLine ((X.setCell ⟨R, 0, none⟩ u1).setCell ⟨R, 1, none⟩ u2) w.heap.size (.agg #[u1, u2]) l ∧ Below w.heap.size w ((X.setCell ⟨R, 0, none⟩ u1).setCell ⟨R, 1, none⟩ u2) ∧ Pair ((X.setCell ⟨R, 0, none⟩ u1).setCell ⟨R, 1, none⟩ u2) R u1 u2 26 := by
  have nA := away_types h.blocks p (by decide)
  have nB := away_types (ownI_ow h.trains) p (by decide)
  refine ⟨⟨u1, u2, rfl, ?_, ?_, h.apart⟩, (b.setCell (p := ⟨R, 0, none⟩) hR _).setCell (p := ⟨R, 1, none⟩) hR _, stored_pair p⟩
  · have h1 := ownsRow_setCell_other h.blocks (a := ⟨R, 0, none⟩) nA u1
    exact Ow.mono (ownsRow_setCell_other h1 (a := ⟨R, 1, none⟩) nA u2) hB
  · have h1 := ownsRow_setCell_other h.trains (a := ⟨R, 0, none⟩) nB u1
    exact OwnI.mono (ownsRow_setCell_other h1 (a := ⟨R, 1, none⟩) nB u2) hB
theorem copy_endC {q Y : World} {C : Nat} {x y uA uB : Value} (hC : q.heap.size ≤ C) (_ : Pair Y C x y 26) (b : Below q.heap.size q Y) : Below q.heap.size q ((Y.setCell ⟨C, 0, none⟩ uA).setCell ⟨C, 1, none⟩ uB) :=
  (b.setCell (p := ⟨C, 0, none⟩) hC _).setCell (p := ⟨C, 1, none⟩) hC _
theorem zero_end {w : World} {R : Nat} (h : Pair w R (.slice none 0 0) (.slice none 0 0) 26) : Pair ((w.setCell ⟨R, 0, none⟩ (.slice none 0 0)).setCell ⟨R, 1, none⟩ (.slice none 0 0)) R (.slice none 0 0) (.slice none 0 0) 26 := stored_pair h

set_option maxHeartbeats 8000000 in
theorem l4Step {w : World} {v : Value} {l : Ln} {s : Int} {S : ByteArray} (h : LineV w v l) (hl : l.1.length ≤ 5 ∧ l.2.length ≤ 5) :
    Calls Try.prog 50 #[v, .agg #[.int .i64 s, .string S]] w (MadeLineB w ((lnDo l (s, S)).getD noLn) (lnDo l (s, S)).isSome) := by
  have hv := h
  obtain ⟨u1, u2, rfl, h1, h2⟩ := h
  obtain ⟨a1, c1, rfl⟩ := Rd.slice h1
  have hh2 := h2
  obtain ⟨a2, c2, rfl, -, -⟩ := h2
  obtain ⟨W, hW⟩ : ∃ X, X = ((w.alloc (.cells #[.slice a1 l.1.length c1, .slice a2 l.2.length c2] 26)).alloc (.cells #[.int .i64 s, .string S] 40)).alloc (.cells #[.slice none 0 0, .slice none 0 0] 26) := ⟨_, rfl⟩
  obtain ⟨p0, p1, p2, q0, s0⟩ := three_pairs w _ _ _ _ _ _ _ _ _ W hW
  have HW := Lib.hid hW.symm
  have Q0 := Lib.hid q0
  have P0 := Lib.hid p0
  have P1 := Lib.hid p1
  have P2 := Lib.hid p2
  have S0 := Lib.hid s0
  have e0 := p0.cell0
  have m0 := p1.cell0
  have k5 : (l.1.length : Int) ≤ 5 := by omega
  have k15 : l.1.length ≤ 1000 := by omega
  have k25 : l.2.length ≤ 1000 := by omega
  have LV := Lib.hid (fun (X : World) (c : Below W.heap.size W X) => (hv.below q0).below c)
  have LB := Lib.hid (fun (X : World) (c : Below W.heap.size W X) => rd_below (rd_below h1 q0) c)
  have LT := Lib.hid (fun (X : World) (c : Below W.heap.size W X) => (hh2.below q0).below c)
  have ZERO := Lib.hid (fun (X : World) (c : Below W.heap.size W X) => show Pair X (w.heap.size + 1 + 1) (.slice none 0 0) (.slice none 0 0) 26 ∧ Pair ((X.setCell ⟨w.heap.size + 1 + 1, 0, none⟩ (.slice none 0 0)).setCell ⟨w.heap.size + 1 + 1, 1, none⟩ (.slice none 0 0)) (w.heap.size + 1 + 1) (.slice none 0 0) (.slice none 0 0) 26 ∧ Below w.heap.size w ((X.setCell ⟨w.heap.size + 1 + 1, 0, none⟩ (.slice none 0 0)).setCell ⟨w.heap.size + 1 + 1, 1, none⟩ (.slice none 0 0)) from
    ⟨p2.below c, stored_pair (p2.below c), ((q0.trans (c.mono q0.size)).setCell (p := ⟨w.heap.size + 1 + 1, 0, none⟩) (by simp only; omega) _).setCell (p := ⟨w.heap.size + 1 + 1, 1, none⟩) (by simp only; omega) _⟩)
  clear hW p0 p1 p2 q0 s0 h1 hh2 hv
  by_cases hk : 0 ≤ s ∧ s < (l.1.length : Int)
  · obtain ⟨K, rfl⟩ : ∃ K : Nat, s = K := ⟨s.toNat, by omega⟩
    have hK : K < l.1.length := by omega
    have hki : (K : Int) < (l.1.length : Int) := hk.2
    have hK5 : (K : Int) ≤ 5 := by omega
    have IY := Lib.hid (fun w => in_yes (K : Int) 0 ((l.1.length : Int) - 1) w (by omega) (by omega))
    have DO := Lib.hid (lnDo_on (S := S) hK)
    obtain ⟨b, o, rfl, hb, hcell⟩ := Blks.at (LB.out W (Below.refl _ _)) hK
    obtain ⟨g0, g1, g2⟩ := hcell K hK
    obtain ⟨x, hx⟩ : ∃ x, x = l.1.getD K nb := ⟨_, rfl⟩
    rw [← hx] at g0 g1 g2
    have X := Lib.hid hx
    have IM := Lib.hid (specStepE x S)
    obtain ⟨r0, ho⟩ : ∃ r0, r0 = bkOne x S := ⟨_, rfl⟩
    rw [← ho] at IM
    rw [← hx, ← ho] at DO
    obtain ⟨y, hy⟩ : ∃ y, y = r0.getD nb := ⟨_, rfl⟩
    obtain ⟨t, ht⟩ : ∃ t, t = r0.isSome := ⟨_, rfl⟩
    rw [← hy, ← ht] at IM
    have HO := Lib.hid (And.intro hy ht)
    have lL : w.heap.size < W.heap.size := P0.out.lt
    have lM : w.heap.size + 1 < W.heap.size := P1.out.lt
    clear hk hx ho hy ht hcell
    go_enter Try.func50, Try.ntmps50
    go_upto_region 1 with fail
    rw [HW.out]
    go_wp2_with (go_at_call 41; refine (IY.out _).mono ?_; rintro e w' ⟨rfl, rfl⟩)
    go_cut [6, 7] (fun p q wx => ∃ (g : Nat), p = .pointer (some ⟨g, 0, none⟩) ∧ q = .bool t ∧ W.heap.size ≤ g ∧ Tri3 wx g (.int .i64 y.1) (.bool y.2.1) (.bool y.2.2) 33 ∧ Below W.heap.size W wx)
    case first =>
      have d0 : Below W.heap.size W W.drew := (Below.refl _ _).drew
      have d1 : Below W.heap.size W (W.alloc (.cells #[.int .i64 0, .bool false, .bool false] 33)).drew := (below_alloc _ _).drew
      have CL := Lib.hid (fun (X : World) (k : Below W.heap.size W X) => show X.cell? ⟨w.heap.size, 0, none⟩ = some (.slice (some ⟨b, o, none⟩) l.1.length c1) ∧ X.cell? ⟨w.heap.size + 1, 0, none⟩ = some (.int .i64 (K : Int)) ∧ X.cell? ⟨w.heap.size + 1, 1, none⟩ = some (.string S) ∧ X.cell? ⟨b, o + K * 3, none⟩ = some (.int .i64 x.1) ∧ X.cell? ⟨b, o + K * 3 + 1, none⟩ = some (.bool x.2.1) ∧ X.cell? ⟨b, o + K * 3 + 2, none⟩ = some (.bool x.2.2) from
        ⟨(P0.out.below k).cell0, (P1.out.below k).cell0, (P1.out.below k).cell1, (k.cell (p := ⟨b, o + K * 3, none⟩) hb).trans g0, (k.cell (p := ⟨b, o + K * 3 + 1, none⟩) hb).trans g1, (k.cell (p := ⟨b, o + K * 3 + 2, none⟩) hb).trans g2⟩)
      go_region_held3 (fun X => X.cell? ⟨w.heap.size, 0, none⟩ = some (.slice (some ⟨b, o, none⟩) l.1.length c1) ∧ X.cell? ⟨w.heap.size + 1, 0, none⟩ = some (.int .i64 (K : Int)) ∧ X.cell? ⟨w.heap.size + 1, 1, none⟩ = some (.string S) ∧ X.cell? ⟨b, o + K * 3, none⟩ = some (.int .i64 x.1) ∧ X.cell? ⟨b, o + K * 3 + 1, none⟩ = some (.bool x.2.1) ∧ X.cell? ⟨b, o + K * 3 + 2, none⟩ = some (.bool x.2.2))
        (first
          | exact CL.out _ d0
          | exact CL.out _ (d0.alloc d0.size _)
          | exact CL.out _ d1
          | exact CL.out _ (d1.trans (bA.mono d1.size))
          | exact CL.out _ (stored_below (d1.trans (bA.mono d1.size)) (Nat.le_refl _) _ _ _)
          | exact CL.out _ z
          | exact CL.out _ (z.alloc z.size _)
          | go_keep)
        (first
          | (go_at_call 78; refine (IM.out _).mono ?_; rintro e wA ⟨rfl, bA⟩; first | (have z : Tri3 wA W.heap.size (.int .i64 0) (.bool false) (.bool false) 33 := (Tri3.new W.drew (.int .i64 0) (.bool false) (.bool false) 33).below bA; have z0 := z.cell0; have z1 := z.cell1; have z2 := z.cell2; have y0 := z.frozen 0; have y1 := z.frozen 1; have y2 := z.frozen 2) | (have z := d0.trans bA)))
      all_goals (go_wp2_with fail; go_meet; first
        | with_reducible exact do_endA z _ _ _ _
        | with_reducible exact do_endB bA z _ _ _ _)
    case rest =>
    obtain ⟨g, rfl, rfl, hgV, tg, bx⟩ := hcut
    obtain ⟨V, hV⟩ : ∃ V, V = wc := ⟨_, rfl⟩
    rw [← hV] at tg bx ⊢
    clear hV g0 g1 g2
    have TG := Lib.hid tg
    have BX := Lib.hid bx
    cases t
    · have E := Lib.hid (show lnDo l ((K : Int), S) = none by
        have h2 := HO.out.2
        rw [DO.out]
        cases r0
        · rfl
        · cases h2)
      obtain ⟨z1, z2, z3⟩ := ZERO.out _ bx
      have c0 := z1.cell0
      have c1' := z1.cell1
      have f0 := z1.frozen 0
      have f1 := z1.frozen 1
      have d0 := z2.cell0
      have d1 := z2.cell1
      have Z3 := Lib.hid z3
      clear z1 z2 z3 tg bx
      go_wp2_with fail
      rw [E.out]
      exact bodyPost_ret (v := .tuple #[.agg #[.slice none 0 0, .slice none 0 0], .bool false]) (by simp [results, Try.results50, go_sem, d0, d1]) rfl ⟨_, rfl, ⟨_, _, rfl, ow_nil _ _ _ _ _, World.ownsRow_nil _ _ _ _, .inl rfl, .inl rfl⟩, Z3.out⟩
    · have E0 := Lib.hid (show lnDo l ((K : Int), S) = (goTo l.2 ((K : Int), S)).map fun ts => (l.1.set K y, ts) by
        have h1 := HO.out.1
        have h2 := HO.out.2
        rw [DO.out, h1]
        cases r0
        · cases h2
        · rfl)
      have PL := Lib.hid (P0.out.below bx)
      have HB := Lib.hid (fun (X : World) (c : Below V.heap.size V X) => LB.out X (bx.trans (c.mono bx.size)))
      have HT := Lib.hid (fun (X : World) (c : Below V.heap.size V X) => LT.out X (bx.trans (c.mono bx.size)))
      have v0 := PL.out.cell0
      have v1 := PL.out.cell1
      have lV : w.heap.size < V.heap.size := PL.out.lt
      clear tg bx
      go_wp2_with fail
      go_cut [8] (fun p wx => ∃ g v1 v2, p = .pointer (some ⟨g, 0, none⟩) ∧ V.heap.size ≤ g ∧ HeldL wx g V.heap.size v1 v2 l ∧ Below V.heap.size V wx)
      case first =>
        have d0 : Below V.heap.size V V.drew := (Below.refl _ _).drew
        have CL := Lib.hid (fun (X : World) (kb : Below V.heap.size V X) => show X.cell? ⟨w.heap.size, 0, none⟩ = some (.slice (some ⟨b, o, none⟩) l.1.length c1) ∧ X.cell? ⟨w.heap.size, 1, none⟩ = some (.slice a2 l.2.length c2) from
          ⟨(PL.out.below kb).cell0, (PL.out.below kb).cell1⟩)
        go_region_held3 (fun X => X.cell? ⟨w.heap.size, 0, none⟩ = some (.slice (some ⟨b, o, none⟩) l.1.length c1) ∧ X.cell? ⟨w.heap.size, 1, none⟩ = some (.slice a2 l.2.length c2))
          (first
            | (refine CL.out _ ?_; (with_reducible (repeat (first | exact d0 | exact Below.refl _ _ | refine bel_drew ?_ | refine bel_alloc ?_ _ | refine chain ?_ bA | refine chain ?_ bB))); done)
            | (refine CL.out _ (copy_endC (q := V) (x := .slice none 0 0) (y := .slice none 0 0) ?_ ?_ ?_); (next => (first | exact Nat.le_refl _ | omega | exact Nat.le_succ _ | (refine Below.size (B := V.heap.size) ?_; (with_reducible (repeat (first | exact d0 | exact Below.refl _ _ | refine bel_drew ?_ | refine bel_alloc ?_ _ | refine chain ?_ bA | refine chain ?_ bB))); done) | (refine Nat.le_trans (Below.size (B := V.heap.size) ?_) (Nat.le_succ _); (with_reducible (repeat (first | exact d0 | exact Below.refl _ _ | refine bel_drew ?_ | refine bel_alloc ?_ _ | refine chain ?_ bA | refine chain ?_ bB))); done) | ((have q1 := bA.size); (have q2 := bB.size); simp at q1 q2 ⊢ <;> omega) | ((have q1 := bA.size); simp at q1 ⊢ <;> omega) | ((have q1 := bB.size); simp at q1 ⊢ <;> omega) | (simp <;> omega))); (next => (with_reducible (repeat (first | (refine pair_new_at ?_; (first | rfl | (simp; done))) | refine pair_drew ?_ | refine pair_alloc ?_ _ | refine pair_below ?_ bA | refine pair_below ?_ bB)))); (next => (with_reducible (repeat (first | exact d0 | exact Below.refl _ _ | refine bel_drew ?_ | refine bel_alloc ?_ _ | refine chain ?_ bA | refine chain ?_ bB))))))
          (first
            | (refine step_copyI rfl (.tmp 39) (.tmp 41) rfl rfl rfl (HT.out _ ?_) k25 ?_ (base := V.heap.size) ?_ ?_; (next => (with_reducible (repeat (first | exact d0 | exact Below.refl _ _ | refine bel_drew ?_ | refine bel_alloc ?_ _ | refine chain ?_ bA | refine chain ?_ bB)))); (next => (with_reducible (repeat (first | (refine blk_new_at ?_; (first | rfl | (simp; done))) | refine blk_drew ?_ | refine blk_alloc ?_ _ | refine blk_below ?_ bA | refine blk_below ?_ bB)))); (next => (first | exact Nat.le_refl _ | omega | exact Nat.le_succ _ | (refine Below.size (B := V.heap.size) ?_; (with_reducible (repeat (first | exact d0 | exact Below.refl _ _ | refine bel_drew ?_ | refine bel_alloc ?_ _ | refine chain ?_ bA | refine chain ?_ bB))); done) | (refine Nat.le_trans (Below.size (B := V.heap.size) ?_) (Nat.le_succ _); (with_reducible (repeat (first | exact d0 | exact Below.refl _ _ | refine bel_drew ?_ | refine bel_alloc ?_ _ | refine chain ?_ bA | refine chain ?_ bB))); done) | ((have q1 := bA.size); (have q2 := bB.size); simp at q1 q2 ⊢ <;> omega) | ((have q1 := bA.size); simp at q1 ⊢ <;> omega) | ((have q1 := bB.size); simp at q1 ⊢ <;> omega) | (simp <;> omega))); intro vB wB oB bB; obtain ⟨aB, nB, cB, rfl⟩ := own_is_slice oB; have cm := CL.out wB (by (with_reducible (repeat (first | exact d0 | exact Below.refl _ _ | refine bel_drew ?_ | refine bel_alloc ?_ _ | refine chain ?_ bA | refine chain ?_ bB)))); have cm0 := cm.1; have cm1 := cm.2; clear cm; (first | (refine given (P := Pair wB V.heap.size (.slice none 0 0) (.slice none 0 0) 26) ?_ ?_; (next => (with_reducible (repeat (first | (refine pair_new_at ?_; (first | rfl | (simp; done))) | refine pair_drew ?_ | refine pair_alloc ?_ _ | refine pair_below ?_ bA | refine pair_below ?_ bB)))); intro pz; have z0 := pz.cell0; have z1 := pz.cell1; have y0 := pz.frozen 0; have y1 := pz.frozen 1; clear pz) | (refine given (P := Pair wB (V.heap.size + 1) (.slice none 0 0) (.slice none 0 0) 26) ?_ ?_; (next => (with_reducible (repeat (first | (refine pair_new_at ?_; (first | rfl | (simp; done))) | refine pair_drew ?_ | refine pair_alloc ?_ _ | refine pair_below ?_ bA | refine pair_below ?_ bB)))); intro pz; have z0 := pz.cell0; have z1 := pz.cell1; have y0 := pz.frozen 0; have y1 := pz.frozen 1; clear pz) | (refine given (P := Pair wB (V.heap.size + 1 + 1) (.slice none 0 0) (.slice none 0 0) 26) ?_ ?_; (next => (with_reducible (repeat (first | (refine pair_new_at ?_; (first | rfl | (simp; done))) | refine pair_drew ?_ | refine pair_alloc ?_ _ | refine pair_below ?_ bA | refine pair_below ?_ bB)))); intro pz; have z0 := pz.cell0; have z1 := pz.cell1; have y0 := pz.frozen 0; have y1 := pz.frozen 1; clear pz) | (refine given (P := Pair wB wA.heap.size (.slice none 0 0) (.slice none 0 0) 26) ?_ ?_; (next => (with_reducible (repeat (first | (refine pair_new_at ?_; (first | rfl | (simp; done))) | refine pair_drew ?_ | refine pair_alloc ?_ _ | refine pair_below ?_ bA | refine pair_below ?_ bB)))); intro pz; have z0 := pz.cell0; have z1 := pz.cell1; have y0 := pz.frozen 0; have y1 := pz.frozen 1; clear pz) | (refine given (P := Pair wB (wA.heap.size + 1) (.slice none 0 0) (.slice none 0 0) 26) ?_ ?_; (next => (with_reducible (repeat (first | (refine pair_new_at ?_; (first | rfl | (simp; done))) | refine pair_drew ?_ | refine pair_alloc ?_ _ | refine pair_below ?_ bA | refine pair_below ?_ bB)))); intro pz; have z0 := pz.cell0; have z1 := pz.cell1; have y0 := pz.frozen 0; have y1 := pz.frozen 1; clear pz) | skip))
            | (refine step_copyB rfl (.tmp 35) (.tmp 37) rfl rfl rfl (HB.out _ ?_) k15 ?_ (base := V.heap.size) ?_ ?_; (next => (with_reducible (repeat (first | exact d0 | exact Below.refl _ _ | refine bel_drew ?_ | refine bel_alloc ?_ _ | refine chain ?_ bA | refine chain ?_ bB)))); (next => (with_reducible (repeat (first | (refine blk_new_at ?_; (first | rfl | (simp; done))) | refine blk_drew ?_ | refine blk_alloc ?_ _ | refine blk_below ?_ bA | refine blk_below ?_ bB)))); (next => (first | exact Nat.le_refl _ | omega | exact Nat.le_succ _ | (refine Below.size (B := V.heap.size) ?_; (with_reducible (repeat (first | exact d0 | exact Below.refl _ _ | refine bel_drew ?_ | refine bel_alloc ?_ _ | refine chain ?_ bA | refine chain ?_ bB))); done) | (refine Nat.le_trans (Below.size (B := V.heap.size) ?_) (Nat.le_succ _); (with_reducible (repeat (first | exact d0 | exact Below.refl _ _ | refine bel_drew ?_ | refine bel_alloc ?_ _ | refine chain ?_ bA | refine chain ?_ bB))); done) | ((have q1 := bA.size); (have q2 := bB.size); simp at q1 q2 ⊢ <;> omega) | ((have q1 := bA.size); simp at q1 ⊢ <;> omega) | ((have q1 := bB.size); simp at q1 ⊢ <;> omega) | (simp <;> omega))); intro vA wA oA bA; obtain ⟨aA, cA, rfl⟩ := Ow.slice oA; have cl := CL.out wA (by (with_reducible (repeat (first | exact d0 | exact Below.refl _ _ | refine bel_drew ?_ | refine bel_alloc ?_ _ | refine chain ?_ bA | refine chain ?_ bB)))); have cl0 := cl.1; have cl1 := cl.2; clear cl; (first | (refine given (P := Pair wA V.heap.size (.slice none 0 0) (.slice none 0 0) 26) ?_ ?_; (next => (with_reducible (repeat (first | (refine pair_new_at ?_; (first | rfl | (simp; done))) | refine pair_drew ?_ | refine pair_alloc ?_ _ | refine pair_below ?_ bA | refine pair_below ?_ bB)))); intro pz; have z0 := pz.cell0; have z1 := pz.cell1; have y0 := pz.frozen 0; have y1 := pz.frozen 1; clear pz) | (refine given (P := Pair wA (V.heap.size + 1) (.slice none 0 0) (.slice none 0 0) 26) ?_ ?_; (next => (with_reducible (repeat (first | (refine pair_new_at ?_; (first | rfl | (simp; done))) | refine pair_drew ?_ | refine pair_alloc ?_ _ | refine pair_below ?_ bA | refine pair_below ?_ bB)))); intro pz; have z0 := pz.cell0; have z1 := pz.cell1; have y0 := pz.frozen 0; have y1 := pz.frozen 1; clear pz) | (refine given (P := Pair wA (V.heap.size + 1 + 1) (.slice none 0 0) (.slice none 0 0) 26) ?_ ?_; (next => (with_reducible (repeat (first | (refine pair_new_at ?_; (first | rfl | (simp; done))) | refine pair_drew ?_ | refine pair_alloc ?_ _ | refine pair_below ?_ bA | refine pair_below ?_ bB)))); intro pz; have z0 := pz.cell0; have z1 := pz.cell1; have y0 := pz.frozen 0; have y1 := pz.frozen 1; clear pz) | (refine given (P := Pair wA wB.heap.size (.slice none 0 0) (.slice none 0 0) 26) ?_ ?_; (next => (with_reducible (repeat (first | (refine pair_new_at ?_; (first | rfl | (simp; done))) | refine pair_drew ?_ | refine pair_alloc ?_ _ | refine pair_below ?_ bA | refine pair_below ?_ bB)))); intro pz; have z0 := pz.cell0; have z1 := pz.cell1; have y0 := pz.frozen 0; have y1 := pz.frozen 1; clear pz) | (refine given (P := Pair wA (wB.heap.size + 1) (.slice none 0 0) (.slice none 0 0) 26) ?_ ?_; (next => (with_reducible (repeat (first | (refine pair_new_at ?_; (first | rfl | (simp; done))) | refine pair_drew ?_ | refine pair_alloc ?_ _ | refine pair_below ?_ bA | refine pair_below ?_ bB)))); intro pz; have z0 := pz.cell0; have z1 := pz.cell1; have y0 := pz.frozen 0; have y1 := pz.frozen 1; clear pz) | skip))
            | fail)
        all_goals (go_wp2_with fail; go_meet; first
          | (refine copy_endA (q := V) (l := l) ?_ ?_ ?_; (next => (with_reducible (repeat (first | exact oA | refine ownB_drew ?_ | refine ownB_alloc ?_ _ | refine ownB_below ?_ bB)))); (next => (with_reducible (repeat (first | exact oB | refine ownI_drew ?_ | refine ownI_alloc ?_ _ | refine ownI_below ?_ bA)))); (next => (with_reducible (repeat (first | exact d0 | exact Below.refl _ _ | refine bel_drew ?_ | refine bel_alloc ?_ _ | refine chain ?_ bA | refine chain ?_ bB)))))
          | (refine copy_endB (q := V) (x := .slice none 0 0) (y := .slice none 0 0) (l := l) ?_ ?_ ?_ ?_ ?_; (next => (first | exact Nat.le_refl _ | omega | exact Nat.le_succ _ | (refine Below.size (B := V.heap.size) ?_; (with_reducible (repeat (first | exact d0 | exact Below.refl _ _ | refine bel_drew ?_ | refine bel_alloc ?_ _ | refine chain ?_ bA | refine chain ?_ bB))); done) | (refine Nat.le_trans (Below.size (B := V.heap.size) ?_) (Nat.le_succ _); (with_reducible (repeat (first | exact d0 | exact Below.refl _ _ | refine bel_drew ?_ | refine bel_alloc ?_ _ | refine chain ?_ bA | refine chain ?_ bB))); done) | ((have q1 := bA.size); (have q2 := bB.size); simp at q1 q2 ⊢ <;> omega) | ((have q1 := bA.size); simp at q1 ⊢ <;> omega) | ((have q1 := bB.size); simp at q1 ⊢ <;> omega) | (simp <;> omega))); (next => (with_reducible (repeat (first | (refine pair_new_at ?_; (first | rfl | (simp; done))) | refine pair_drew ?_ | refine pair_alloc ?_ _ | refine pair_below ?_ bA | refine pair_below ?_ bB)))); (next => (with_reducible (repeat (first | exact oA | refine ownB_drew ?_ | refine ownB_alloc ?_ _ | refine ownB_below ?_ bB)))); (next => (with_reducible (repeat (first | exact oB | refine ownI_drew ?_ | refine ownI_alloc ?_ _ | refine ownI_below ?_ bA)))); (next => (with_reducible (repeat (first | exact d0 | exact Below.refl _ _ | refine bel_drew ?_ | refine bel_alloc ?_ _ | refine chain ?_ bA | refine chain ?_ bB))))))
      case rest =>
      obtain ⟨r, v1, v2, rfl, hrV, held, bq⟩ := hcut
      obtain ⟨Z, hZ⟩ : ∃ Z, Z = wc := ⟨_, rfl⟩
      rw [← hZ] at held bq ⊢
      clear hZ
      obtain ⟨a5, c5, rfl⟩ := Ow.slice held.blocks
      obtain ⟨g5, rfl, hg5⟩ : ∃ g, a5 = some ⟨g, 0, none⟩ ∧ V.heap.size ≤ g := by
        rcases Ow.shape held.blocks with ⟨_, h0⟩ | ⟨g, cap, e, hb0, _⟩
        · omega
        · simp only [Value.slice.injEq] at e
          exact ⟨g, e.1, hb0⟩
      have HD := Lib.hid held
      have BQ := Lib.hid bq
      have z0 := held.box.cell0
      have z1 := (P1.out.below (BX.out.trans (bq.mono BX.out.size))).cell0
      have tz := TG.out.below bq
      have z2 := tz.cell0
      have z3 := tz.cell1
      have z4 := tz.cell2
      have d0 : Z.cell? ⟨g5, K * 3, none⟩ = some _ := Ow.cell held.blocks (q := K * 3) (show K * 3 < l.1.length * 3 by omega)
      have d1 : Z.cell? ⟨g5, K * 3 + 1, none⟩ = some _ := Ow.cell held.blocks (q := K * 3 + 1) (show K * 3 + 1 < l.1.length * 3 by omega)
      have d2 : Z.cell? ⟨g5, K * 3 + 2, none⟩ = some _ := Ow.cell held.blocks (q := K * 3 + 2) (show K * 3 + 2 < l.1.length * 3 by omega)
      have f0 := Ow.frozen held.blocks (K * 3)
      have f1 := Ow.frozen held.blocks (K * 3 + 1)
      have f2 := Ow.frozen held.blocks (K * 3 + 2)
      have HP := Lib.hid (held.put rfl hK y)
      have BP := Lib.hid (((bq.setCell (p := ⟨g5, K * 3, none⟩) hg5 (.int .i64 y.1)).setCell (p := ⟨g5, K * 3 + 1, none⟩) hg5 (.bool y.2.1)).setCell (p := ⟨g5, K * 3 + 2, none⟩) hg5 (.bool y.2.2))
      clear held bq tz v0 v1
      obtain ⟨Y, hY⟩ : ∃ X, X = ((Z.setCell ⟨g5, K * 3, none⟩ (.int .i64 y.1)).setCell ⟨g5, K * 3 + 1, none⟩ (.bool y.2.1)).setCell ⟨g5, K * 3 + 2, none⟩ (.bool y.2.2) := ⟨_, rfl⟩
      rw [← hY] at HP BP
      go_upto_region 8 with fail
      rw [← hY]
      clear hY z0 z1 z2 z3 z4 d0 d1 d2 f0 f1 f2
      have CY := Lib.hid (BX.out.trans (BP.out.mono BX.out.size))
      have M1 := P1.out.below CY.out
      have z0 := M1.cell0
      have z1 := M1.cell1
      have M0 := P0.out.below CY.out
      have x0 := M0.cell0
      have x1 := M0.cell1
      obtain ⟨a6, n6, c6, rfl⟩ := own_is_slice HP.out.trains
      clear M1 M0
      cases hE1 : isE S
      · cases hL1 : isL S
        · have E := Lib.hid (show lnDo l ((K : Int), S) = some (l.1.set K y, l.2) by
            rw [E0.out]
            unfold goTo
            show Option.map _ (if isE S = true then _ else _) = _
            rw [hE1, if_neg (by decide)]
            show Option.map _ (if isL S = true then _ else _) = _
            rw [hL1, if_neg (by decide)]
            rfl)
          have e1 : (S.toList == [(101 : UInt8)]) = false := by rw [isE_lit]; exact hE1
          have e2 : (S.toList == [(108 : UInt8)]) = false := by rw [isL_lit]; exact hL1
          have PG := Lib.hid (P2.out.below CY.out)
          have PW := Lib.hid (line_end HP.out (Nat.le_trans Q0.out.size BX.out.size) PG.out (by omega) (Q0.out.trans (CY.out.mono Q0.out.size)))
          have m0 := HP.out.box.cell0
          have m1 := HP.out.box.cell1
          have n0 := PG.out.cell0
          have n1 := PG.out.cell1
          have n2 := PG.out.frozen 0
          have n3 := PG.out.frozen 1
          have o0 := PW.out.2.2.cell0
          have o1 := PW.out.2.2.cell1
          clear hE1 hL1
          go_wp2_with fail
          rw [E.out]
          exact bodyPost_ret (v := .tuple #[.agg #[.slice (some ⟨g5, 0, none⟩) l.1.length c5, .slice a6 n6 c6], .bool true]) (by simp [results, Try.results50, go_sem, o0, o1]) rfl ⟨_, rfl, PW.out.1, PW.out.2.1⟩

        · obtain ⟨j, hj⟩ : ∃ j, j = fst l.2 (2 * (K : Int) + 1) := ⟨_, rfl⟩
          have E := Lib.hid (show lnDo l ((K : Int), S) = j.map fun i => (l.1.set K y, l.2.set i (2 * (K : Int) + 1 + 1)) by
            rw [E0.out]
            unfold goTo
            show Option.map _ (if isE S = true then _ else _) = _
            rw [hE1, if_neg (by decide)]
            show Option.map _ (if isL S = true then _ else _) = _
            rw [hL1, if_pos rfl, ← hj]
            cases j <;> rfl)
          have AT := Lib.hid (fun (X : World) (v : Value) (h : LineV X v l) => l4At (2 * (K : Int) + 1) h)
          rw [fstI_opt, ← hj] at AT
          have J := Lib.hid hj
          have e1 : (S.toList == [(101 : UInt8)]) = false := by rw [isE_lit]; exact hE1
          have e2 : (S.toList == [(108 : UInt8)]) = true := by rw [isL_lit]; exact hL1
          have hwp : IntKind.i64.wrap (2 * (K : Int)) = 2 * (K : Int) := IntWalk.i64_in _ (by omega)
          have hwq : IntKind.i64.wrap (2 * (K : Int) + 1) = 2 * (K : Int) + 1 := IntWalk.i64_in _ (by omega)
          have hwr : IntKind.i64.wrap (2 * (K : Int) + 1 + 1) = 2 * (K : Int) + 1 + 1 := IntWalk.i64_in _ (by omega)
          clear hj hE1 hL1
          cases j with
          | none =>
            simp only [optI] at AT
            go_wp2_with (go_at_call 79; refine (AT.out _ _ (LV.out _ CY.out)).mono ?_)
            rintro e w5 ⟨rfl, b5⟩
            obtain ⟨y1, y2, y3⟩ := ZERO.out _ (CY.out.trans (b5.mono CY.out.size))
            have c0 := y1.cell0
            have c1' := y1.cell1
            have g0 := y1.frozen 0
            have g1 := y1.frozen 1
            have h0 := y2.cell0
            have h1 := y2.cell1
            have Z3 := Lib.hid y3
            clear y1 y2 y3 b5
            go_wp2_with fail
            rw [E.out]
            exact bodyPost_ret (v := .tuple #[.agg #[.slice none 0 0, .slice none 0 0], .bool false]) (by simp [results, Try.results50, go_sem, h0, h1]) rfl ⟨_, rfl, ⟨_, _, rfl, ow_nil _ _ _ _ _, World.ownsRow_nil _ _ _ _, .inl rfl, .inl rfl⟩, Z3.out⟩
          | some i =>
            simp only [optI] at AT
            obtain ⟨hi, -, -⟩ := fst_is J.out.symm
            have hil : (i : Int) < (l.2.length : Int) := by omega
            have hi0 : decide ((i : Int) < 0) = false := decide_eq_false (by omega)
            go_wp2_with (go_at_call 79; refine (AT.out _ _ (LV.out _ CY.out)).mono ?_)
            rintro e w5 ⟨rfl, b5⟩
            have C5 := Lib.hid (CY.out.trans (b5.mono CY.out.size))
            have H5 := Lib.hid (HP.out.below b5)
            have Y5 := Lib.hid (chain BP.out b5)
            obtain ⟨g6, cap6, hg6, hb6⟩ : ∃ g cap, Value.slice a6 n6 c6 = .slice (some ⟨g, 0, none⟩) l.2.length cap ∧ V.heap.size ≤ g := by
              rcases H5.out.trains.shape with ⟨_, q⟩ | ⟨g, cap, h, q, _⟩
              · have q1 : l.2 = [] := q
                rw [q1] at hi
                simp at hi
              · exact ⟨g, cap, h, q⟩
            simp only [Value.slice.injEq] at hg6
            obtain ⟨rfl, rfl, rfl⟩ := hg6
            obtain ⟨c0, c1'⟩ := H5.out.trains.cellAt rfl hi
            have g0 := H5.out.box.cell1
            have SG := Lib.hid (H5.out.go rfl i (2 * (K : Int) + 1 + 1))
            have BG := Lib.hid (Y5.out.setCell (p := ⟨g6, i, none⟩) hb6 (.int .i64 (2 * (K : Int) + 1 + 1)))
            have PG := Lib.hid (P2.out.below (BX.out.trans (BG.out.mono BX.out.size)))
            have PW := Lib.hid (line_end SG.out (Nat.le_trans (Nat.le_trans Q0.out.size BX.out.size) (Nat.le_refl _)) PG.out (by omega) (Q0.out.trans ((BX.out.trans (BG.out.mono BX.out.size)).mono Q0.out.size)))
            have m0 := SG.out.box.cell0
            have m1 := SG.out.box.cell1
            have n0 := PG.out.cell0
            have n1 := PG.out.cell1
            have n2 := PG.out.frozen 0
            have n3 := PG.out.frozen 1
            have o0 := PW.out.2.2.cell0
            have o1 := PW.out.2.2.cell1
            clear b5
            go_wp2_with fail
            rw [E.out]
            exact bodyPost_ret (v := .tuple #[.agg #[.slice (some ⟨g5, 0, none⟩) l.1.length c5, .slice (some ⟨g6, 0, none⟩) l.2.length c6], .bool true]) (by simp [results, Try.results50, go_sem, o0, o1]) rfl ⟨_, rfl, PW.out.1, PW.out.2.1⟩
      · obtain ⟨j, hj⟩ : ∃ j, j = fst l.2 (2 * (K : Int)) := ⟨_, rfl⟩
        have E := Lib.hid (show lnDo l ((K : Int), S) = j.map fun i => (l.1.set K y, l.2.set i (2 * (K : Int) + 1)) by
          rw [E0.out]
          unfold goTo
          show Option.map _ (if isE S = true then _ else _) = _
          rw [hE1, if_pos rfl, ← hj]
          cases j <;> rfl)
        have AT := Lib.hid (fun (X : World) (v : Value) (h : LineV X v l) => l4At (2 * (K : Int)) h)
        rw [fstI_opt, ← hj] at AT
        have J := Lib.hid hj
        have e1 : (S.toList == [(101 : UInt8)]) = true := by rw [isE_lit]; exact hE1
        have e2 : (S.toList == [(108 : UInt8)]) = false := by rw [isL_lit]; exact isE_notL hE1
        have hwp : IntKind.i64.wrap (2 * (K : Int)) = 2 * (K : Int) := IntWalk.i64_in _ (by omega)
        have hwq : IntKind.i64.wrap (2 * (K : Int) + 1) = 2 * (K : Int) + 1 := IntWalk.i64_in _ (by omega)
        have hwr : IntKind.i64.wrap (2 * (K : Int) + 1 + 1) = 2 * (K : Int) + 1 + 1 := IntWalk.i64_in _ (by omega)
        clear hj hE1
        cases j with
        | none =>
          simp only [optI] at AT
          go_wp2_with (go_at_call 79; refine (AT.out _ _ (LV.out _ CY.out)).mono ?_)
          rintro e w5 ⟨rfl, b5⟩
          obtain ⟨y1, y2, y3⟩ := ZERO.out _ (CY.out.trans (b5.mono CY.out.size))
          have c0 := y1.cell0
          have c1' := y1.cell1
          have g0 := y1.frozen 0
          have g1 := y1.frozen 1
          have h0 := y2.cell0
          have h1 := y2.cell1
          have Z3 := Lib.hid y3
          clear y1 y2 y3 b5
          go_wp2_with fail
          rw [E.out]
          exact bodyPost_ret (v := .tuple #[.agg #[.slice none 0 0, .slice none 0 0], .bool false]) (by simp [results, Try.results50, go_sem, h0, h1]) rfl ⟨_, rfl, ⟨_, _, rfl, ow_nil _ _ _ _ _, World.ownsRow_nil _ _ _ _, .inl rfl, .inl rfl⟩, Z3.out⟩
        | some i =>
          simp only [optI] at AT
          obtain ⟨hi, -, -⟩ := fst_is J.out.symm
          have hil : (i : Int) < (l.2.length : Int) := by omega
          have hi0 : decide ((i : Int) < 0) = false := decide_eq_false (by omega)
          go_wp2_with (go_at_call 79; refine (AT.out _ _ (LV.out _ CY.out)).mono ?_)
          rintro e w5 ⟨rfl, b5⟩
          have C5 := Lib.hid (CY.out.trans (b5.mono CY.out.size))
          have H5 := Lib.hid (HP.out.below b5)
          have Y5 := Lib.hid (chain BP.out b5)
          obtain ⟨g6, cap6, hg6, hb6⟩ : ∃ g cap, Value.slice a6 n6 c6 = .slice (some ⟨g, 0, none⟩) l.2.length cap ∧ V.heap.size ≤ g := by
            rcases H5.out.trains.shape with ⟨_, q⟩ | ⟨g, cap, h, q, _⟩
            · have q1 : l.2 = [] := q
              rw [q1] at hi
              simp at hi
            · exact ⟨g, cap, h, q⟩
          simp only [Value.slice.injEq] at hg6
          obtain ⟨rfl, rfl, rfl⟩ := hg6
          obtain ⟨c0, c1'⟩ := H5.out.trains.cellAt rfl hi
          have g0 := H5.out.box.cell1
          have SG := Lib.hid (H5.out.go rfl i (2 * (K : Int) + 1))
          have BG := Lib.hid (Y5.out.setCell (p := ⟨g6, i, none⟩) hb6 (.int .i64 (2 * (K : Int) + 1)))
          have PG := Lib.hid (P2.out.below (BX.out.trans (BG.out.mono BX.out.size)))
          have PW := Lib.hid (line_end SG.out (Nat.le_trans (Nat.le_trans Q0.out.size BX.out.size) (Nat.le_refl _)) PG.out (by omega) (Q0.out.trans ((BX.out.trans (BG.out.mono BX.out.size)).mono Q0.out.size)))
          have m0 := SG.out.box.cell0
          have m1 := SG.out.box.cell1
          have n0 := PG.out.cell0
          have n1 := PG.out.cell1
          have n2 := PG.out.frozen 0
          have n3 := PG.out.frozen 1
          have o0 := PW.out.2.2.cell0
          have o1 := PW.out.2.2.cell1
          clear b5
          go_wp2_with fail
          rw [E.out]
          exact bodyPost_ret (v := .tuple #[.agg #[.slice (some ⟨g5, 0, none⟩) l.1.length c5, .slice (some ⟨g6, 0, none⟩) l.2.length c6], .bool true]) (by simp [results, Try.results50, go_sem, o0, o1]) rfl ⟨_, rfl, PW.out.1, PW.out.2.1⟩
  · have E := Lib.hid (lnDo_off (l := l) (m := (s, S)) hk)
    have IY := Lib.hid (fun w => in_no s 0 ((l.1.length : Int) - 1) w (by omega))
    obtain ⟨z1, z2, z3⟩ := ZERO.out _ (Below.refl _ _)
    have c0 := z1.cell0
    have c1' := z1.cell1
    have f0 := z1.frozen 0
    have f1 := z1.frozen 1
    have d0 := z2.cell0
    have d1 := z2.cell1
    have Z3 := Lib.hid z3
    clear z1 z2 z3 hk
    go_enter Try.func50, Try.ntmps50
    go_upto_region 1 with fail
    rw [HW.out]
    go_wp2_with (go_at_call 41; refine (IY.out _).mono ?_; rintro e w' ⟨rfl, rfl⟩)
    rw [E.out]
    exact bodyPost_ret (v := .tuple #[.agg #[.slice none 0 0, .slice none 0 0], .bool false]) (by simp [results, Try.results50, go_sem, d0, d1]) rfl ⟨_, rfl, ⟨_, _, rfl, ow_nil _ _ _ _ _, World.ownsRow_nil _ _ _ _, .inl rfl, .inl rfl⟩, Z3.out⟩

end Go.Proofs.Ytpofkfcjnhoamaa
