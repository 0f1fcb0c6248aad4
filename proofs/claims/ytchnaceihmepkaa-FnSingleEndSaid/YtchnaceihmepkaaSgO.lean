/-
  The best order and the soonest end: the model's SingleBest and SingleSoon.
-/
import Derived.Test.YtchnaceihmepkaaSgN
import Derived.Deep.DeepCutAuto
import Derived.Deep.RegionHeld3
namespace Go.Proofs.Ytchnaceihmepkaa
open Go.RowKit Go.Sort

theorem allF_pos (n : Nat) : ∀ u d, u + d = n → 0 < (allF n u d).length := by
  induction n with
  | zero => intro u d _; simp [allF]
  | succ n ih =>
    intro u d h
    rw [allF, List.length_append]
    by_cases hd : 0 < d
    · rw [if_pos hd, List.length_map]; have := ih u (d - 1) (by omega); omega
    · rw [if_pos (show 0 < u by omega), List.length_map]; have := ih (u - 1) d (by omega); omega
theorem ords_pos (s : Sg) : 0 < (ords s).length := allF_pos _ _ _ rfl
theorem waitV_nonneg {s : Sg} {o : ByteArray} (h : sgO s o = true) : 0 ≤ waitV s o := by
  rw [waitV_yes h]
  have : ∀ k, k ≤ o.size → 0 ≤ wtTo s o k := by
    intro k
    induction k with
    | zero => intro _; exact Int.le_refl _
    | succ k ih =>
      intro hk
      have h1 := ih (by omega)
      have h2 := (stA_range h (k := k) (by omega)).1
      simp only [wtTo]; omega
  exact this _ (Nat.le_refl _)
theorem endV_nonneg {s : Sg} {o : ByteArray} (h : sgO s o = true) : 0 ≤ endV s o := by
  rcases Nat.eq_zero_or_pos o.size with h0 | h0
  · rw [endV_nil h h0]; exact Int.le_refl _
  · obtain ⟨k, hk⟩ : ∃ k, o.size = k + 1 := ⟨o.size - 1, by omega⟩
    rw [endV_yes h hk]
    have := (stA_nonneg h (k := k) (by omega)).1
    have := (sgO_of h).1.run1
    omega
def JB (f : ByteArray → Int) (L : List ByteArray) (i b : Nat) : Prop := b < L.length ∧ (i = 0 → b = 0) ∧ (0 < i → lsOf f (L.take i) = (L.getD b ⟨#[]⟩, f (L.getD b ⟨#[]⟩)))
theorem JB.yes {f : ByteArray → Int} {L : List ByteArray} {i b : Nat} (h : JB f L i b) (hi : i < L.length) (hl : f (L.getD i ⟨#[]⟩) < f (L.getD b ⟨#[]⟩)) : JB f L (i + 1) i := by
  refine ⟨hi, fun q => absurd q (by omega), fun _ => ?_⟩
  rw [take_next' L hi, lsOf_add]
  rcases Nat.eq_zero_or_pos i with h0 | h0
  · have := h.2.1 h0; rw [h0, this] at hl; exact absurd hl (Int.lt_irrefl _)
  · rw [h.2.2 h0]; unfold lsStep; rw [if_pos (.inr hl)]
theorem JB.no {f : ByteArray → Int} {L : List ByteArray} {i b : Nat} (h : JB f L i b) (hn : ∀ o ∈ L, 0 ≤ f o) (hi : i < L.length) (hl : ¬ f (L.getD i ⟨#[]⟩) < f (L.getD b ⟨#[]⟩)) : JB f L (i + 1) b := by
  refine ⟨h.1, fun q => absurd q (by omega), fun _ => ?_⟩
  rw [take_next' L hi, lsOf_add]
  rcases Nat.eq_zero_or_pos i with h0 | h0
  · have := h.2.1 h0
    rw [h0, this, List.take_zero]; unfold lsStep lsOf; simp
  · rw [h.2.2 h0]; unfold lsStep
    have := hn _ (getD_in h.1)
    rw [if_neg (fun q => by rcases q with q | q; exact absurd this (Int.not_le.2 q); exact hl q)]
theorem JB.done {f : ByteArray → Int} {L : List ByteArray} {b : Nat} (h : JB f L L.length b) : L.getD b ⟨#[]⟩ = (lsOf f L).1 := by
  have := h.2.2 (by have := h.1; omega)
  rw [List.take_length] at this
  rw [this]
def JS (f : ByteArray → Int) (L : List ByteArray) (i : Nat) (l : Int) : Prop := 0 ≤ l ∧ (i = 0 → l = f (L.getD 0 ⟨#[]⟩)) ∧ (0 < i → (lsOf f (L.take i)).2 = l)
theorem JS.step {f : ByteArray → Int} {L : List ByteArray} {i : Nat} {l : Int} (h : JS f L i l) (hn : ∀ o ∈ L, 0 ≤ f o) (hi : i < L.length) : JS f L (i + 1) (min l (f (L.getD i ⟨#[]⟩))) := by
  have h1 := hn _ (getD_in hi)
  have h2 := h.1
  refine ⟨by omega, fun q => absurd q (by omega), fun _ => ?_⟩
  rw [take_next' L hi, lsOf_add]
  rcases Nat.eq_zero_or_pos i with h0 | h0
  · have := h.2.1 h0
    rw [h0, this, List.take_zero]; unfold lsStep lsOf; simp
  · have e := h.2.2 h0
    unfold lsStep
    rw [e]
    split
    · show f _ = _; omega
    · rw [e]; omega
theorem JS.done {f : ByteArray → Int} {L : List ByteArray} {l : Int} (h : JS f L L.length l) (hp : 0 < L.length) : l = (lsOf f L).2 := by
  have := h.2.2 hp
  rw [List.take_length] at this
  exact this.symm

set_option maxRecDepth 100000 in
set_option maxHeartbeats 4000000 in
theorem specBest {w : World} {v : Value} {s : Sg} (h : SgV w v s) :
    Calls Try.prog 27 #[v] w fun e w' => e = .returned (.tuple #[.string (bestV s), .bool (sgB s)]) ∧ Below w.heap.size w w' := by
  have SV := Lib.hid (fun (X : World) (b : Below w.heap.size w X) => specSingle (h.below b))
  have FV := Lib.hid (fun (X : World) (b : Below w.heap.size w X) (o : ByteArray) (ho : o.size ≤ 12) => specWait (S := o) (h.below b) (by omega))
  obtain ⟨a, n, c, a', n', c', rfl, i1, i2⟩ := h.form
  have hn := slice_len i1
  have hn' := slice_len i2
  obtain ⟨r, hr⟩ : ∃ r, r = s.run := ⟨_, rfl⟩
  obtain ⟨hd, hh⟩ : ∃ r, r = s.head := ⟨_, rfl⟩
  rw [← hr, ← hh] at SV FV ⊢
  have ea := below_alloc w (.cells #[.slice a n c, .slice a' n' c', .int .i64 r, .int .i64 hd] 25)
  have pa := Quad.new w (.slice a n c) (.slice a' n' c') (.int .i64 r) (.int .i64 hd) 25
  obtain ⟨W, hW⟩ : ∃ W, W = w.alloc (.cells #[.slice a n c, .slice a' n' c', .int .i64 r, .int .i64 hd] 25) := ⟨_, rfl⟩
  rw [← hW] at ea pa
  have p0 := pa.cell0
  have p1 := pa.cell1
  have p2 := pa.cell2
  have p3 := pa.cell3
  have HW := Lib.hid hW.symm
  have EA := Lib.hid ea
  have PA := Lib.hid pa
  obtain ⟨t, ht⟩ : ∃ t, t = sgB s := ⟨_, rfl⟩
  rw [← ht] at SV
  cases t
  · have E := Lib.hid (show bestV s = ⟨#[]⟩ ∧ sgB s = false from ⟨by simp [bestV, ← ht, noS], ht.symm⟩)
    clear ht h i1 i2 ea pa hW hr hh FV hn hn'
    go_enter Try.func27, Try.ntmps27
    go_upto_region 1 with fail
    rw [HW.out]
    go_wp2_with (go_at_call 53; refine (SV.out _ EA.out).mono ?_; rintro e w2 ⟨rfl, b2⟩)
    go_ret2
    exact ⟨by rw [E.out.1, E.out.2]; rfl, EA.out.trans (b2.mono EA.out.size)⟩
  have E := Lib.hid (show (lsOf (waitV s) (ords s)).1 = bestV s ∧ sgB s = true from ⟨by simp [bestV, ← ht], ht.symm⟩)
  have LA := (sgB_of ht.symm).lenA
  have LB := (sgB_of ht.symm).lenB
  have C := Lib.hid (fun X => specAll (n + n') n n' X rfl (by omega))
  have e0 : allF (n + n') n n' = ords s := by rw [hn, hn']; rfl
  rw [e0] at C
  have NN : ∀ o ∈ ords s, 0 ≤ waitV s o := fun o ho => waitV_nonneg (ords_ok ht.symm ho)
  have SZ : ∀ o ∈ ords s, o.size ≤ 12 := fun o ho => ords_size ht.symm ho
  have PS := ords_pos s
  have LM : (ords s).length ≤ 4096 := allF_many (by omega)
  obtain ⟨L, hL⟩ : ∃ L, L = ords s := ⟨_, rfl⟩
  rw [← hL] at C NN SZ PS LM E
  have NN := Lib.hid NN
  have SZ := Lib.hid SZ
  have LM := Lib.hid LM
  obtain ⟨f, hf⟩ : ∃ f, f = waitV s := ⟨_, rfl⟩
  have hfo : ∀ o, waitV s o = f o := fun o => by rw [hf]
  rw [← hf] at E NN
  simp only [hfo] at FV
  clear hfo hf hL ht hn hn' h i1 i2 ea pa hW hr hh LA LB e0
  go_enter Try.func27, Try.ntmps27
  go_upto_region 1 with fail
  rw [HW.out]
  go_wp2_with (first
    | (go_at_call 53; refine (SV.out _ EA.out).mono ?_; rintro e w2 ⟨rfl, b2⟩; have c0 := (PA.out.below b2).cell0; have c1 := (PA.out.below b2).cell1; have P2 := Lib.hid (PA.out.below b2); have B2 := Lib.hid (EA.out.trans (b2.mono EA.out.size)); clear b2 p0 p1 p2 p3)
    | (go_at_call 58; refine (C.out _).mono ?_; rintro e w3 ⟨v3, rfl, o3, b3⟩; obtain ⟨a3, q3, e3, hcap, hcell⟩ := o3.cells; subst e3; have P3 := Lib.hid (P2.out.below b3); have B3 := Lib.hid (B2.out.trans (b3.mono B2.out.size)); clear c0 c1 b3))
  rcases hcell with hz | ⟨g, rfl, hbg, hgl, hcell⟩
  · rw [hz] at PS; exact absurd PS (Nat.lt_irrefl _)
  have CE := Lib.hid (fun (X : World) (b : Below w3.heap.size w3 X) (i : Nat) (hi : i < L.length) => show X.cell? ⟨g, i, none⟩ = some (.string (L.getD i ⟨#[]⟩)) from (b.cell (p := ⟨g, i, none⟩) hgl).trans (hcell i hi))
  have J0 := Lib.hid (show JB f L 0 0 from ⟨PS, fun _ => rfl, fun q => absurd q (Nat.lt_irrefl 0)⟩)
  clear hcell hcap o3 hbg
  go_loopw [5, 6] (fun x i wr => ∃ i0 b : Nat, i0 ≤ L.length ∧ b < L.length ∧ i = .int .i64 i0 ∧ x = .int .i64 b ∧ Hid (JB f L i0 b) ∧ Hid (Below w3.heap.size w3 wr)) (fun _ i _ => L.length - (intOf i).toNat)
  case atStart => exact ⟨0, 0, Nat.zero_le _, PS, rfl, rfl, J0, Lib.hid (Below.refl _ _)⟩
  case round =>
    clear J0
    obtain ⟨i, b, hi, hb, rfl, rfl, HJ, HB⟩ := hrel
    have hLm := LM.out
    rcases Nat.lt_or_ge i L.length with hlt | hge
    · have x1 := SZ.out _ (getD_in hlt)
      have x2 := SZ.out _ (getD_in hb)
      have JY := Lib.hid (fun q => HJ.out.yes hlt q)
      have JN := Lib.hid (fun q => HJ.out.no NN.out hlt q)
      obtain ⟨x, hx⟩ : ∃ x, x = L.getD i ⟨#[]⟩ := ⟨_, rfl⟩
      obtain ⟨y, hy⟩ : ∃ x, x = L.getD b ⟨#[]⟩ := ⟨_, rfl⟩
      have CI := Lib.hid (fun (X : World) (bb : Below wr.heap.size wr X) => show X.cell? ⟨w.heap.size, 0, none⟩ = some (.slice a n c) ∧ X.cell? ⟨w.heap.size, 1, none⟩ = some (.slice a' n' c') ∧ X.cell? ⟨w.heap.size, 2, none⟩ = some (.int .i64 r) ∧ X.cell? ⟨w.heap.size, 3, none⟩ = some (.int .i64 hd) ∧ X.cell? ⟨g, i, none⟩ = some (.string x) ∧ X.cell? ⟨g, b, none⟩ = some (.string y) from
        have bz := HB.out.trans (bb.mono HB.out.size)
        have q := P3.out.below bz
        ⟨q.cell0, q.cell1, q.cell2, q.cell3, by rw [hx]; exact CE.out _ bz i hlt, by rw [hy]; exact CE.out _ bz b hb⟩)
      rw [← hx, ← hy] at JY JN
      rw [← hx] at x1
      rw [← hy] at x2
      have FI := Lib.hid (fun (X : World) (bb : Below wr.heap.size wr X) => FV.out _ (B3.out.trans ((HB.out.trans (bb.mono HB.out.size)).mono B3.out.size)) x x1)
      have FB := Lib.hid (fun (X : World) (bb : Below wr.heap.size wr X) => FV.out _ (B3.out.trans ((HB.out.trans (bb.mono HB.out.size)).mono B3.out.size)) y x2)
      have hii : (i : Int) < (L.length : Int) := by omega
      have hbi : (b : Int) < (L.length : Int) := by omega
      have him : (i : Int) ≤ 4096 := by omega
      obtain ⟨fx, hfx⟩ : ∃ z, z = f x := ⟨_, rfl⟩
      obtain ⟨fy, hfy⟩ : ∃ z, z = f y := ⟨_, rfl⟩
      rw [← hfx] at FI JY JN
      rw [← hfy] at FB JY JN
      have HK := Lib.hid hlt
      have HBL := Lib.hid hb
      clear hx hy hfx hfy x1 x2 hLm hlt hb hi
      obtain ⟨t, ht⟩ : ∃ t, t = decide (fx < fy) := ⟨_, rfl⟩
      have HT := Lib.hid ht.symm
      clear ht
      go_upto_region 8 with fail
      go_cut [35] (fun p wx => p = .bool t ∧ Hid (Below wr.heap.size wr wx))
      case first =>
        have d0 : Below wr.heap.size wr wr.drew := (Below.refl _ _).drew
        go_region_held3 (fun X => X.cell? ⟨w.heap.size, 0, none⟩ = some (.slice a n c) ∧ X.cell? ⟨w.heap.size, 1, none⟩ = some (.slice a' n' c') ∧ X.cell? ⟨w.heap.size, 2, none⟩ = some (.int .i64 r) ∧ X.cell? ⟨w.heap.size, 3, none⟩ = some (.int .i64 hd) ∧ X.cell? ⟨g, i, none⟩ = some (.string x) ∧ X.cell? ⟨g, b, none⟩ = some (.string y))
          (first
            | exact CI.out _ d0
            | exact CI.out _ (d0.trans (bA.mono d0.size))
            | exact CI.out _ (d0.trans (bB.mono d0.size))
            | exact CI.out _ ((d0.trans (bA.mono d0.size)).trans (bB.mono (d0.trans (bA.mono d0.size)).size))
            | go_keep)
          (first
            | (go_at_call_of 19 (Value.string x); refine (FI.out _ d0).mono ?_; rintro e wA ⟨rfl, bA⟩)
            | (go_at_call_of 19 (Value.string y); refine (FB.out _ (d0.trans (bA.mono d0.size))).mono ?_; rintro e wB ⟨rfl, bB⟩)
            | fail)
        all_goals (go_wp2_with fail; go_meet; exact ⟨congrArg Value.bool HT.out, Lib.hid ((d0.trans (bA.mono d0.size)).trans (bB.mono (d0.trans (bA.mono d0.size)).size))⟩)
      case rest =>
      obtain ⟨rfl, B8⟩ := hcut
      have BN := Lib.hid (HB.out.trans (B8.out.mono HB.out.size))
      clear HB B8 CI FI FB hii hbi HJ
      cases t
      · have JX := Lib.hid (JN.out (of_decide_eq_false HT.out))
        clear JY JN HT
        go_wp2_with fail
        go_roundw
        case rel => exact ⟨i + 1, b, by have := HK.out; omega, HBL.out, by go_num, rfl, JX, BN⟩
        case measure => have := HK.out; simp [intOf]; omega
      · have JX := Lib.hid (JY.out (of_decide_eq_true HT.out))
        clear JY JN HT
        go_wp2_with fail
        go_roundw
        case rel => exact ⟨i + 1, i, by have := HK.out; omega, HK.out, by go_num, rfl, JX, BN⟩
        case measure => have := HK.out; simp [intOf]; omega
    · obtain rfl : i = L.length := by omega
      have c0 := CE.out _ HB.out b hb
      have JD := Lib.hid HJ.out.done
      obtain ⟨y, hy⟩ : ∃ x, x = L.getD b ⟨#[]⟩ := ⟨_, rfl⟩
      rw [← hy] at c0 JD
      have hbi : (b : Int) < (L.length : Int) := by omega
      have hff : decide ((L.length : Int) < (L.length : Int)) = false := decide_eq_false (by omega)
      have BN := Lib.hid (B3.out.trans (HB.out.mono B3.out.size))
      clear hy hge hi hb hLm CE
      go_wp2_with fail
      go_ret2
      exact ⟨by rw [← E.out.1, E.out.2, ← JD.out]; rfl, BN.out⟩

set_option maxRecDepth 100000 in
set_option maxHeartbeats 4000000 in
theorem specSoon {w : World} {v : Value} {s : Sg} (h : SgV w v s) :
    Calls Try.prog 32 #[v] w fun e w' => e = .returned (.int .i64 (soonV s)) ∧ Below w.heap.size w w' := by
  have SV := Lib.hid (fun (X : World) (b : Below w.heap.size w X) => specSingle (h.below b))
  have FV := Lib.hid (fun (X : World) (b : Below w.heap.size w X) (o : ByteArray) (ho : o.size ≤ 12) => specEnd (S := o) (h.below b) (by omega))
  obtain ⟨a, n, c, a', n', c', rfl, i1, i2⟩ := h.form
  have hn := slice_len i1
  have hn' := slice_len i2
  obtain ⟨r, hr⟩ : ∃ r, r = s.run := ⟨_, rfl⟩
  obtain ⟨hd, hh⟩ : ∃ r, r = s.head := ⟨_, rfl⟩
  rw [← hr, ← hh] at SV FV ⊢
  have ea := below_alloc w (.cells #[.slice a n c, .slice a' n' c', .int .i64 r, .int .i64 hd] 25)
  have pa := Quad.new w (.slice a n c) (.slice a' n' c') (.int .i64 r) (.int .i64 hd) 25
  obtain ⟨W, hW⟩ : ∃ W, W = w.alloc (.cells #[.slice a n c, .slice a' n' c', .int .i64 r, .int .i64 hd] 25) := ⟨_, rfl⟩
  rw [← hW] at ea pa
  have p0 := pa.cell0
  have p1 := pa.cell1
  have p2 := pa.cell2
  have p3 := pa.cell3
  have HW := Lib.hid hW.symm
  have EA := Lib.hid ea
  have PA := Lib.hid pa
  obtain ⟨t, ht⟩ : ∃ t, t = sgB s := ⟨_, rfl⟩
  rw [← ht] at SV
  cases t
  · have E := Lib.hid (show soonV s = -1 by simp [soonV, ← ht])
    clear ht h i1 i2 ea pa hW hr hh FV hn hn'
    go_enter Try.func32, Try.ntmps32
    go_upto_region 1 with fail
    rw [HW.out]
    go_wp2_with (go_at_call 53; refine (SV.out _ EA.out).mono ?_; rintro e w2 ⟨rfl, b2⟩)
    go_ret
    exact ⟨ret_int E.out.symm, EA.out.trans (b2.mono EA.out.size)⟩
  have E := Lib.hid (show (lsOf (endV s) (ords s)).2 = soonV s by simp [soonV, ← ht])
  have LA := (sgB_of ht.symm).lenA
  have LB := (sgB_of ht.symm).lenB
  have C := Lib.hid (fun X => specAll (n + n') n n' X rfl (by omega))
  have e0 : allF (n + n') n n' = ords s := by rw [hn, hn']; rfl
  rw [e0] at C
  have NN : ∀ o ∈ ords s, 0 ≤ endV s o := fun o ho => endV_nonneg (ords_ok ht.symm ho)
  have SZ : ∀ o ∈ ords s, o.size ≤ 12 := fun o ho => ords_size ht.symm ho
  have PS := ords_pos s
  have LM : (ords s).length ≤ 4096 := allF_many (by omega)
  obtain ⟨L, hL⟩ : ∃ L, L = ords s := ⟨_, rfl⟩
  rw [← hL] at C NN SZ PS LM E
  have NN := Lib.hid NN
  have SZ := Lib.hid SZ
  have LM := Lib.hid LM
  obtain ⟨f, hf⟩ : ∃ f, f = endV s := ⟨_, rfl⟩
  have hfo : ∀ o, endV s o = f o := fun o => by rw [hf]
  rw [← hf] at E NN
  simp only [hfo] at FV
  clear hfo hf hL ht hn hn' h i1 i2 ea pa hW hr hh LA LB e0
  go_enter Try.func32, Try.ntmps32
  go_upto_region 1 with fail
  rw [HW.out]
  go_upto_region 4 with (first
    | (go_at_call 53; refine (SV.out _ EA.out).mono ?_; rintro e w2 ⟨rfl, b2⟩; have c0 := (PA.out.below b2).cell0; have c1 := (PA.out.below b2).cell1; have P2 := Lib.hid (PA.out.below b2); have B2 := Lib.hid (EA.out.trans (b2.mono EA.out.size)); clear b2 p0 p1 p2 p3)
    | (go_at_call 58; refine (C.out _).mono ?_; rintro e w3 ⟨v3, rfl, o3, b3⟩; obtain ⟨a3, q3, e3, hcap, hcell⟩ := o3.cells; subst e3; have P3 := Lib.hid (P2.out.below b3); have B3 := Lib.hid (B2.out.trans (b3.mono B2.out.size)); clear c0 c1 b3))
  rcases hcell with hz | ⟨g, rfl, hbg, hgl, hcell⟩
  · rw [hz] at PS; exact absurd PS (Nat.lt_irrefl _)
  have CE := Lib.hid (fun (X : World) (b : Below w3.heap.size w3 X) (i : Nat) (hi : i < L.length) => show X.cell? ⟨g, i, none⟩ = some (.string (L.getD i ⟨#[]⟩)) from (b.cell (p := ⟨g, i, none⟩) hgl).trans (hcell i hi))
  have CA := Lib.hid (fun (X : World) (b : Below w3.heap.size w3 X) (i : Nat) (hi : i < L.length) (x : ByteArray) (hx : x = L.getD i ⟨#[]⟩) => show X.cell? ⟨w.heap.size, 0, none⟩ = some (.slice a n c) ∧ X.cell? ⟨w.heap.size, 1, none⟩ = some (.slice a' n' c') ∧ X.cell? ⟨w.heap.size, 2, none⟩ = some (.int .i64 r) ∧ X.cell? ⟨w.heap.size, 3, none⟩ = some (.int .i64 hd) ∧ X.cell? ⟨g, i, none⟩ = some (.string x) from
    ⟨(P3.out.below b).cell0, (P3.out.below b).cell1, (P3.out.below b).cell2, (P3.out.below b).cell3, by rw [hx]; exact CE.out _ b i hi⟩)
  have FA := Lib.hid (fun (X : World) (b : Below w3.heap.size w3 X) (i : Nat) (hi : i < L.length) (x : ByteArray) (hx : x = L.getD i ⟨#[]⟩) => FV.out _ (B3.out.trans (b.mono B3.out.size)) x (by rw [hx]; exact SZ.out _ (getD_in hi)))
  have PS := Lib.hid PS
  have PL := Lib.hid (show (0 : Int) < (L.length : Int) by have := PS.out; omega)
  have PL' := PL.out
  obtain ⟨x, hx⟩ : ∃ x, x = L.getD 0 ⟨#[]⟩ := ⟨_, rfl⟩
  have CI := Lib.hid (fun (X : World) (b : Below w3.heap.size w3 X) => CA.out X b 0 PS.out x hx)
  have FI := Lib.hid (fun (X : World) (b : Below w3.heap.size w3 X) => FA.out X b 0 PS.out x hx)
  obtain ⟨fx, hfx⟩ : ∃ z, z = f x := ⟨_, rfl⟩
  rw [← hfx] at FI
  have J0 := Lib.hid (show JS f L 0 fx from ⟨by rw [hfx, hx]; exact NN.out _ (getD_in PS.out), fun _ => by rw [hfx, hx], fun q => absurd q (Nat.lt_irrefl 0)⟩)
  clear hcell hcap o3 hbg hx hfx CE
  go_cut [4] (fun p wx => p = .int .i64 fx ∧ Hid (Below w3.heap.size w3 wx))
  case first =>
    have d0 : Below w3.heap.size w3 w3.drew := (Below.refl _ _).drew
    go_region_held3 (fun X => X.cell? ⟨w.heap.size, 0, none⟩ = some (.slice a n c) ∧ X.cell? ⟨w.heap.size, 1, none⟩ = some (.slice a' n' c') ∧ X.cell? ⟨w.heap.size, 2, none⟩ = some (.int .i64 r) ∧ X.cell? ⟨w.heap.size, 3, none⟩ = some (.int .i64 hd) ∧ X.cell? ⟨g, 0, none⟩ = some (.string x))
      (first
        | exact CI.out _ d0
        | exact CI.out _ (d0.trans (bA.mono d0.size))
        | go_keep)
      (first
        | (go_at_call 25; refine (FI.out _ d0).mono ?_; rintro e wA ⟨rfl, bA⟩)
        | fail)
    all_goals (go_wp2_with fail; go_meet; exact ⟨rfl, Lib.hid (d0.trans (bA.mono d0.size))⟩)
  case rest =>
  obtain ⟨rfl, B4⟩ := hcut
  clear CI FI PL'
  go_wp2_with fail
  go_loopw [4, 5] (fun x i wr => ∃ (i0 : Nat) (l : Int), i0 ≤ L.length ∧ i = .int .i64 i0 ∧ x = .int .i64 l ∧ Hid (JS f L i0 l) ∧ Hid (Below w3.heap.size w3 wr)) (fun _ i _ => L.length - (intOf i).toNat)
  case atStart => exact ⟨0, fx, Nat.zero_le _, rfl, rfl, J0, B4⟩
  case round =>
    clear J0
    obtain ⟨i, l, hi, rfl, rfl, HJ, HB⟩ := hrel
    have hLm := LM.out
    rcases Nat.lt_or_ge i L.length with hlt | hge
    · obtain ⟨x, hx⟩ : ∃ x, x = L.getD i ⟨#[]⟩ := ⟨_, rfl⟩
      have CI := Lib.hid (fun (X : World) (b : Below wr.heap.size wr X) => CA.out X (HB.out.trans (b.mono HB.out.size)) i hlt x hx)
      have FI := Lib.hid (fun (X : World) (b : Below wr.heap.size wr X) => FA.out X (HB.out.trans (b.mono HB.out.size)) i hlt x hx)
      have JN := HJ.out.step NN.out hlt
      rw [← hx] at JN
      obtain ⟨fy, hfy⟩ : ∃ z, z = f x := ⟨_, rfl⟩
      rw [← hfy] at FI JN
      have JN := Lib.hid JN
      have hii : (i : Int) < (L.length : Int) := by omega
      have him : (i : Int) ≤ 4096 := by omega
      have HK := Lib.hid hlt
      clear hx hfy hLm hlt hi
      go_upto_region 7 with fail
      have d0 : Below wr.heap.size wr wr.drew := (Below.refl _ _).drew
      go_region_held3 (fun X => X.cell? ⟨w.heap.size, 0, none⟩ = some (.slice a n c) ∧ X.cell? ⟨w.heap.size, 1, none⟩ = some (.slice a' n' c') ∧ X.cell? ⟨w.heap.size, 2, none⟩ = some (.int .i64 r) ∧ X.cell? ⟨w.heap.size, 3, none⟩ = some (.int .i64 hd) ∧ X.cell? ⟨g, i, none⟩ = some (.string x))
        (first
          | exact CI.out _ d0
          | exact CI.out _ (d0.trans (bA.mono d0.size))
          | go_keep)
        (first
          | (go_at_call 25; refine (FI.out _ d0).mono ?_; rintro e wA ⟨rfl, bA⟩)
          | fail)
      all_goals
        (have BN := Lib.hid (HB.out.trans ((d0.trans (bA.mono d0.size)).mono HB.out.size))
         clear HB CI FI hii HJ
         go_wp2_with fail
         go_roundw
         case rel => exact ⟨i + 1, _, by have := HK.out; omega, by go_num, rfl, JN, BN⟩
         case measure => have := HK.out; simp [intOf]; omega)
    · obtain rfl : i = L.length := by omega
      have JD := Lib.hid (HJ.out.done PS.out)
      have hff : decide ((L.length : Int) < (L.length : Int)) = false := decide_eq_false (by omega)
      have BN := Lib.hid (B3.out.trans (HB.out.mono B3.out.size))
      clear hge hi hLm CA FA
      go_wp2_with fail
      go_ret
      exact ⟨ret_int (by rw [JD.out, E.out]), BN.out⟩

end Go.Proofs.Ytchnaceihmepkaa
