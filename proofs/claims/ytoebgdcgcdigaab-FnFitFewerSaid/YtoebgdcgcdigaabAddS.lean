/-
  A fitted path behind all others, by the model.
-/
import Derived.Test.YtoebgdcgcdigaabAdd
import Derived.Test.YtoebgdcgcdigaabFitS
import Derived.Test.YtoebgdcgcdigaabGoods4
import Derived.Test.YtoebgdcgcdigaabPathsV
import Derived.ArgAppend
namespace Go.Proofs.Ytoebgdcgcdigaab
open Go.RowKit Go.Sort

theorem GrowP.mono {w : World} {base base' : Nat} {v : Value} {ps : List (List Int × List Int)} (h : GrowP w base v ps) (hb : base' ≤ base) : GrowP w base' v ps := by
  obtain ⟨vs, ho, hi, hd, hv⟩ := h
  exact ⟨vs, ownsRow_mono2 ho hb, fun i hik => ⟨(hi i hik).1.mono hb, (hi i hik).2.mono hb⟩, hd, hv⟩
theorem GrowP.shape {w : World} {base : Nat} {v : Value} {ps : List (List Int × List Int)} (h : GrowP w base v ps) : ∃ a c, v = .slice a ps.length c := by
  obtain ⟨vs, ho, _⟩ := h
  rcases ho.2 with ⟨e, h0⟩ | ⟨g, c, cur, e, _⟩
  · exact ⟨none, 0, by rw [e, h0]⟩
  · exact ⟨_, c, e⟩
theorem GrowP.inRow {w : World} {base : Nat} {v : Value} {ps : List (List Int × List Int)} (h : GrowP w base v ps) : ∀ b, v.ownBlock = some b → base ≤ b ∧ b < w.heap.size := by
  obtain ⟨vs, ho, _⟩ := h
  exact fun b e => World.ownsRow.lt ho b e
theorem take_next {α : Type} (ps : List α) (d : α) {k : Nat} (h : k < ps.length) : ps.take k ++ [ps.getD k d] = ps.take (k + 1) := by
  rw [List.take_add_one, List.getD_eq_getElem?_getD, List.getElem?_eq_getElem h]
  rfl

theorem frame_of (tm : Array Value) (n : Nat) (h : tm.size = n) : tm = ((List.range n).map fun i => tm.getD i undef).toArray := by
  apply Array.ext
  · simp [h]
  · intro i h1 h2
    simp [h1]

/-- What is good in the region that copies a path and puts it behind the others. -/
def GA (base B : Nat) (V U S1 S2 : Value) (kk : Int) (b o : Nat) (p : List Int × List Int) (qs : List (List Int × List Int)) (i : Nat) (v : Value) (w : World) : Prop :=
  match i with
  | 0 => v = V
  | 1 => ∃ N, v = .slice (some ⟨N, 0, none⟩) 0 0
  | 2 => v = U
  | 3 => v = .int .i64 kk
  | 4 => v = .pointer (some ⟨b, o, none⟩)
  | 5 => v = .pointer (some ⟨b, o, none⟩)
  | 6 => v = S1
  | 7 => OwnI w B v p.1
  | 8 => ∃ N, v = .slice (some ⟨N, 0, none⟩) 0 0
  | 9 => v = U
  | 10 => v = .int .i64 kk
  | 11 => v = .pointer (some ⟨b, o, none⟩)
  | 12 => v = .pointer (some ⟨b, o + 1, none⟩)
  | 13 => v = S2
  | 14 => OwnI w B v p.2
  | 15 => ∃ u1 u2, v = .agg #[u1, u2] ∧ OwnI w B u1 p.1 ∧ OwnI w B u2 p.2
  | 16 => ∃ N u1 u2, v = .slice (some ⟨N, 0, none⟩) 1 1 ∧ B ≤ N ∧ Pair w N u1 u2 32 ∧ OwnI w B u1 p.1 ∧ OwnI w B u2 p.2
  | 17 => GrowP w base v qs
  | 18 => GrowP w base v qs
  | _ => True
def TA (V : Value) (k : Nat) (w w' : World) : Prop := w.grownBy w' (if k = 17 then V.ownBlock else none)
theorem TA.refl {V : Value} {k : Nat} (w : World) : TA V k w w := World.grownBy.refl _ _
theorem TA.of {V : Value} {k : Nat} {w w' : World} (h : w.grownBy w' none) : TA V k w w' := ⟨h.os, h.tape, h.output, h.size, fun j hj _ => h.block j hj (by simp)⟩
theorem own_ta {V : Value} {k B : Nat} {w w' : World} {u : Value} {xs : List Int} (h : OwnI w B u xs) (hV : ∀ b, V.ownBlock = some b → b < B) (t : TA V k w w') : OwnI w' B u xs := by
  refine h.kept t ?_
  cases e : u.ownBlock with
  | none => exact .inl rfl
  | some b =>
    refine .inr (fun q => ?_)
    have := (World.ownsRow.lt h b e).1
    split at q
    · have := hV b q.symm; omega
    · cases q
theorem GA.kept {base B : Nat} {V U S1 S2 : Value} {kk : Int} {b o : Nat} {p : List Int × List Int} {qs : List (List Int × List Int)} (hV : ∀ b, V.ownBlock = some b → b < B) {k i : Nat} {v : Value} {w w' : World} (hk : i = 17 ∨ i = 18 → k ≠ 17) (t : TA V k w w')
    (h : GA base B V U S1 S2 kk b o p qs i v w) : GA base B V U S1 S2 kk b o p qs i v w' := by
  unfold GA at h ⊢
  split at h
  · exact h
  · exact h
  · exact h
  · exact h
  · exact h
  · exact h
  · exact h
  · exact own_ta h hV t
  · exact h
  · exact h
  · exact h
  · exact h
  · exact h
  · exact h
  · exact own_ta h hV t
  · obtain ⟨u1, u2, e, h1, h2⟩ := h
    exact ⟨u1, u2, e, own_ta h1 hV t, own_ta h2 hV t⟩
  · obtain ⟨N, u1, u2, e, hN, hp, h1, h2⟩ := h
    refine ⟨N, u1, u2, e, hN, hp.of (t.block N hp.lt ?_), own_ta h1 hV t, own_ta h2 hV t⟩
    intro q
    split at q
    · have := hV N q.symm; omega
    · cases q
  · have hk' := hk (.inl rfl)
    unfold TA at t
    rw [if_neg hk'] at t
    exact h.below ⟨t.os, t.tape, t.output, t.size, fun j hj => t.block j hj (by simp)⟩
  · have hk' := hk (.inr rfl)
    unfold TA at t
    rw [if_neg hk'] at t
    exact h.below ⟨t.os, t.tape, t.output, t.size, fun j hj => t.block j hj (by simp)⟩
  · trivial
/-- What is known of the world, by what has been carried out. -/
def RA (w0 wr : World) (D : Nat → Bool) (w : World) : Prop := Below w0.heap.size w0 w ∧ (D 17 = false → Below wr.heap.size wr w)
theorem RA.same {w0 wr w w' : World} {D D' : Nat → Bool} (h : RA w0 wr D w) (hg : w.grownBy w' none) (h17 : D' 17 = D 17) : RA w0 wr D' w' := by
  have hb : Below w.heap.size w w' := ⟨hg.os, hg.tape, hg.output, hg.size, fun j hj => hg.block j hj (by simp)⟩
  exact ⟨h.1.trans (hb.mono h.1.size), fun q => by
    have q' := h.2 (h17 ▸ q)
    exact q'.trans (hb.mono q'.size)⟩
/-- A copy onto an empty list of the call's own. -/
theorem copy_ints {w : World} {N b o m c : Nat} {xs : List Int} (h0 : 0 < xs.length) (hm : m = xs.length) (h5 : xs.length ≤ 1000) (hc : ∀ i, i < xs.length → w.cell? ⟨b, o + i, none⟩ = some (.int .i64 (xs.getD i 0))) (ty : TypeId) :
    ∃ v' w', (Builtin.append_ #[27, 27] ty #[.slice (some ⟨N, 0, none⟩) 0 0, .slice (some ⟨b, o, none⟩) m c]).run Try.prog w = .ok v' w' ∧ OwnI w' w.heap.size v' xs ∧ w.grownBy w' none := by
  subst hm
  obtain ⟨i0, hi, hz0, hz1, hz2⟩ := info_parts info_int
  obtain ⟨v', w', hr, ho, hg⟩ := run_append_arg_grows (P := Try.prog) w 27 ty 3 i0 (.int .i64 0) 1 8 Try.underlying27 hi hz0 hz1 hz2 rfl (by decide) ⟨N, 0, none⟩ 0 0 [] rfl (fun j u hu => by simp at hu) ⟨b, o, none⟩ xs.length c (xs.map (Value.int .i64)) (by simp) (fun j u hu => by
    rw [List.getElem?_map] at hu
    cases e : xs[j]? with
    | none => rw [e] at hu; simp at hu
    | some x =>
      rw [e] at hu
      simp only [Option.map_some, Option.some.injEq] at hu
      subst hu
      have hlt : j < xs.length := (List.getElem?_eq_some_iff.1 e).1
      have q := hc j hlt
      rw [List.getD_eq_getElem?_getD, e] at q
      rw [Addr.add_lit]
      exact q) (by omega) (by unfold maxLen; omega) (by omega)
  refine ⟨v', w', hr, ?_, hg⟩
  unfold OwnI
  simpa using ho

set_option maxRecDepth 100000 in
set_option maxHeartbeats 4000000 in
theorem specAdd {w : World} {u v : Value} {n s : Int} {ps : List (List Int × List Int)} {rs : List Int} (hu : Paths w u ps) (h : Ints w v rs) :
    Calls Try.prog 24 #[.int .i64 n, u, .int .i64 s, v] w (MadeAdd w (addV n ps s rs) (addB n ps s rs)) := by
  have FT := Lib.hid (fun (W : World) (b : Below w.heap.size w W) => specFit (n := n) (s := s) (hu.below b) (h.below b))
  have HU := Lib.hid hu
  have HH := Lib.hid (fun (i : Nat) (hi : i < ps.length) (a : Option Addr) (m cap : Nat) (e : u = .slice a m cap) => paths_at (e ▸ hu) hi)
  obtain ⟨a, cap, rfl, hl, -⟩ := hu
  obtain ⟨a', cap', rfl, -, -⟩ := h
  obtain ⟨fb, hfb⟩ : ∃ fb, fb = fitB n ps s rs := ⟨_, rfl⟩
  obtain ⟨fp, hfp⟩ : ∃ fp, fp = fitV n ps s rs := ⟨_, rfl⟩
  rw [← hfb, ← hfp] at FT
  have HFB := Lib.hid hfb
  have HFP := Lib.hid hfp
  clear hfb hfp
  go_enter Try.func24, Try.ntmps24
  go_wp2_with (go_at_call 18; refine (FT.out _ (Below.refl _ _)).mono ?_)
  rintro e wA ⟨vf, rfl, of, bA⟩
  obtain ⟨b1, n1, c1, b2, n2, c2, rfl⟩ := of.form
  obtain ⟨wc, hwc⟩ : ∃ X, X = wA.alloc (.cells #[.slice b1 n1 c1, .slice b2 n2 c2] 32) := ⟨_, rfl⟩
  have e1 := below_alloc wA (.cells #[.slice b1 n1 c1, .slice b2 n2 c2] 32)
  have pf := Pair.new wA (.slice b1 n1 c1) (.slice b2 n2 c2) 32
  rw [← hwc] at e1 pf
  have of := of.below e1
  have bf := bA.trans (e1.mono bA.size)
  have HWC := Lib.hid hwc.symm
  clear hwc e1 bA
  go_upto_region 2 with fail
  rw [HWC.out]
  cases fb
  · have HN := Lib.hid (show addB n ps s rs = false by unfold addB; rw [← HFB.out]; rfl)
    go_wp2_with fail
    go_ret2
    exact made_add ((GrowP.empty _).mono bf.size) (bf.alloc bf.size _) (addV_no HN.out).symm HN.out.symm
  · have hf : fitB n ps s rs = true := HFB.out.symm
    have his := fitB_is hf
    have hp := (hasB_is (freeB_is (his.2.2 0 (by omega))).1).1
    have hp8 : ps.length ≤ 8 := (pathsB_is hp).2.1
    have HP := Lib.hid hp
    have AP := Lib.hid (add_paths hf)
    have FV := Lib.hid (HFP.out.trans (fitV_yes hf))
    obtain ⟨i0, hi, hz0, hz1, hz2⟩ := info_parts info_path
    have G0 := Lib.hid (GrowP.empty wc)
    have E0 := Lib.hid (below_alloc wc (.cells #[] 32))
    have PF := Lib.hid pf
    have OF := Lib.hid of
    have BF := Lib.hid bf
    have IF := Lib.hid of.isIn
    clear hf his hp pf of bf
    go_wp2_with fail
    go_loopw [12, 13] (fun x i wr => ∃ k : Nat, k ≤ ps.length ∧ i = .int .i64 k ∧ Hid (GrowP wr wc.heap.size x (ps.take k) ∧ Below wc.heap.size wc wr)) (fun _ i _ => ps.length - (intOf i).toNat)
    case atStart => exact ⟨0, by omega, rfl, G0.out, E0.out⟩
    case round =>
      obtain ⟨k, hk, rfl, RR⟩ := hrel
      by_cases hlt : k < ps.length
      · have hki : (k : Int) < (ps.length : Int) := by omega
        have hk0 : (0 : Int) ≤ k := by omega
        obtain ⟨bU, oU, rfl, hbU, hat⟩ := HH.out k hlt a ps.length cap rfl
        obtain ⟨p, hpe⟩ : ∃ p, p = ps.getD k noPath := ⟨_, rfl⟩
        have hbw : Below w.heap.size w wr := BF.out.trans (RR.out.2.mono BF.out.size)
        have pat := (hat k hlt).below hbw
        have hpp := pathsB_at HP.out hlt
        rw [← hpe] at pat hpp
        obtain ⟨⟨hn1, hn5⟩, hx, hy, hsec⟩ := pathB_is hpp
        have NE := Lib.hid (show p.1.getD 0 0 < p.2.getD 0 0 from (hsec 0 (by omega)).2.1)
        clear hsec
        obtain ⟨b3, o3, k3, b4, o4, k4, d1, d2, hlb, hb3, hb4, e1, e2⟩ := pat.cells hpp
        obtain ⟨aV, cV, rfl⟩ := RR.out.1.shape
        have HTK := Lib.hid (show (ps.take k).length = k by rw [List.length_take]; omega)
        rw [HTK.out] at RR ⊢
        have TK := Lib.hid (take_next ps noPath hlt)
        rw [← hpe] at TK
        have hbs : wc.heap.size ≤ wr.heap.size := RR.out.2.size
        have hVr := RR.out.1.inRow
        obtain ⟨oK, hoK⟩ : ∃ x, x = oU + k * 2 := ⟨_, rfl⟩
        rw [← hoK] at d1 d2
        obtain ⟨l3, hl3⟩ : ∃ l, l = p.1.length := ⟨_, rfl⟩
        obtain ⟨l4, hl4⟩ : ∃ l, l = p.2.length := ⟨_, rfl⟩
        rw [← hl3] at d1
        rw [← hl4] at d2
        have CE := Lib.hid (And.intro d1 (And.intro d2 (And.intro hlb (And.intro hb3 (And.intro hb4 (And.intro e1 (And.intro e2 (And.intro hl3 (And.intro hl4 (And.intro (show 0 < p.1.length ∧ p.1.length ≤ 1000 by omega) (show 0 < p.2.length ∧ p.2.length ≤ 1000 by omega)))))))))))
        have HOK := Lib.hid hoK
        have VR := Lib.hid hVr
        clear hat pat d1 d2 hlb hb3 hb4 e1 e2 hl3 hl4 hn1 hn5 hx hy hpp hoK hVr hpe hbw hbU
        go_upto_region 8 with fail
        refine wp_region_goodsM (G := GA wc.heap.size wr.heap.size (.slice aV k cV) (.slice (some ⟨bU, oU, none⟩) ps.length cap) (.slice (some ⟨b3, o3, none⟩) l3 k3) (.slice (some ⟨b4, o4, none⟩) l4 k4) k bU oK p (ps.take (k + 1))) (R := RA wc wr) (T := TA (.slice aV k cV)) (by kernel_rfl) (by kernel_rfl) ?start ?hT ⟨?s0, ?s1, ?s2, ?s3, ?s4, ?s5, ?s6, ?s7, ?s8, ?s9, ?s10, ?s11, ?s12, ?s13, ?s14, ?s15, ?s16, ?s17, ?s18, trivial⟩ ?hend
        case start =>
          intro D hD
          exact ⟨⟨RR.out.2.os, RR.out.2.tape, RR.out.2.output, RR.out.2.size, RR.out.2.block⟩, fun _ => ⟨rfl, rfl, rfl, Nat.le_refl _, fun _ _ => rfl⟩⟩
        case hT =>
          intro k' i' o' v' w' w'' hki' hoi hl' t h'
          refine GA.kept (fun b q => (VR.out b q).2) (fun q => ?_) t h'
          intro e
          subst e
          rcases q with rfl | rfl
          · exact hki' rfl
          · have e3 : Option.map (fun o => leans o 17) (some o') = some true := (congrArg (Option.map (fun o => leans o 17)) hoi).symm.trans (by kernel_rfl)
            simp only [Option.map_some, Option.some.injEq] at e3
            rw [e3] at hl'
            cases hl'
        case s0 =>
          intro a' w' D D' hDk _ hdo hcl hR hrest _ K hK
          have e : a'.tmps.getD 12 undef = .slice aV k cV := hrest 12 (fun j o' hj hd q => by
            have h18 := only_writer (n := 18) (by kernel_rfl) hj q
            subst h18
            have c1 := hcl 18 _ rfl hd 0 (by kernel_rfl)
            rw [hDk] at c1
            cases c1)
          go_simp
          exact hK _ _ rfl (hR.same (World.grownBy.refl _ _) (hdo 17 (by decide))) (TA.refl _)
        case s1 =>
          intro a' w' D D' _ _ hdo _ hR hrest _ K hK
          go_simp
          exact hK (.slice (some ⟨w'.heap.size, 0, none⟩) 0 0) _ ⟨_, rfl⟩ (hR.same (World.grownBy_alloc _ _ _) (hdo 17 (by decide))) (TA.of (World.grownBy_alloc _ _ _))
        case s2 =>
          intro a' w' D D' _ _ hdo _ hR hrest _ K hK
          have e : a'.tmps.getD 1 undef = .slice (some ⟨bU, oU, none⟩) ps.length cap := hrest 1 (unwritten_rest (by kernel_rfl))
          go_simp
          exact hK _ _ rfl (hR.same (World.grownBy.refl _ _) (hdo 17 (by decide))) (TA.refl _)
        case s3 =>
          intro a' w' D D' _ _ hdo _ hR hrest _ K hK
          have e : a'.tmps.getD 13 undef = .int .i64 k := hrest 13 (unwritten_rest (by kernel_rfl))
          go_simp
          exact hK _ _ rfl (hR.same (World.grownBy.refl _ _) (hdo 17 (by decide))) (TA.refl _)
        case s4 =>
          intro a' w' D D' _ _ hdo _ hR _ hdep K hK
          have e : a'.tmps.getD 34 undef = .slice (some ⟨bU, oU, none⟩) ps.length cap := hdep 2 (by kernel_rfl)
          have e2 : a'.tmps.getD 35 undef = .int .i64 k := hdep 3 (by kernel_rfl)
          have e' := slot_of e
          have e2' := slot_of e2
          go_simp
          rw [← HOK.out]
          exact hK (.pointer (some ⟨bU, oK, none⟩)) _ rfl (hR.same (World.grownBy.refl _ _) (hdo 17 (by decide))) (TA.refl _)
        case s5 =>
          intro a' w' D D' _ _ hdo _ hR _ hdep K hK
          have e : a'.tmps.getD 36 undef = .pointer (some ⟨bU, oK, none⟩) := hdep 4 (by kernel_rfl)
          have e' := slot_of e
          go_simp
          exact hK (.pointer (some ⟨bU, oK, none⟩)) _ rfl (hR.same (World.grownBy.refl _ _) (hdo 17 (by decide))) (TA.refl _)
        case s6 =>
          intro a' w' D D' hDk _ hdo hcl hR _ hdep K hK
          have e : a'.tmps.getD 37 undef = .pointer (some ⟨bU, oK, none⟩) := hdep 5 (by kernel_rfl)
          have e' := slot_of e
          have h17 : D 17 = false := by
            cases q : D 17
            · rfl
            · have c0 := q
              have c1 := hcl 17 _ rfl c0 16 (by kernel_rfl)
              have c2 := hcl 16 _ rfl c1 15 (by kernel_rfl)
              have c3 := hcl 15 _ rfl c2 7 (by kernel_rfl)
              have c4 := hcl 7 _ rfl c3 6 (by kernel_rfl)
              rw [hDk] at c4
              cases c4
          have hB := hR.2 h17
          have hc := (hB.cell (p := ⟨bU, oK, none⟩) CE.out.2.2.1).trans CE.out.1
          go_simp
          exact hK (.slice (some ⟨b3, o3, none⟩) l3 k3) _ rfl (hR.same (World.grownBy.refl _ _) (hdo 17 (by decide))) (TA.refl _)
        case s7 =>
          intro a' w' D D' hDk _ hdo hcl hR _ hdep K hK
          obtain ⟨N, e⟩ : ∃ N, a'.tmps.getD 33 undef = .slice (some ⟨N, 0, none⟩) 0 0 := hdep 1 (by kernel_rfl)
          have e2 : a'.tmps.getD 38 undef = .slice (some ⟨b3, o3, none⟩) l3 k3 := hdep 6 (by kernel_rfl)
          have h17 : D 17 = false := by
            cases q : D 17
            · rfl
            · have c0 := q
              have c1 := hcl 17 _ rfl c0 16 (by kernel_rfl)
              have c2 := hcl 16 _ rfl c1 15 (by kernel_rfl)
              have c3 := hcl 15 _ rfl c2 7 (by kernel_rfl)
              rw [hDk] at c3
              cases c3
          have hB := hR.2 h17
          obtain ⟨v', w4, hrun, ho, hg⟩ := copy_ints (w := w') (N := N) (c := k3) CE.out.2.2.2.2.2.2.2.2.2.1.1 CE.out.2.2.2.2.2.2.2.1 CE.out.2.2.2.2.2.2.2.2.2.1.2 (fun j hj => (hB.cell (p := ⟨b3, o3 + j, none⟩) CE.out.2.2.2.1).trans (CE.out.2.2.2.2.2.1 j hj)) 27
          have hs : a'.eval (Operand.tmp 33) = .slice (some ⟨N, 0, none⟩) 0 0 := e
          have hx : a'.eval (Operand.tmp 38) = .slice (some ⟨b3, o3, none⟩) l3 k3 := e2
          have HO := Lib.hid (ho.mono hB.size)
          have HR4 := Lib.hid (hR.same (D' := D') hg (hdo 17 (by decide)))
          clear ho hdep hcl
          unfold Oper.wp execOp
          simp only [resolve, invoke, builtin, Sem.run_bind, Sem.run_pure, Result.andThen_ok, List.map_toArray, List.map_cons, List.map_nil, hs, hx, hrun]
          exact hK v' w4 HO.out HR4.out (TA.of hg)
        case s8 =>
          intro a' w' D D' _ _ hdo _ hR hrest _ K hK
          go_simp
          exact hK (.slice (some ⟨w'.heap.size, 0, none⟩) 0 0) _ ⟨_, rfl⟩ (hR.same (World.grownBy_alloc _ _ _) (hdo 17 (by decide))) (TA.of (World.grownBy_alloc _ _ _))
        case s9 =>
          intro a' w' D D' _ _ hdo _ hR hrest _ K hK
          have e : a'.tmps.getD 1 undef = .slice (some ⟨bU, oU, none⟩) ps.length cap := hrest 1 (unwritten_rest (by kernel_rfl))
          go_simp
          exact hK _ _ rfl (hR.same (World.grownBy.refl _ _) (hdo 17 (by decide))) (TA.refl _)
        case s10 =>
          intro a' w' D D' _ _ hdo _ hR hrest _ K hK
          have e : a'.tmps.getD 13 undef = .int .i64 k := hrest 13 (unwritten_rest (by kernel_rfl))
          go_simp
          exact hK _ _ rfl (hR.same (World.grownBy.refl _ _) (hdo 17 (by decide))) (TA.refl _)
        case s11 =>
          intro a' w' D D' _ _ hdo _ hR _ hdep K hK
          have e : a'.tmps.getD 41 undef = .slice (some ⟨bU, oU, none⟩) ps.length cap := hdep 9 (by kernel_rfl)
          have e2 : a'.tmps.getD 42 undef = .int .i64 k := hdep 10 (by kernel_rfl)
          have e' := slot_of e
          have e2' := slot_of e2
          go_simp
          rw [← HOK.out]
          exact hK (.pointer (some ⟨bU, oK, none⟩)) _ rfl (hR.same (World.grownBy.refl _ _) (hdo 17 (by decide))) (TA.refl _)
        case s12 =>
          intro a' w' D D' _ _ hdo _ hR _ hdep K hK
          have e : a'.tmps.getD 43 undef = .pointer (some ⟨bU, oK, none⟩) := hdep 11 (by kernel_rfl)
          have e' := slot_of e
          go_simp
          exact hK (.pointer (some ⟨bU, oK + 1, none⟩)) _ rfl (hR.same (World.grownBy.refl _ _) (hdo 17 (by decide))) (TA.refl _)
        case s13 =>
          intro a' w' D D' hDk _ hdo hcl hR _ hdep K hK
          have e : a'.tmps.getD 44 undef = .pointer (some ⟨bU, oK + 1, none⟩) := hdep 12 (by kernel_rfl)
          have e' := slot_of e
          have h17 : D 17 = false := by
            cases q : D 17
            · rfl
            · have c0 := q
              have c1 := hcl 17 _ rfl c0 16 (by kernel_rfl)
              have c2 := hcl 16 _ rfl c1 15 (by kernel_rfl)
              have c3 := hcl 15 _ rfl c2 14 (by kernel_rfl)
              have c4 := hcl 14 _ rfl c3 13 (by kernel_rfl)
              rw [hDk] at c4
              cases c4
          have hB := hR.2 h17
          have hc := (hB.cell (p := ⟨bU, oK + 1, none⟩) CE.out.2.2.1).trans CE.out.2.1
          go_simp
          exact hK (.slice (some ⟨b4, o4, none⟩) l4 k4) _ rfl (hR.same (World.grownBy.refl _ _) (hdo 17 (by decide))) (TA.refl _)
        case s14 =>
          intro a' w' D D' hDk _ hdo hcl hR _ hdep K hK
          obtain ⟨N, e⟩ : ∃ N, a'.tmps.getD 40 undef = .slice (some ⟨N, 0, none⟩) 0 0 := hdep 8 (by kernel_rfl)
          have e2 : a'.tmps.getD 45 undef = .slice (some ⟨b4, o4, none⟩) l4 k4 := hdep 13 (by kernel_rfl)
          have h17 : D 17 = false := by
            cases q : D 17
            · rfl
            · have c0 := q
              have c1 := hcl 17 _ rfl c0 16 (by kernel_rfl)
              have c2 := hcl 16 _ rfl c1 15 (by kernel_rfl)
              have c3 := hcl 15 _ rfl c2 14 (by kernel_rfl)
              rw [hDk] at c3
              cases c3
          have hB := hR.2 h17
          obtain ⟨v', w4, hrun, ho, hg⟩ := copy_ints (w := w') (N := N) (c := k4) CE.out.2.2.2.2.2.2.2.2.2.2.1 CE.out.2.2.2.2.2.2.2.2.1 CE.out.2.2.2.2.2.2.2.2.2.2.2 (fun j hj => (hB.cell (p := ⟨b4, o4 + j, none⟩) CE.out.2.2.2.2.1).trans (CE.out.2.2.2.2.2.2.1 j hj)) 27
          have hs : a'.eval (Operand.tmp 40) = .slice (some ⟨N, 0, none⟩) 0 0 := e
          have hx : a'.eval (Operand.tmp 45) = .slice (some ⟨b4, o4, none⟩) l4 k4 := e2
          have HO := Lib.hid (ho.mono hB.size)
          have HR4 := Lib.hid (hR.same (D' := D') hg (hdo 17 (by decide)))
          clear ho hdep hcl
          unfold Oper.wp execOp
          simp only [resolve, invoke, builtin, Sem.run_bind, Sem.run_pure, Result.andThen_ok, List.map_toArray, List.map_cons, List.map_nil, hs, hx, hrun]
          exact hK v' w4 HO.out HR4.out (TA.of hg)
        case s15 =>
          intro a' w' D D' _ _ hdo _ hR _ hdep K hK
          have l1 : OwnI w' wr.heap.size (a'.tmps.getD 39 undef) p.1 := hdep 7 (by kernel_rfl)
          have l2 : OwnI w' wr.heap.size (a'.tmps.getD 46 undef) p.2 := hdep 14 (by kernel_rfl)
          obtain ⟨x1, e1⟩ : ∃ x, a'.tmps.getD 39 undef = x := ⟨_, rfl⟩
          obtain ⟨x2, e2⟩ : ∃ x, a'.tmps.getD 46 undef = x := ⟨_, rfl⟩
          rw [e1] at l1
          rw [e2] at l2
          obtain ⟨y1, z1, q1, rfl⟩ := own_is_slice l1
          obtain ⟨y2, z2, q2, rfl⟩ := own_is_slice l2
          have e1' := slot_of e1
          have e2' := slot_of e2
          have HL := Lib.hid (And.intro l1 l2)
          clear l1 l2 e1 e2 hdep
          go_simp
          exact hK _ _ ⟨_, _, rfl, HL.out.1, HL.out.2⟩ (hR.same (World.grownBy.refl _ _) (hdo 17 (by decide))) (TA.refl _)
        case s16 =>
          intro a' w' D D' hDk _ hdo hcl hR _ hdep K hK
          obtain ⟨x1, x2, e, l1, l2⟩ : ∃ u1 u2, a'.tmps.getD 47 undef = .agg #[u1, u2] ∧ OwnI w' wr.heap.size u1 p.1 ∧ OwnI w' wr.heap.size u2 p.2 := hdep 15 (by kernel_rfl)
          obtain ⟨y1, z1, q1, rfl⟩ := own_is_slice l1
          obtain ⟨y2, z2, q2, rfl⟩ := own_is_slice l2
          have e' := slot_of e
          have h17 : D 17 = false := by
            cases q : D 17
            · rfl
            · have c0 := q
              have c1 := hcl 17 _ rfl c0 16 (by kernel_rfl)
              rw [hDk] at c1
              cases c1
          have hB := (hR.2 h17).size
          have HL := Lib.hid (show GA wc.heap.size wr.heap.size (.slice aV k cV) (.slice (some ⟨bU, oU, none⟩) ps.length cap) (.slice (some ⟨b3, o3, none⟩) l3 k3) (.slice (some ⟨b4, o4, none⟩) l4 k4) k bU oK p (ps.take (k + 1)) 16 (.slice (some ⟨w'.heap.size, 0, none⟩) 1 1) (w'.alloc (.cells #[.slice y1 z1 q1, .slice y2 z2 q2] 32)) from
            ⟨_, _, _, rfl, hB, Pair.new _ _ _ _, l1.below (below_alloc _ _), l2.below (below_alloc _ _)⟩)
          clear l1 l2 e hdep hcl
          go_simp
          exact hK (.slice (some ⟨w'.heap.size, 0, none⟩) 1 1) _ HL.out (hR.same (World.grownBy_alloc _ _ _) (hdo 17 (by decide))) (TA.of (World.grownBy_alloc _ _ _))
        case s17 =>
          intro a' w' D D' hDk hDk' hdo hcl hR _ hdep K hK
          have e : a'.tmps.getD 32 undef = .slice aV k cV := hdep 0 (by kernel_rfl)
          obtain ⟨N, u1, u2, e2, hN, hpr, l1, l2⟩ : ∃ N u1 u2, a'.tmps.getD 48 undef = .slice (some ⟨N, 0, none⟩) 1 1 ∧ wr.heap.size ≤ N ∧ Pair w' N u1 u2 32 ∧ OwnI w' wr.heap.size u1 p.1 ∧ OwnI w' wr.heap.size u2 p.2 := hdep 16 (by kernel_rfl)
          have hB := hR.2 hDk
          obtain ⟨y1, z1, q1, rfl⟩ := own_is_slice l1
          obtain ⟨y2, z2, q2, rfl⟩ := own_is_slice l2
          obtain ⟨vs, ho, hi1, hd1, hv1⟩ := RR.out.1
          rw [HTK.out] at ho hi1
          have ho4 : w'.ownsRow wc.heap.size 32 2 (.slice aV k cV) k vs := World.ownsRow.kept ho (below_grown hB) (by cases (Value.slice aV k cV).ownBlock <;> simp)
          obtain ⟨v', w4, hrun, hown, hgrow, _, hat'⟩ := run_append_own_at (P := Try.prog) w' wc.heap.size 23 23 32 i0 (.agg #[.slice none 0 0, .slice none 0 0]) 2 48 Try.underlying23 hi hz0 hz1 hz2 rfl (by decide) _ k vs ho4 ⟨N, 0, none⟩ 1 1 [.slice y1 z1 q1, .slice y2 z2 q2] rfl (fun j u hu => by
            match j, hu with
            | 0, hu => simp at hu; subst hu; simpa [Addr.add] using hpr.cell0
            | 1, hu => simp at hu; subst hu; simpa [Addr.add] using hpr.cell1
            | j + 2, hu => simp at hu) (fun u hu => by simp at hu; rcases hu with rfl | rfl <;> rfl) (by simp only [maxLen]; omega) (by omega) hR.1.size
          have hne : ∀ b, (Value.slice y1 z1 q1).ownBlock = some b → (Value.slice y2 z2 q2).ownBlock ≠ some b := by
            intro b q1' q2'
            rcases l1.shape with ⟨_, e0⟩ | ⟨g1, c1', e1', _⟩
            · have := CE.out.2.2.2.2.2.2.2.2.2.1.1
              rw [e0] at this
              simp at this
            · rcases l2.shape with ⟨_, e0⟩ | ⟨g2, c2', e2', _⟩
              · have := CE.out.2.2.2.2.2.2.2.2.2.2.1
                rw [e0] at this
                simp at this
              · rw [e1'] at q1' l1
                rw [e2'] at q2' l2
                simp only [Value.ownBlock, Option.some.injEq] at q1' q2'
                subst q1'
                subst q2'
                have r1 := World.ownsRow.cellAt l1 0 (by simpa using CE.out.2.2.2.2.2.2.2.2.2.1.1)
                have r2 := World.ownsRow.cellAt l2 0 (by simpa using CE.out.2.2.2.2.2.2.2.2.2.2.1)
                rw [r1] at r2
                have h1 := CE.out.2.2.2.2.2.2.2.2.2.1.1
                have h2 := CE.out.2.2.2.2.2.2.2.2.2.2.1
                have hne' := NE.out
                rw [List.getD_eq_getElem?_getD, List.getD_eq_getElem?_getD, List.getElem?_eq_getElem h1, List.getElem?_eq_getElem h2] at hne'
                simp only [List.getElem?_map, List.getElem?_eq_getElem h1, List.getElem?_eq_getElem h2, Option.map_some, Option.some.injEq, Value.int.injEq, true_and] at r2
                simp only [Option.getD_some] at hne'
                omega
          have op : OwnPath w' wr.heap.size (.agg #[.slice y1 z1 q1, .slice y2 z2 q2]) p := ⟨_, _, rfl, l1, l2, by
            cases q : (Value.slice y1 z1 q1).ownBlock with
            | none => exact .inl rfl
            | some b => exact .inr (fun q' => hne b q q'.symm), by
            cases q : (Value.slice y2 z2 q2).ownBlock with
            | none => exact .inl rfl
            | some b => exact .inr (fun q' => hne b q'.symm q)⟩
          have GP := GrowP.push0 (w := wr) (w1 := w') (w2 := w') (base := wc.heap.size) (base' := wc.heap.size) (ps := ps.take k) (p := p) (by rw [HTK.out]; exact ho) (by rw [HTK.out]; exact hi1) hd1 hv1 (Nat.le_refl _) hB (op.mono hbs) (fun b hb => .inr (by
            rcases hb with hb | hb
            · exact (World.ownsRow.lt l1 b hb).1
            · exact (World.ownsRow.lt l2 b hb).1)) (Below.refl _ _) hgrow (by rw [HTK.out]; exact hown) hat'
          rw [TK.out] at GP
          have hs : a'.eval (Operand.tmp 32) = .slice aV k cV := e
          have hx : a'.eval (Operand.tmp 48) = .slice (some ⟨N, 0, none⟩) 1 1 := e2
          have HG := Lib.hid GP
          have HR4 := Lib.hid (show RA wc wr D' w4 from ⟨hR.1.grown hgrow hR.1.size (fun b q => (VR.out b q).1), fun q => by rw [hDk'] at q; cases q⟩)
          clear GP hown hat' ho4 ho hi1 hd1 hv1 hdep hcl l1 l2 op hne hpr
          unfold Oper.wp execOp
          simp only [resolve, invoke, builtin, Sem.run_bind, Sem.run_pure, Result.andThen_ok, List.map_toArray, List.map_cons, List.map_nil, hs, hx, hrun]
          exact hK v' w4 HG.out HR4.out hgrow
        case s18 =>
          intro a' w' D D' _ _ hdo _ hR _ hdep K hK
          have hP : GrowP w' wc.heap.size (a'.tmps.getD 49 undef) (ps.take (k + 1)) := hdep 17 (by kernel_rfl)
          obtain ⟨x1, e1⟩ : ∃ x, a'.tmps.getD 49 undef = x := ⟨_, rfl⟩
          rw [e1] at hP
          have e1' := slot_of e1
          have HP := Lib.hid hP
          clear hP e1 hdep
          go_simp
          exact hK x1 _ HP.out (hR.same (World.grownBy.refl _ _) (hdo 17 (by decide))) (TA.refl _)
        case hend =>
          rintro ⟨tm, df⟩ w' D hD hsz hdf hR hrest hgood
          have hdf' : df = [] := hdf
          subst hdf'
          have hP : GrowP w' wc.heap.size (tm.getD 12 undef) (ps.take (k + 1)) := hgood 18 (by decide)
          obtain ⟨x12, e12⟩ : ∃ x, tm.getD 12 undef = x := ⟨_, rfl⟩
          rw [e12] at hP
          have HP := Lib.hid (And.intro hP hR.1)
          have hsz : tm.size = 60 := hsz
          clear hP hR hD
          have e0 : tm.getD 0 undef = .int .i64 n := hrest 0 (by kernel_rfl)
          have e1 : tm.getD 1 undef = .slice (some ⟨bU, oU, none⟩) ps.length cap := hrest 1 (by kernel_rfl)
          have e2 : tm.getD 2 undef = .int .i64 s := hrest 2 (by kernel_rfl)
          have e3 : tm.getD 3 undef = .slice a' rs.length cap' := hrest 3 (by kernel_rfl)
          have e4 : tm.getD 4 undef = undef := hrest 4 (by kernel_rfl)
          have e5 : tm.getD 5 undef = undef := hrest 5 (by kernel_rfl)
          have e6 : tm.getD 6 undef = undef := hrest 6 (by kernel_rfl)
          have e7 : tm.getD 7 undef = undef := hrest 7 (by kernel_rfl)
          have e8 : tm.getD 8 undef = .slice none 0 0 := hrest 8 (by kernel_rfl)
          have e9 : tm.getD 9 undef = .bool false := hrest 9 (by kernel_rfl)
          have e10 : tm.getD 10 undef = .pointer (some ⟨wA.heap.size, 0, none⟩) := hrest 10 (by kernel_rfl)
          have e11 : tm.getD 11 undef = .bool true := hrest 11 (by kernel_rfl)
          have e13 : tm.getD 13 undef = .int .i64 k := hrest 13 (by kernel_rfl)
          have e14 : tm.getD 14 undef = .tuple #[.agg #[.slice b1 n1 c1, .slice b2 n2 c2], .bool true] := hrest 14 (by kernel_rfl)
          have e15 : tm.getD 15 undef = .int .i64 n := hrest 15 (by kernel_rfl)
          have e16 : tm.getD 16 undef = .slice (some ⟨bU, oU, none⟩) ps.length cap := hrest 16 (by kernel_rfl)
          have e17 : tm.getD 17 undef = .int .i64 s := hrest 17 (by kernel_rfl)
          have e18 : tm.getD 18 undef = .slice a' rs.length cap' := hrest 18 (by kernel_rfl)
          have e19 : tm.getD 19 undef = .tuple #[.agg #[.slice b1 n1 c1, .slice b2 n2 c2], .bool true] := hrest 19 (by kernel_rfl)
          have e20 : tm.getD 20 undef = .agg #[.slice b1 n1 c1, .slice b2 n2 c2] := hrest 20 (by kernel_rfl)
          have e21 : tm.getD 21 undef = .bool true := hrest 21 (by kernel_rfl)
          have e22 : tm.getD 22 undef = .bool true := hrest 22 (by kernel_rfl)
          have e23 : tm.getD 23 undef = .bool false := hrest 23 (by kernel_rfl)
          have e24 : tm.getD 24 undef = undef := hrest 24 (by kernel_rfl)
          have e25 : tm.getD 25 undef = .slice (some ⟨wc.heap.size, 0, none⟩) 0 0 := hrest 25 (by kernel_rfl)
          have e26 : tm.getD 26 undef = .int .i64 k := hrest 26 (by kernel_rfl)
          have e27 : tm.getD 27 undef = .slice (some ⟨bU, oU, none⟩) ps.length cap := hrest 27 (by kernel_rfl)
          have e28 : tm.getD 28 undef = .int .i64 ps.length := hrest 28 (by kernel_rfl)
          have e29 : tm.getD 29 undef = .bool true := hrest 29 (by kernel_rfl)
          have e30 : tm.getD 30 undef = u30 := hrest 30 (by kernel_rfl)
          have e31 : tm.getD 31 undef = u31 := hrest 31 (by kernel_rfl)
          have e50 : tm.getD 50 undef = undef := hrest 50 (by kernel_rfl)
          have e51 : tm.getD 51 undef = undef := hrest 51 (by kernel_rfl)
          have e52 : tm.getD 52 undef = undef := hrest 52 (by kernel_rfl)
          have e53 : tm.getD 53 undef = undef := hrest 53 (by kernel_rfl)
          have e54 : tm.getD 54 undef = undef := hrest 54 (by kernel_rfl)
          have e55 : tm.getD 55 undef = undef := hrest 55 (by kernel_rfl)
          have e56 : tm.getD 56 undef = undef := hrest 56 (by kernel_rfl)
          have e57 : tm.getD 57 undef = undef := hrest 57 (by kernel_rfl)
          have e58 : tm.getD 58 undef = undef := hrest 58 (by kernel_rfl)
          have e59 : tm.getD 59 undef = undef := hrest 59 (by kernel_rfl)
          clear hrest hgood
          have htm := frame_of tm 60 hsz
          simp only [show List.range 60 = [0, 1, 2, 3, 4, 5, 6, 7, 8, 9, 10, 11, 12, 13, 14, 15, 16, 17, 18, 19, 20, 21, 22, 23, 24, 25, 26, 27, 28, 29, 30, 31, 32, 33, 34, 35, 36, 37, 38, 39, 40, 41, 42, 43, 44, 45, 46, 47, 48, 49, 50, 51, 52, 53, 54, 55, 56, 57, 58, 59] from rfl, List.map] at htm
          rw [e0] at htm
          rw [e1] at htm
          rw [e2] at htm
          rw [e3] at htm
          rw [e4] at htm
          rw [e5] at htm
          rw [e6] at htm
          rw [e7] at htm
          rw [e8] at htm
          rw [e9] at htm
          rw [e10] at htm
          rw [e11] at htm
          rw [e13] at htm
          rw [e14] at htm
          rw [e15] at htm
          rw [e16] at htm
          rw [e17] at htm
          rw [e18] at htm
          rw [e19] at htm
          rw [e20] at htm
          rw [e21] at htm
          rw [e22] at htm
          rw [e23] at htm
          rw [e24] at htm
          rw [e25] at htm
          rw [e26] at htm
          rw [e27] at htm
          rw [e28] at htm
          rw [e29] at htm
          rw [e30] at htm
          rw [e31] at htm
          rw [e50] at htm
          rw [e51] at htm
          rw [e52] at htm
          rw [e53] at htm
          rw [e54] at htm
          rw [e55] at htm
          rw [e56] at htm
          rw [e57] at htm
          rw [e58] at htm
          rw [e59] at htm
          rw [e12] at htm
          generalize tm.getD 32 undef = x32 at htm
          generalize tm.getD 33 undef = x33 at htm
          generalize tm.getD 34 undef = x34 at htm
          generalize tm.getD 35 undef = x35 at htm
          generalize tm.getD 36 undef = x36 at htm
          generalize tm.getD 37 undef = x37 at htm
          generalize tm.getD 38 undef = x38 at htm
          generalize tm.getD 39 undef = x39 at htm
          generalize tm.getD 40 undef = x40 at htm
          generalize tm.getD 41 undef = x41 at htm
          generalize tm.getD 42 undef = x42 at htm
          generalize tm.getD 43 undef = x43 at htm
          generalize tm.getD 44 undef = x44 at htm
          generalize tm.getD 45 undef = x45 at htm
          generalize tm.getD 46 undef = x46 at htm
          generalize tm.getD 47 undef = x47 at htm
          generalize tm.getD 48 undef = x48 at htm
          generalize tm.getD 49 undef = x49 at htm
          clear e0 e1 e2 e3 e4 e5 e6 e7 e8 e9 e10 e11 e13 e14 e15 e16 e17 e18 e19 e20 e21 e22 e23 e24 e25 e26 e27 e28 e29 e30 e31 e50 e51 e52 e53 e54 e55 e56 e57 e58 e59 e12 hdf
          subst htm
          go_wp2_with fail
          go_roundw
          case rel => exact ⟨k + 1, by omega, by go_num, HP.out⟩
          case measure => simp [intOf]; omega
      · obtain rfl : k = ps.length := by omega
        obtain ⟨aV, cV, rfl⟩ := RR.out.1.shape
        have HTK := Lib.hid (show (ps.take ps.length).length = ps.length by rw [List.length_take]; omega)
        rw [HTK.out] at RR ⊢
        have k0 := (PF.out.below RR.out.2).cell0
        have k1 := (PF.out.below RR.out.2).cell1
        have hks : wc.heap.size ≤ wr.heap.size := RR.out.2.size
        have hws : w.heap.size ≤ wc.heap.size := BF.out.size
        have OW := Lib.hid (OF.out.below RR.out.2)
        obtain ⟨vs, ho, hi1, hd1, hv1⟩ := RR.out.1
        rw [HTK.out] at ho hi1
        have KD := Lib.hid (And.intro hi1 (And.intro hd1 hv1))
        have HO := Lib.hid ho
        have hki : decide ((ps.length : Int) < (ps.length : Int)) = false := by simp
        clear hi1 hd1 hv1
        go_wp2_with (at_builtin; refine wpList_append_own_at _ rfl _ _ 23 rfl wc.heap.size 32 i0 (.agg #[.slice none 0 0, .slice none 0 0]) 2 48 Try.underlying23 hi hz0 hz1 hz2 rfl (by decide) _ ps.length vs rfl (ho.alloc _) ⟨wr.heap.size, 0, none⟩ 1 1 [.slice b1 n1 c1, .slice b2 n2 c2] rfl rfl ?d1 ?d2 ?d3 ?d4 ?d5 ?_)
        case d1 => exact cell_two_new _ _ _ _
        case d2 => intro u hu; simp at hu; rcases hu with rfl | rfl <;> rfl
        case d3 => simp only [maxLen]; omega
        case d4 => omega
        case d5 => rw [Go.Deep.nblk_alloc]; omega
        intro v' w5 hown hgrow _ hat'
        have GP := GrowP.push (w := wr) (w1 := wr) (base := wc.heap.size) (base' := w.heap.size) (ps := ps.take ps.length) (p := fp) (by rw [HTK.out]; exact HO.out) (by rw [HTK.out]; exact KD.out.1) KD.out.2.1 KD.out.2.2 hws (Below.refl _ _) OW.out (fun b hb => .inl (by
          obtain ⟨x1, x2, e, j1, j2⟩ := IF.out
          simp only [Value.agg.injEq, Array.mk.injEq, List.cons.injEq, and_true] at e
          obtain ⟨rfl, rfl⟩ := e
          rcases hb with hb | hb
          · exact (j1 b hb).2
          · exact (j2 b hb).2)) rfl hgrow (by rw [HTK.out]; exact hown) (by first | exact hat' | (rw [Go.Deep.nblk_alloc]; exact hat'))
        rw [List.take_length, FV.out] at GP
        have BL := Lib.hid (BF.out.trans (((RR.out.2.alloc hks (.cells #[.slice b1 n1 c1, .slice b2 n2 c2] 32)).grown hgrow (by rw [Go.Deep.nblk_alloc]; omega) (fun c hc => (World.ownsRow.lt ho c hc).1)).mono hws))
        have hfl := fitPath_len n ps s rs rs.length
        have PS := Lib.hid (specPaths (n := n) (GP.paths (by simp; omega) (fun i hi => by
          rw [List.length_append] at hi
          simp only [List.length_cons, List.length_nil] at hi
          by_cases e : i = ps.length
          · rw [e, add_last]
            rw [hfl.1, hfl.2]
            have := (fitB_is HFB.out.symm).2.1
            have := (fitB_is HFB.out.symm).1
            omega
          · rw [add_getD _ _ (by omega)]
            obtain ⟨⟨q1, q2⟩, q3, q4, _⟩ := pathB_is (pathsB_at HP.out (i := i) (by omega))
            omega)))
        rw [AP.out] at PS
        have GG := Lib.hid GP
        obtain ⟨av', cv', rfl⟩ : ∃ a c, v' = .slice a (ps.length + 1) c := by
          rcases hown.2 with ⟨e, h0⟩ | ⟨g, c, cur, e, _⟩
          · exact ⟨none, 0, by rw [e, h0]⟩
          · exact ⟨_, _, e⟩
        clear GP hown hgrow hat' ho k0 k1 hfl
        go_wp2_with (go_at_call 31; refine PS.out.mono ?_)
        rintro e w6 ⟨rfl, b6⟩
        have B6 := BL.out.trans (b6.mono BL.out.size)
        by_cases h8 : ps.length < 8
        · have HY := Lib.hid (show addB n ps s rs = true by unfold addB; rw [← HFB.out, decide_eq_true h8]; rfl)
          have hd8 : decide (ps.length < 8) = true := decide_eq_true h8
          have G6 := Lib.hid (GG.out.below b6)
          go_wp2_with fail
          go_ret2
          exact made_add G6.out B6 (addV_yes HY.out).symm HY.out.symm
        · have HN := Lib.hid (show addB n ps s rs = false by unfold addB; rw [← HFB.out, decide_eq_false h8]; rfl)
          have hd8 : decide (ps.length < 8) = false := decide_eq_false h8
          go_wp2_with fail
          go_ret2
          exact made_add ((GrowP.empty _).mono B6.size) (B6.alloc B6.size _) (addV_no HN.out).symm HN.out.symm

end Go.Proofs.Ytoebgdcgcdigaab
