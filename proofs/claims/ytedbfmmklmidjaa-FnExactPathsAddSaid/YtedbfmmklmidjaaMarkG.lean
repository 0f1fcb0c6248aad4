/-
  The marking of a list of paths of the call's own, in full: what lies in each list behind it, and the look at the marks. For lists of at most 64 paths, each list in them of at most 1000 integers.
-/
import Derived.Test.YtedbfmmklmidjaaGrowP
import Derived.Test.YtedbfmmklmidjaaPathsM
import Derived.Test.YtedbfmmklmidjaaPathsV
namespace Go.Proofs.Ytedbfmmklmidjaa
open Go.RowKit Go.Sort

/-- How many integers the first j paths have. -/
def offs (ps : List (List Int × List Int)) : Nat → Nat
  | 0 => 0
  | j + 1 => offs ps j + (ps.getD j noPath).1.length + (ps.getD j noPath).2.length
def mk1 (k : Int) (ps : List (List Int × List Int)) (i : Nat) : List Int := marks (k + offs ps i) (ps.getD i noPath).1.length
def mk2 (k : Int) (ps : List (List Int × List Int)) (i : Nat) : List Int := marks (k + offs ps i + (ps.getD i noPath).1.length) (ps.getD i noPath).2.length
/-- The first j paths are marked, and of the next one the first list, if t. -/
def mix (k : Int) (ps : List (List Int × List Int)) (j : Nat) (t : Bool) : List (List Int × List Int) := (List.range ps.length).map fun i => if i < j then (mk1 k ps i, mk2 k ps i) else if i = j ∧ t = true then (mk1 k ps i, (ps.getD i noPath).2) else ps.getD i noPath
theorem mix_length (k : Int) (ps : List (List Int × List Int)) (j : Nat) (t : Bool) : (mix k ps j t).length = ps.length := by simp [mix]
theorem mix_at {k : Int} {ps : List (List Int × List Int)} {j i : Nat} {t : Bool} (h : i < ps.length) : (mix k ps j t).getD i noPath = if i < j then (mk1 k ps i, mk2 k ps i) else if i = j ∧ t = true then (mk1 k ps i, (ps.getD i noPath).2) else ps.getD i noPath := by
  unfold mix
  rw [List.getD_eq_getElem?_getD, List.getElem?_map, List.getElem?_range h]
  rfl
theorem mix_start (k : Int) (ps : List (List Int × List Int)) : mix k ps 0 false = ps := by
  apply List.ext_getElem?
  intro i
  by_cases h : i < ps.length
  · simp [mix, h]
  · rw [List.getElem?_eq_none (by rw [mix_length]; omega), List.getElem?_eq_none (by omega)]
/-- The marked paths. -/
def mkd (k : Int) (ps : List (List Int × List Int)) : List (List Int × List Int) := mix k ps ps.length false
theorem mkd_at {k : Int} {ps : List (List Int × List Int)} {i : Nat} (h : i < ps.length) : (mkd k ps).getD i noPath = (mk1 k ps i, mk2 k ps i) := by
  unfold mkd
  rw [mix_at h, if_pos h]
theorem mkd_offs (k : Int) (ps : List (List Int × List Int)) : ∀ j, j ≤ ps.length → offs (mkd k ps) j = offs ps j
  | 0, _ => rfl
  | j + 1, h => by
    simp only [offs]
    rw [mkd_offs k ps j (by omega), mkd_at (by omega)]
    simp [mk1, mk2, marks_length]
theorem offs_small {ps : List (List Int × List Int)} (hl : ∀ i, i < ps.length → (ps.getD i noPath).1.length ≤ 1000 ∧ (ps.getD i noPath).2.length ≤ 1000) : ∀ j, j ≤ ps.length → offs ps j ≤ 2000 * j
  | 0, _ => by simp [offs]
  | j + 1, h => by
    have := offs_small hl j (by omega)
    have := hl j (by omega)
    simp only [offs]
    omega

/-- A list of paths of the call's own, with what its cells hold, and all its blocks from base up to top. -/
structure GrowV (w : World) (base top : Nat) (v : Value) (vs : List Value) (ps : List (List Int × List Int)) : Prop where
  row : w.ownsRow base 40 2 v ps.length vs
  lists : ∀ i, i < ps.length → OwnI w base (vs.getD (i * 2) undef) (ps.getD i noPath).1 ∧ OwnI w base (vs.getD (i * 2 + 1) undef) (ps.getD i noPath).2
  apart : ∀ i j, i < j → j < vs.length → (vs.getD i undef).ownBlock = none ∨ (vs.getD i undef).ownBlock ≠ (vs.getD j undef).ownBlock
  off : ∀ i, i < vs.length → (vs.getD i undef).ownBlock = none ∨ (vs.getD i undef).ownBlock ≠ v.ownBlock
  tops : (∀ b, v.ownBlock = some b → b < top) ∧ ∀ i, i < vs.length → ∀ b, (vs.getD i undef).ownBlock = some b → b < top
theorem GrowP.toV {w : World} {base : Nat} {v : Value} {ps : List (List Int × List Int)} (h : GrowP w base v ps) : ∃ vs, GrowV w base w.heap.size v vs ps := by
  obtain ⟨vs, ho, hi, hd, hv⟩ := h
  have hlen : vs.length = ps.length * 2 := ho.1
  refine ⟨vs, ho, hi, hd, hv, fun b e => (World.ownsRow.lt ho b e).2, fun i hil b e => ?_⟩
  rcases Nat.mod_two_eq_zero_or_one i with q | q
  · obtain ⟨m, rfl⟩ : ∃ m, i = m * 2 := ⟨i / 2, by omega⟩
    exact (World.ownsRow.lt (hi m (by omega)).1 b e).2
  · obtain ⟨m, rfl⟩ : ∃ m, i = m * 2 + 1 := ⟨i / 2, by omega⟩
    exact (World.ownsRow.lt (hi m (by omega)).2 b e).2
theorem GrowV.toP {w : World} {base top : Nat} {v : Value} {vs : List Value} {ps : List (List Int × List Int)} (h : GrowV w base top v vs ps) : GrowP w base v ps := ⟨vs, h.row, h.lists, h.apart, h.off⟩
theorem GrowV.len {w : World} {base top : Nat} {v : Value} {vs : List Value} {ps : List (List Int × List Int)} (h : GrowV w base top v vs ps) : vs.length = ps.length * 2 := h.row.1
theorem GrowV.below {w w' : World} {base top : Nat} {v : Value} {vs : List Value} {ps : List (List Int × List Int)} (h : GrowV w base top v vs ps) (hb : Below w.heap.size w w') : GrowV w' base top v vs ps :=
  ⟨World.ownsRow.kept h.row (below_grown hb) (by cases v.ownBlock <;> simp), fun i hik => ⟨(h.lists i hik).1.below hb, (h.lists i hik).2.below hb⟩, h.apart, h.off, h.tops⟩
/-- A row that lies in another block stands. -/
theorem ownsRow_keptIn {w w' : World} {base lo hi : Nat} {e : TypeId} {size n : Nat} {v : Value} {xs : List Value} (h : w.ownsRow base e size v n xs) (g : GrownIn w w' lo hi) (hv : ∀ b, v.ownBlock = some b → b < lo ∨ hi ≤ b) : w'.ownsRow base e size v n xs := by
  refine ⟨h.1, ?_⟩
  rcases h.2 with h0 | ⟨b, cap, cur, rfl, hb, hg, hr⟩
  · exact .inl h0
  · exact .inr ⟨b, cap, cur, rfl, hb, (g.block b (Array.getElem?_eq_some_iff.1 hg).1 (hv b rfl)).trans hg, hr⟩
theorem GrowV.keptIn {w w' : World} {base top lo hi : Nat} {v : Value} {vs : List Value} {ps : List (List Int × List Int)} (h : GrowV w base top v vs ps) (g : GrownIn w w' lo hi) (ho : top ≤ lo ∨ hi ≤ base) : GrowV w' base top v vs ps := by
  have hl := h.len
  refine ⟨ownsRow_keptIn h.row g (fun b e => by have := h.tops.1 b e; have := (World.ownsRow.lt h.row b e).1; omega), fun i hik => ⟨(h.lists i hik).1.keptIn g (fun b e => ?_), (h.lists i hik).2.keptIn g (fun b e => ?_)⟩, h.apart, h.off, h.tops⟩
  · have := h.tops.2 (i * 2) (by omega) b e
    have := (World.ownsRow.lt (h.lists i hik).1 b e).1
    omega
  · have := h.tops.2 (i * 2 + 1) (by omega) b e
    have := (World.ownsRow.lt (h.lists i hik).2 b e).1
    omega
theorem GrowV.ne {w : World} {base top : Nat} {v : Value} {vs : List Value} {ps : List (List Int × List Int)} (h : GrowV w base top v vs ps) {i j : Nat} (hij : i ≠ j) (hi : i < vs.length) (hj : j < vs.length) : (vs.getD i undef).ownBlock = none ∨ (vs.getD i undef).ownBlock ≠ (vs.getD j undef).ownBlock := by
  rcases Nat.lt_or_gt_of_ne hij with e | e
  · exact h.apart i j e hj
  · rcases h.apart j i e hi with q | q
    · cases e2 : (vs.getD i undef).ownBlock with
      | none => exact .inl rfl
      | some b => rw [q]; exact .inr (by simp)
    · exact .inr (fun e => q e.symm)
theorem GrowV.offV {w : World} {base top : Nat} {v : Value} {vs : List Value} {ps : List (List Int × List Int)} (h : GrowV w base top v vs ps) {i : Nat} (hi : i < vs.length) : v.ownBlock = none ∨ v.ownBlock ≠ (vs.getD i undef).ownBlock := by
  rcases h.off i hi with q | q
  · cases e2 : v.ownBlock with
    | none => exact .inl rfl
    | some b => rw [q]; exact .inr (by simp)
  · exact .inr (fun e => q e.symm)
/-- One list of a path is written. -/
theorem GrowV.write {w w' : World} {base top : Nat} {v : Value} {vs : List Value} {ps qs : List (List Int × List Int)} (h : GrowV w base top v vs ps) {c : Nat} (hc : c < vs.length) (hg : w.grownBy w' (vs.getD c undef).ownBlock) (hl : qs.length = ps.length)
    (hs : ∀ i, i < ps.length → (i * 2 ≠ c → (qs.getD i noPath).1 = (ps.getD i noPath).1) ∧ (i * 2 + 1 ≠ c → (qs.getD i noPath).2 = (ps.getD i noPath).2)) (hn : ∀ i, i < ps.length → (i * 2 = c → OwnI w' base (vs.getD c undef) (qs.getD i noPath).1) ∧ (i * 2 + 1 = c → OwnI w' base (vs.getD c undef) (qs.getD i noPath).2)) : GrowV w' base top v vs qs := by
  have hlen := h.len
  refine ⟨by rw [hl]; exact World.ownsRow.kept h.row hg (h.offV hc), fun i hik => ?_, h.apart, h.off, h.tops⟩
  rw [hl] at hik
  constructor
  · by_cases e : i * 2 = c
    · subst e; exact (hn i hik).1 rfl
    · rw [(hs i hik).1 e]; exact (h.lists i hik).1.kept hg (h.ne e (by omega) hc)
  · by_cases e : i * 2 + 1 = c
    · subst e; exact (hn i hik).2 rfl
    · rw [(hs i hik).2 e]; exact (h.lists i hik).2.kept hg (h.ne e (by omega) hc)

set_option maxHeartbeats 2000000 in
theorem markGrow {w : World} {base top : Nat} {v : Value} {vs : List Value} {ps : List (List Int × List Int)} {k : Int} (h : GrowV w base top v vs ps) (hl : ps.length ≤ 64) (hll : ∀ i, i < ps.length → (ps.getD i noPath).1.length ≤ 1000 ∧ (ps.getD i noPath).2.length ≤ 1000) (hk0 : 0 ≤ k) (hk : k ≤ 1048576) :
    Calls Try.prog 22 #[v, .int .i64 k] w fun e w' => e = .returned (.int .i64 (k + offs ps ps.length)) ∧ GrowV w' base top v vs (mkd k ps) ∧ GrownIn w w' base top := by
  have hl' : (ps.length : Int) ≤ 64 := by omega
  have HV := Lib.hid h
  have HLL := Lib.hid hll
  obtain ⟨a, cap, rfl⟩ : ∃ a c, v = .slice a ps.length c := by
    rcases h.row.2 with ⟨e, h0⟩ | ⟨g, c, cur, e, _⟩
    · exact ⟨none, 0, by rw [e, h0]⟩
    · exact ⟨_, c, e⟩
  clear h hll
  go_enter Try.func22, Try.ntmps22
  go_wp2_with fail
  go_loopw [1, 5] (fun q i wr => ∃ j : Nat, j ≤ ps.length ∧ i = .int .i64 j ∧ q = .int .i64 (k + offs ps j) ∧ Hid (GrowV wr base top (.slice a ps.length cap) vs (mix k ps j false) ∧ GrownIn w wr base top)) (fun _ i _ => ps.length - (intOf i).toNat)
  case atStart => exact ⟨0, by omega, rfl, by simp [offs], by rw [mix_start]; exact HV.out, GrownIn.refl _ _ _⟩
  case round =>
    obtain ⟨j, hj, rfl, rfl, RR⟩ := hrel
    by_cases hlt : j < ps.length
    · have hji : (j : Int) < (ps.length : Int) := by omega
      have hj0 : (0 : Int) ≤ j := by omega
      have hvl : vs.length = ps.length * 2 := by have := RR.out.1.len; rw [mix_length] at this; exact this
      have hoj := offs_small HLL.out j (by omega)
      have hlj := HLL.out j hlt
      obtain ⟨g, rfl⟩ : ∃ g, a = some ⟨g, 0, none⟩ := by
        rcases RR.out.1.row.2 with ⟨e, h0⟩ | ⟨g, c, cur, e, _⟩
        · rw [mix_length] at h0; omega
        · simp only [Value.slice.injEq] at e; exact ⟨g, e.1⟩
      obtain ⟨of, hof⟩ : ∃ x : Int, x = k + offs ps j := ⟨_, rfl⟩
      have hof0 : 0 ≤ of := by omega
      have hof1 : of ≤ 1300000 := by omega
      have hmx := mix_at (k := k) (j := j) (t := false) hlt
      rw [if_neg (by omega), if_neg (by simp)] at hmx
      have hmxl := mix_length k ps j false
      obtain ⟨u1, hu1⟩ : ∃ u, u = vs.getD (j * 2) undef := ⟨_, rfl⟩
      obtain ⟨u2, hu2⟩ : ∃ u, u = vs.getD (j * 2 + 1) undef := ⟨_, rfl⟩
      have o1 := (RR.out.1.lists j (by rw [hmxl]; exact hlt)).1
      rw [hmx, ← hu1] at o1
      have c1 : wr.cell? ⟨g, j * 2, none⟩ = some u1 := by
        have hr : wr.ownsRow base 40 2 (.slice (some ⟨g, 0, none⟩) ps.length cap) ps.length vs := by have := RR.out.1.row; rw [mix_length] at this; exact this
        rw [World.ownsRow.cellAt hr (j * 2) (by omega), hu1, List.getD_eq_getElem?_getD, List.getElem?_eq_getElem (by omega)]
        rfl
      have HU := Lib.hid (And.intro hu1 (And.intro hu2 (And.intro hof hmx)))
      have HX := Lib.hid (And.intro hvl hmxl)
      have MI := Lib.hid (markInts (k := of) o1 (by omega) (by omega) (by omega))
      rw [← hof]
      clear hu1 hu2 hof hmx hmxl hvl o1
      go_wp2_with (go_at_call 23; refine MI.out.mono ?_)
      rintro e w1 ⟨rfl, o2, g2⟩
      have V1 : GrowV w1 base top (.slice (some ⟨g, 0, none⟩) ps.length cap) vs (mix k ps j true) := by
        have hc : j * 2 < vs.length := by have := HX.out.1; omega
        refine RR.out.1.write hc (by rw [← HU.out.1]; exact g2) (by rw [mix_length, mix_length]) (fun i hik => ?_) (fun i hik => ?_)
        · rw [HX.out.2] at hik
          rw [mix_at hik, mix_at hik]
          by_cases e1 : i < j
          · simp [e1]
          · by_cases e2 : i = j
            · subst e2; simp
            · simp [e1, e2]
        · rw [HX.out.2] at hik
          rw [mix_at hik]
          refine ⟨fun e => ?_, fun e => by omega⟩
          have : i = j := by omega
          subst this
          rw [← HU.out.1]
          rw [HU.out.2.2.1] at o2
          simpa [mk1] using o2
      have hG2 : GrownIn w w1 base top := RR.out.2.step g2 (fun b e => ⟨(World.ownsRow.lt (show OwnI w1 base u1 _ from o2) b e).1, RR.out.1.tops.2 (j * 2) (by have := HX.out.1; omega) b (by rw [← HU.out.1]; exact e)⟩)
      have hmx2 := mix_at (k := k) (j := j) (t := true) hlt
      rw [if_neg (by omega), if_pos ⟨rfl, rfl⟩] at hmx2
      have o3 := (V1.lists j (by rw [mix_length]; exact hlt)).2
      rw [hmx2, ← HU.out.2.1] at o3
      have c2 : w1.cell? ⟨g, j * 2 + 1, none⟩ = some u2 := by
        have hr : w1.ownsRow base 40 2 (.slice (some ⟨g, 0, none⟩) ps.length cap) ps.length vs := by have := V1.row; rw [mix_length] at this; exact this
        have hvl := HX.out.1
        rw [World.ownsRow.cellAt hr (j * 2 + 1) (by omega), HU.out.2.1, List.getD_eq_getElem?_getD, List.getElem?_eq_getElem (by have := HX.out.1; omega)]
        rfl
      have MI2 := Lib.hid (markInts (k := of + ((ps.getD j noPath).1.length : Int)) o3 (by simp only; omega) (by omega) (by omega))
      have HV1 := Lib.hid (And.intro V1 hG2)
      obtain ⟨l1, hl1⟩ : ∃ l, l = (ps.getD j noPath).1.length := ⟨_, rfl⟩
      obtain ⟨l2, hl2⟩ : ∃ l, l = (ps.getD j noPath).2.length := ⟨_, rfl⟩
      rw [← hl1, ← hl2] at hlj
      rw [← hl1] at MI2 ⊢
      have HLJ := Lib.hid (And.intro hl1 hl2)
      have hz1 : 0 ≤ of + (l1 : Int) := by omega
      have hz2 : of + (l1 : Int) ≤ 1310000 := by omega
      have hb1 := hlj.1
      have hb2 := hlj.2
      clear V1 hG2 o2 o3 g2 c1 hmx2 hl1 hl2 hlj
      go_wp2_with (go_at_call 23; refine MI2.out.mono ?_)
      rintro e w2 ⟨rfl, o4, g4⟩
      have V2 : GrowV w2 base top (.slice (some ⟨g, 0, none⟩) ps.length cap) vs (mix k ps (j + 1) false) := by
        have hc : j * 2 + 1 < vs.length := by have := HX.out.1; omega
        refine HV1.out.1.write hc (by rw [← HU.out.2.1]; exact g4) (by rw [mix_length, mix_length]) (fun i hik => ?_) (fun i hik => ?_)
        · rw [mix_length] at hik
          rw [mix_at hik, mix_at hik]
          by_cases e1 : i < j
          · simp [e1, show i < j + 1 by omega]
          · by_cases e2 : i = j
            · subst e2; simp
            · simp [e1, e2, show ¬ i < j + 1 by omega]
        · rw [mix_length] at hik
          rw [mix_at hik]
          refine ⟨fun e => by omega, fun e => ?_⟩
          have : i = j := by omega
          subst this
          rw [← HU.out.2.1]
          rw [HU.out.2.2.1, HLJ.out.1] at o4
          simpa [mk2] using o4
      have hG4 : GrownIn w w2 base top := HV1.out.2.step g4 (fun b e => ⟨(World.ownsRow.lt (show OwnI w2 base u2 _ from o4) b e).1, HV1.out.1.tops.2 (j * 2 + 1) (by have := HX.out.1; omega) b (by rw [← HU.out.2.1]; exact e)⟩)
      have OE := Lib.hid (show of + (l1 : Int) + (l2 : Int) = k + offs ps (j + 1) by rw [HU.out.2.2.1, HLJ.out.1, HLJ.out.2]; simp only [offs]; omega)
      have HV2 := Lib.hid (And.intro V2 hG4)
      have hl2e := HLJ.out.2
      rw [← hl2e]
      clear V2 hG4 o4 g4 c2 hl2e
      go_wp2_with fail
      go_roundw
      case rel => exact ⟨j + 1, by omega, by go_num, by rw [OE.out], HV2.out⟩
      case measure => simp [intOf]; omega
    · obtain rfl : j = ps.length := by omega
      have ht : decide ((ps.length : Int) < (ps.length : Int)) = false := by simp
      go_wp2_with fail
      go_ret
      exact ⟨rfl, RR.out.1, RR.out.2⟩

/-- The marks are there. -/
def HasMarks (k : Int) (ps : List (List Int × List Int)) : Prop := ∀ i, i < ps.length → (∀ q, q < (ps.getD i noPath).1.length → (ps.getD i noPath).1.getD q 0 = k + offs ps i + q) ∧ ∀ q, q < (ps.getD i noPath).2.length → (ps.getD i noPath).2.getD q 0 = k + offs ps i + (ps.getD i noPath).1.length + q
theorem mkd_marks (k : Int) (ps : List (List Int × List Int)) : HasMarks k (mkd k ps) := by
  intro i hi
  have hi' : i < ps.length := by simpa [mkd, mix_length] using hi
  rw [mkd_at hi', mkd_offs k ps i (by omega)]
  simp only [mk1, mk2, marks_length]
  exact ⟨fun q hq => marks_getD _ _ _ hq, fun q hq => marks_getD _ _ _ hq⟩
theorem mkd_length (k : Int) (ps : List (List Int × List Int)) : (mkd k ps).length = ps.length := mix_length _ _ _ _
theorem mkd_lens {k : Int} {ps : List (List Int × List Int)} (hll : ∀ i, i < ps.length → (ps.getD i noPath).1.length ≤ 1000 ∧ (ps.getD i noPath).2.length ≤ 1000) : ∀ i, i < (mkd k ps).length → ((mkd k ps).getD i noPath).1.length ≤ 1000 ∧ ((mkd k ps).getD i noPath).2.length ≤ 1000 := by
  intro i hi
  rw [mkd_length] at hi
  rw [mkd_at hi]
  simp only [mk1, mk2, marks_length]
  exact hll i hi

set_option maxHeartbeats 2000000 in
theorem heldPaths {w : World} {v : Value} {ps : List (List Int × List Int)} {k : Int} (h : Paths w v ps) (hl : ps.length ≤ 64) (hll : ∀ i, i < ps.length → (ps.getD i noPath).1.length ≤ 1000 ∧ (ps.getD i noPath).2.length ≤ 1000) (hm : HasMarks k ps) (hk0 : 0 ≤ k) (hk : k ≤ 1048576) :
    Calls Try.prog 24 #[v, .int .i64 k] w fun e w' => e = .returned (.int .i64 (k + offs ps ps.length)) ∧ w = w' := by
  have hl' : (ps.length : Int) ≤ 64 := by omega
  have HM := Lib.hid hm
  have HLL := Lib.hid hll
  have HH := Lib.hid (fun (i : Nat) (hi : i < ps.length) (a : Option Addr) (m cap : Nat) (e : v = .slice a m cap) => paths_at (e ▸ h) hi)
  obtain ⟨a, cap, rfl, _, _⟩ := h
  clear hll hm
  go_enter Try.func24, Try.ntmps24
  go_wp2_with fail
  go_loop [1, 5] (fun q i => ∃ j : Nat, j ≤ ps.length ∧ i = .int .i64 j ∧ q = .int .i64 (k + offs ps j)) (fun _ i => ps.length - (intOf i).toNat)
  case atStart => exact ⟨0, by omega, rfl, by simp [offs]⟩
  case round =>
    obtain ⟨j, hj, rfl, rfl⟩ := hrel
    by_cases hlt : j < ps.length
    · have hji : (j : Int) < (ps.length : Int) := by omega
      have hj0 : (0 : Int) ≤ j := by omega
      have hoj := offs_small HLL.out j (by omega)
      have hlj := HLL.out j hlt
      obtain ⟨b, o, rfl, hb, hat⟩ := HH.out j hlt a ps.length cap rfl
      obtain ⟨u1, u2, c1, c2, _, i1, i2⟩ := hat j hlt
      obtain ⟨of, hof⟩ : ∃ x : Int, x = k + offs ps j := ⟨_, rfl⟩
      have hof0 : 0 ≤ of := by omega
      have hof1 : of ≤ 1300000 := by omega
      have H1 := Lib.hid (heldInts (k := of) i1 (by rw [hof]; exact (HM.out j hlt).1) (by omega) (by omega))
      have H2 := Lib.hid (heldInts (k := of + ((ps.getD j noPath).1.length : Int)) i2 (by rw [hof]; exact (HM.out j hlt).2) (by omega) (by omega))
      obtain ⟨l1, hl1⟩ : ∃ l, l = (ps.getD j noPath).1.length := ⟨_, rfl⟩
      obtain ⟨l2, hl2⟩ : ∃ l, l = (ps.getD j noPath).2.length := ⟨_, rfl⟩
      rw [← hl1, ← hl2] at hlj
      rw [← hl1] at H1 H2
      rw [← hl2] at H2
      have hb1 := hlj.1
      have hb2 := hlj.2
      have OE := Lib.hid (show of + (l1 : Int) + (l2 : Int) = k + offs ps (j + 1) by rw [hof, hl1, hl2]; simp only [offs]; omega)
      have t1 : decide (of + (l1 : Int) < 0) = false := by simp; omega
      have t2 : decide (of + (l1 : Int) + (l2 : Int) < 0) = false := by simp; omega
      rw [← hof]
      clear hof hl1 hl2 i1 i2 hat hlj
      go_wp2_with (go_at_call_of 67 (Value.int .i64 of); refine H1.out.mono ?_; rintro e w' ⟨rfl, rfl⟩)
      go_wp2_with (go_at_call 67; refine H2.out.mono ?_; rintro e w' ⟨rfl, rfl⟩)
      go_round
      case rel => exact ⟨j + 1, by omega, by go_num, by rw [OE.out]⟩
      case measure => simp [intOf]; omega
    · obtain rfl : j = ps.length := by omega
      have ht : decide ((ps.length : Int) < (ps.length : Int)) = false := by simp
      go_wp2_with fail
      go_ret
      exact ⟨rfl, rfl⟩

end Go.Proofs.Ytedbfmmklmidjaa
