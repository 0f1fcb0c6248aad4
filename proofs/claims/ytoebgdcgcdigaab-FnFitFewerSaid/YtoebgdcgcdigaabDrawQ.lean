/-
  A drawn list of paths: it can be read, and its rows are the call's own. For codes of at most 1048576 bytes.
-/
import Derived.Test.YtoebgdcgcdigaabAddS
import Derived.Test.YtoebgdcgcdigaabDrawP
import Derived.Test.YtoebgdcgcdigaabDrawS
import Derived.Maps.AppendAt
namespace Go.Proofs.Ytoebgdcgcdigaab
open Go.RowKit Go.Sort

/-! The runs. -/

theorem qrd_alloc {w : World} {g p : Nat} (h : Rd w g p) (o : Obj) : Rd (w.alloc o) g p :=
  h.grown (below_grown ((Below.refl _ _).alloc (Nat.le_refl _) o)) (fun b e => by cases e)
theorem qgrown_new {w w1 w2 : World} {row r2 : Option Nat} (h : w.grownBy w1 row) (k : w1.grownBy w2 r2) (hr : ∀ b, r2 = some b → w.heap.size ≤ b) : w.grownBy w2 row :=
  ⟨k.os.trans h.os, k.tape.trans h.tape, k.output.trans h.output, Nat.le_trans h.size k.size, fun i hi hne => (k.block i (Nat.lt_of_lt_of_le hi h.size) (fun e => by have := hr i e.symm; omega)).trans (h.block i hi hne)⟩
theorem qgrown_alloc {w w1 : World} {row : Option Nat} (h : w.grownBy w1 row) (o : Obj) : w.grownBy (w1.alloc o) row :=
  qgrown_new h (below_grown ((Below.refl _ _).alloc (Nat.le_refl _) o)) (fun b e => by cases e)
theorem qown_not {w : World} {base g : Nat} {v : Value} {xs : List Int} (h : OwnI w base v xs) (hg : g < base) : v.ownBlock = none ∨ v.ownBlock ≠ some g :=
  .inr (fun e => by have := (World.ownsRow.lt h g e).1; omega)
theorem qlow_of {w : World} {base E n : Nat} {v : Value} {ys : List Value} (h : w.ownsRow base E 1 v n ys) : ∀ b, v.ownBlock = some b → base ≤ b := fun b e => (World.ownsRow.lt h b e).1
theorem qlit_cell {w w' : World} {cs : Array Value} {t : TypeId} {g : Nat} (h : (w.alloc (.cells cs t)).grownBy w' (some g)) (hg : g < w.heap.size) {j : Nat} (hj : j < cs.size) : w'.cell? ⟨w.heap.size, j, none⟩ = some cs[j] := by
  refine h.cell ?_ (by simp; omega)
  have e := heap_alloc_new w (.cells cs t)
  unfold World.cell?
  simp only [e]
  simp [hj]

/-- What the drawing of runs hands back. -/
def DrawnRuns (w : World) (g p : Nat) (e : Ending) (w' : World) : Prop :=
  ∃ (v : Value) (xs : List Int) (p' : Nat), e = .returned v ∧ Ints w' v xs ∧ Rd w' g p' ∧ p' ≤ p + 6 ∧ w.grownBy w' (some g)

set_option maxRecDepth 100000 in
set_option maxHeartbeats 2000000 in
theorem drawRuns {w : World} {g p n : Nat} (h : Rd w g p) (hp : p ≤ 1048576) (hn1 : 1 ≤ n) (hn4 : n ≤ 4) :
    Calls Try.prog 43 #[.pointer (some ⟨g, 0, none⟩), .int .i64 n] w (DrawnRuns w g p) := by
  have hgl := h.lt
  obtain ⟨i0, hi, hz0, hz1, hz2⟩ := info_parts info_int
  go_enter Try.func43, Try.ntmps43
  go_upto_region 2 with fail
  have og1 := own_empty w
  have gg1 : w.grownBy (w.alloc (.cells #[] 3)) (some g) := World.grownBy_alloc w _ (some g)
  have hr1 := qrd_alloc h (.cells #[] 3)
  go_wp2_with fail
  go_loopw [5, 6] (fun o i wr => ∃ (k : Nat) (xs : List Int), k ≤ n ∧ i = .int .i64 k ∧ xs.length = k ∧ OwnI wr w.heap.size o xs ∧ Rd wr g (p + k) ∧ w.grownBy wr (some g)) (fun _ i _ => n - (intOf i).toNat)
  case atStart => exact ⟨0, [], by omega, rfl, rfl, og1, hr1, gg1⟩
  case round =>
    obtain ⟨k, xs, hk, rfl, hxl, hown, hrd, hgr⟩ := hrel
    have hsz := hgr.size
    by_cases hlt : k < n
    · have hki : (k : Int) < (n : Int) := by omega
      go_wp2_with (go_at_call 36; refine (pick hrd (by omega) (by omega) (by omega)).mono ?_)
      rintro e w2 ⟨r, rfl, hq0, hq1, hr2, g2⟩
      have hq1' := hq1 (by omega)
      have hown2 := hown.kept g2 (qown_not hown hgl)
      unfold OwnI at hown2
      rw [hxl] at hown2
      have hgr2 := grown_trans hgr g2
      have hsz2 := hgr2.size
      clear hown hrd hgr g2 hq1
      go_wp2_with (at_builtin; refine wpList_append_own _ rfl _ _ 27 rfl w.heap.size 3 i0 (.int .i64 0) 1 8 Try.underlying27 hi hz0 hz1 hz2 rfl (by decide) _ _ _ rfl (hown2.alloc _) ⟨w2.heap.size, 0, none⟩ 1 1 [.int .i64 (1 + r)] rfl rfl ?c1 ?c2 ?c3 ?c4 ?c5 ?_)
      case c1 => exact cell_one_new _ _ _
      case c2 => intro u hu; simp at hu; subst hu; rfl
      case c3 => simp only [maxLen]; omega
      case c4 => omega
      case c5 => simp; omega
      intro v' w3 hown' hgrow _
      have hlow := qlow_of hown2
      have HG := Lib.hid (qgrown_new (qgrown_alloc hgr2 _) hgrow hlow)
      have HR := Lib.hid ((qrd_alloc hr2 _).grown hgrow (fun b e => Nat.lt_of_lt_of_le hgl (hlow b e)))
      have HO := Lib.hid hown'
      clear hown' hgrow hown2 hgr2 hr2 hlow
      go_wp2_with fail
      go_roundw
      case rel =>
        refine ⟨k + 1, xs ++ [1 + r], by omega, by go_num, by simp [hxl], ?_, HR.out, HG.out⟩
        unfold OwnI
        have := HO.out
        simpa [hxl] using this
      case measure => simp [intOf]; omega
    · obtain rfl : k = n := by omega
      have hk0 : (0 : Int) < (k : Int) := by omega
      clear og1 hr1 gg1
      go_wp2_with (go_at_call 36; refine (pick hrd (by omega) (by omega) (by omega)).mono ?_)
      rintro e w2 ⟨r, rfl, hq0, hq1, hr2, g2⟩
      have hown2 := hown.kept g2 (qown_not hown hgl)
      have hgr2 := grown_trans hgr g2
      have hsz2 := hgr2.size
      have hgl2 := hr2.lt
      have HXL := Lib.hid hxl
      clear hown hrd hgr g2 hq1 hxl
      by_cases h0 : r = 0
      · subst h0
        go_wp2_with (go_at_call 36; refine (pick (qrd_alloc hr2 _) (by omega) (by omega) (by omega)).mono ?_)
        rintro e w3 ⟨q, rfl, hs0, hs1, hr3, g3⟩
        have hs1' := hs1 (by omega)
        obtain ⟨x, hx⟩ : ∃ x : Int, w3.cell? ⟨w2.heap.size, q.toNat, none⟩ = some (.int .i64 x) := by
          have hl := fun j hj => qlit_cell g3 hgl2 (j := j) hj
          have h4 : q.toNat = 0 ∨ q.toNat = 1 ∨ q.toNat = 2 := by omega
          rcases h4 with e | e | e <;> rw [e] <;> exact ⟨_, hl _ (by decide)⟩
        have hgr3 := grown_trans (qgrown_alloc hgr2 (.cells #[.int .i64 0, .int .i64 101, .int .i64 100] 3)) g3
        have hown3 := OwnI.kept (hown2.below (below_alloc _ _)) g3 (qown_not hown2 hgl)
        rcases hown3.shape with ⟨_, e⟩ | ⟨G, c, rfl, hG, hG2⟩
        · rw [e] at HXL; have := HXL.out; simp at this; omega
        · have hst := World.ownsRow.stored hown3 0 (.int .i64 x)
          have hc0 : ∃ y, w3.cell? ⟨G, 0, none⟩ = some y := by
            have h0 : 0 < xs.length := by rw [HXL.out]; omega
            exact ⟨_, by rw [World.ownsRow.cellAt hown3 0 (by simpa using h0)]; simp [h0]; rfl⟩
          obtain ⟨y, hy⟩ := hc0
          have hf : w3.frozen? ⟨G, 0, none⟩ = false := World.ownsRow.frozenAt hown3 0
          have hlen : (0 : Int) < (xs.length : Int) := by rw [HXL.out]; omega
          have hlen' : 0 < xs.length := by rw [HXL.out]; omega
          have HST := Lib.hid hst
          clear hst g3 hown2 hr2 hs1
          go_wp2_with fail
          go_ret
          have ho : OwnI (w3.setCell ⟨G, 0, none⟩ (.int .i64 x)) w.heap.size (.slice (some ⟨G, 0, none⟩) xs.length c) (xs.set 0 x) := by
            unfold OwnI
            have := HST.out.1
            simpa [List.map_set] using this
          have hl6 : (xs.set 0 x).length ≤ 1048576 := by rw [List.length_set, HXL.out]; omega
          exact ⟨_, xs.set 0 x, _, rfl, ho.ints hl6, hr3.grown HST.out.2 (fun b e => by simp only [Option.some.injEq] at e; omega), by omega, qgrown_new hgr3 HST.out.2 (fun b e => by simp only [Option.some.injEq] at e; omega)⟩
      · have h0' : (r == 0) = false := by simpa using h0
        by_cases h1 : r = 1
        · subst h1
          rcases hown2.shape with ⟨_, e⟩ | ⟨G, c, rfl, hG, hG2⟩
          · rw [e] at HXL; have := HXL.out; simp at this; omega
          · have ht := OwnI.tail (n := xs.length) hown2 (by rw [HXL.out]; omega) (by rw [HXL.out]; omega)
            have hc2 : xs.length ≤ c := by
              rcases hown2.2 with ⟨e, _⟩ | ⟨_, _, _, e, _, _, q, _⟩
              · cases e
              · simp only [Value.slice.injEq] at e; omega
            have hl1 : (1 : Int) ≤ (xs.length : Int) := by rw [HXL.out]; omega
            have hl2 : 1 ≤ xs.length := by rw [HXL.out]; omega
            have hc1 : (xs.length : Int) ≤ (c : Int) := by omega
            have HT := Lib.hid ht
            clear ht
            by_cases hcc : c = 1
            · have HE := Lib.hid (empty_ints w2 (some ⟨G, 0, none⟩) 0)
              subst hcc
              clear HT
              go_wp2_with fail
              go_ret
              exact ⟨_, [], _, rfl, HE.out, hr2, by omega, hgr2⟩
            · have hc3 : ¬ c - 1 = 0 := by omega
              go_wp2_with fail
              go_ret
              exact ⟨_, xs.tail, _, rfl, HT.out, hr2, by omega, hgr2⟩
        · have h1' : (r == 1) = false := by simpa using h1
          clear h0 h1
          go_wp2_with fail
          go_ret
          exact ⟨_, xs, _, rfl, hown2.ints (by rw [HXL.out]; omega), hr2, by omega, hgr2⟩

end Go.Proofs.Ytoebgdcgcdigaab

/-
  A drawn list of paths: it can be read, and its row is the call's own. For codes of at most 1048576 bytes.
-/
namespace Go.Proofs.Ytoebgdcgcdigaab
open Go.RowKit Go.Sort

/-- A list of integers in a list of paths whose row is block b. -/
def Part (w : World) (base b : Nat) (u : Value) (xs : List Int) : Prop := Ints w u xs ∧ (xs = [] ∨ ∀ q, u.ownBlock = some q → base ≤ q ∧ q ≠ b)
theorem part_lt {w : World} {u : Value} {xs : List Int} (h : Ints w u xs) (h0 : xs ≠ []) : ∀ q, u.ownBlock = some q → q < w.heap.size := by
  obtain ⟨a, c, rfl, _, hc⟩ := h
  rcases hc with e | ⟨b, o, rfl, hb, _⟩
  · exact absurd e h0
  · intro q e
    simp only [Value.ownBlock, Option.some.injEq] at e
    omega
theorem ints_row {w w' : World} {v : Value} {xs : List Int} {row : Option Nat} (h : Ints w v xs) (hg : w.grownBy w' row) (hv : xs = [] ∨ ∀ q, v.ownBlock = some q → row ≠ some q) : Ints w' v xs := by
  obtain ⟨a, cap, rfl, hl, hc⟩ := h
  refine ⟨a, cap, rfl, hl, ?_⟩
  rcases hc with rfl | ⟨b, o, rfl, hlt, hcell⟩
  · exact .inl rfl
  · by_cases h0 : xs = []
    · exact .inl h0
    · have hv' := hv.resolve_left h0 b rfl
      exact .inr ⟨b, o, rfl, Nat.lt_of_lt_of_le hlt hg.size, fun i hi => (World.cell?_of_block (hg.block b hlt (fun e => hv' e.symm))).trans (hcell i hi)⟩
theorem Part.kept {w w' : World} {base b : Nat} {u : Value} {xs : List Int} {row : Option Nat} (h : Part w base b u xs) (hg : w.grownBy w' row) (hr : ∀ q, row = some q → q < base ∨ q = b ∨ w.heap.size ≤ q) : Part w' base b u xs := by
  refine ⟨?_, h.2⟩
  by_cases h0 : xs = []
  · exact ints_row h.1 hg (.inl h0)
  · refine ints_row h.1 hg (.inr (fun q e r => ?_))
    have h1 := h.2.resolve_left h0 q e
    have h2 := part_lt h.1 h0 q e
    rcases hr q r with h3 | h3 | h3 <;> omega
theorem Part.move {w : World} {base b b' : Nat} {u : Value} {xs : List Int} (h : Part w base b u xs) (hb : w.heap.size ≤ b') : Part w base b' u xs := by
  refine ⟨h.1, ?_⟩
  by_cases h0 : xs = []
  · exact .inl h0
  · refine .inr (fun q e => ⟨(h.2.resolve_left h0 q e).1, ?_⟩)
    have h2 := part_lt h.1 h0 q e
    omega
theorem Part.one {w : World} {base b : Nat} {u : Value} {xs : List Int} (h : Part w base b u xs) : u.oneCell' = true := by
  obtain ⟨⟨a, c, rfl, _⟩, _⟩ := h
  rfl

/-- A list of paths whose row, block b, is the call's own. -/
def LQ (w : World) (base b c : Nat) (vs : List Value) (ps : List (List Int × List Int)) : Prop :=
  w.ownsRow base 32 2 (.slice (some ⟨b, 0, none⟩) ps.length c) ps.length vs ∧ ∀ i, i < ps.length → Part w base b (vs.getD (i * 2) undef) (ps.getD i noPath).1 ∧ Part w base b (vs.getD (i * 2 + 1) undef) (ps.getD i noPath).2
theorem LQ.len {w : World} {base b c : Nat} {vs : List Value} {ps : List (List Int × List Int)} (h : LQ w base b c vs ps) : vs.length = ps.length * 2 := h.1.1
theorem LQ.lt {w : World} {base b c : Nat} {vs : List Value} {ps : List (List Int × List Int)} (h : LQ w base b c vs ps) : base ≤ b ∧ b < w.heap.size := World.ownsRow.lt h.1 b rfl
theorem LQ.kept {w w' : World} {base b c : Nat} {vs : List Value} {ps : List (List Int × List Int)} {row : Option Nat} (h : LQ w base b c vs ps) (hg : w.grownBy w' row) (hr : ∀ q, row = some q → q < base ∨ w.heap.size ≤ q) : LQ w' base b c vs ps := by
  have hb := h.lt
  refine ⟨World.ownsRow.kept h.1 hg (.inr (fun e => ?_)), fun i hi => ⟨(h.2 i hi).1.kept hg (fun q e => (hr q e).imp_right .inr), (h.2 i hi).2.kept hg (fun q e => (hr q e).imp_right .inr)⟩⟩
  have := hr b e.symm
  omega
theorem LQ.below {w w' : World} {base b c : Nat} {vs : List Value} {ps : List (List Int × List Int)} (h : LQ w base b c vs ps) (hb : Below w.heap.size w w') : LQ w' base b c vs ps := h.kept (below_grown hb) (fun q e => by cases e)
theorem LQ.one {w : World} {base b c : Nat} {vs : List Value} {ps : List (List Int × List Int)} (h : LQ w base b c vs ps) : ∀ u ∈ vs, u.oneCell' = true := by
  intro u hu
  obtain ⟨j, hj, rfl⟩ := List.getElem_of_mem hu
  have hl := h.len
  have e : vs[j] = vs.getD j undef := by rw [List.getD_eq_getElem?_getD, List.getElem?_eq_getElem hj]; rfl
  rw [e]
  rcases Nat.mod_two_eq_zero_or_one j with q | q
  · obtain ⟨m, rfl⟩ : ∃ m, j = m * 2 := ⟨j / 2, by omega⟩
    exact (h.2 m (by omega)).1.one
  · obtain ⟨m, rfl⟩ : ∃ m, j = m * 2 + 1 := ⟨j / 2, by omega⟩
    exact (h.2 m (by omega)).2.one
theorem LQ.cell {w : World} {base b c : Nat} {vs : List Value} {ps : List (List Int × List Int)} (h : LQ w base b c vs ps) {j : Nat} {u : Value} (hu : vs[j]? = some u) : w.cell? ((⟨b, 0, none⟩ : Addr).add j) = some u := by
  have hj := (List.getElem?_eq_some_iff.1 hu).1
  rw [Addr.add_lit, Nat.zero_add, World.ownsRow.cellAt h.1 j (by rw [← h.len]; exact hj)]
  exact hu
theorem LQ.cap {w : World} {base b c : Nat} {vs : List Value} {ps : List (List Int × List Int)} (h : LQ w base b c vs ps) : ps.length ≤ c := by
  rcases h.1.2 with ⟨e, _⟩ | ⟨_, _, _, e, _, _, q, _⟩
  · cases e
  · simp only [Value.slice.injEq] at e; omega
theorem LQ.paths {w : World} {base b c : Nat} {vs : List Value} {ps : List (List Int × List Int)} (h : LQ w base b c vs ps) (hl : ps.length ≤ 1048576) : Paths w (.slice (some ⟨b, 0, none⟩) ps.length c) ps := by
  refine ⟨_, c, rfl, ⟨hl, h.cap⟩, .inr ⟨b, 0, rfl, h.lt.2, fun i hi => ⟨_, _, ?_, ?_, h.lt.2, (h.2 i hi).1.1, (h.2 i hi).2.1⟩⟩⟩
  · rw [Nat.zero_add, World.ownsRow.cellAt h.1 (i * 2) (by omega), List.getD_eq_getElem?_getD, List.getElem?_eq_getElem (by rw [h.len]; omega)]
    rfl
  · rw [Nat.zero_add, World.ownsRow.cellAt h.1 (i * 2 + 1) (by omega), List.getD_eq_getElem?_getD, List.getElem?_eq_getElem (by rw [h.len]; omega)]
    rfl
theorem LQ.empty {w : World} {base : Nat} (hb : base ≤ w.heap.size) : LQ (w.alloc (.cells #[] 32)) base w.heap.size 0 [] [] :=
  ⟨World.ownsRow_lit w #[] 0 hb (by simp [maxLen]) rfl, fun i hi => by simp at hi⟩
theorem LQ.first {w : World} {base b c : Nat} {vs : List Value} {ps : List (List Int × List Int)} (h : LQ w base b c vs ps) (h0 : 0 < ps.length) : ∃ a1 n1 k1 a2 n2 k2, w.cell? ⟨b, 0, none⟩ = some (.slice a1 n1 k1) ∧ w.cell? ⟨b, 1, none⟩ = some (.slice a2 n2 k2) ∧ Part w base b (.slice a1 n1 k1) (ps.getD 0 noPath).1 ∧ Part w base b (.slice a2 n2 k2) (ps.getD 0 noPath).2 := by
  obtain ⟨p1, p2⟩ := h.2 0 h0
  have e1 : w.cell? ⟨b, 0, none⟩ = some (vs.getD 0 undef) := by
    rw [World.ownsRow.cellAt h.1 0 (by omega), List.getD_eq_getElem?_getD, List.getElem?_eq_getElem (by rw [h.len]; omega)]
    rfl
  have e2 : w.cell? ⟨b, 1, none⟩ = some (vs.getD 1 undef) := by
    rw [World.ownsRow.cellAt h.1 1 (by omega), List.getD_eq_getElem?_getD, List.getElem?_eq_getElem (by rw [h.len]; omega)]
    rfl
  rw [Nat.zero_mul] at p1
  rw [Nat.zero_mul, Nat.zero_add] at p2
  obtain ⟨a1, k1, f1, _⟩ := p1.1
  obtain ⟨a2, k2, f2, _⟩ := p2.1
  rw [f1] at e1 p1
  rw [f2] at e2 p2
  exact ⟨_, _, _, _, _, _, e1, e2, p1, p2⟩
/-- A copy into another block. -/
theorem LQ.copy {w w' : World} {base b c b' c' : Nat} {vs : List Value} {ps : List (List Int × List Int)} {row : Option Nat} (h : LQ w base b c vs ps) (hg : w.grownBy w' row) (hr : ∀ q, row = some q → w.heap.size ≤ q) (hb : w.heap.size ≤ b') (ho : w'.ownsRow base 32 2 (.slice (some ⟨b', 0, none⟩) ps.length c') ps.length vs) : LQ w' base b' c' vs ps :=
  ⟨ho, fun i hi => ⟨((h.2 i hi).1.move hb).kept hg (fun q e => .inr (.inr (hr q e))), ((h.2 i hi).2.move hb).kept hg (fun q e => .inr (.inr (hr q e)))⟩⟩
/-- One path more. -/
theorem LQ.push {w w' : World} {base b c b' c' : Nat} {vs : List Value} {ps : List (List Int × List Int)} {u1 u2 : Value} {p : List Int × List Int} (h : LQ w base b c vs ps) (h1 : Part w base b u1 p.1) (h2 : Part w base b u2 p.2) (hg : w.grownBy w' (some b)) (hb : b' = b ∨ b' = w.heap.size)
    (ho : w'.ownsRow base 32 2 (.slice (some ⟨b', 0, none⟩) (ps.length + 1) c') (ps.length + 1) (vs ++ [u1, u2])) : LQ w' base b' c' (vs ++ [u1, u2]) (ps ++ [p]) := by
  have hlen := h.len
  have mv : ∀ u xs, Part w base b u xs → Part w' base b' u xs := by
    intro u xs hp
    rcases hb with rfl | rfl
    · exact hp.kept hg (fun q e => by simp only [Option.some.injEq] at e; omega)
    · have k := hp.kept hg (fun q e => by simp only [Option.some.injEq] at e; omega)
      refine ⟨k.1, ?_⟩
      by_cases h0 : xs = []
      · exact .inl h0
      · refine .inr (fun q e => ⟨(hp.2.resolve_left h0 q e).1, ?_⟩)
        have := part_lt hp.1 h0 q e
        omega
  refine ⟨by rw [List.length_append]; exact ho, fun i hi => ?_⟩
  rw [List.length_append] at hi
  simp only [List.length_cons, List.length_nil] at hi
  by_cases e : i < ps.length
  · have g1 : ∀ q, q < vs.length → (vs ++ [u1, u2]).getD q undef = vs.getD q undef := fun q hq => by
      rw [List.getD_eq_getElem?_getD, List.getD_eq_getElem?_getD, List.getElem?_append_left hq]
    have ep : (ps ++ [p]).getD i noPath = ps.getD i noPath := by rw [List.getD_eq_getElem?_getD, List.getD_eq_getElem?_getD, List.getElem?_append_left e]
    rw [g1 _ (by omega), g1 _ (by omega), ep]
    exact ⟨mv _ _ (h.2 i e).1, mv _ _ (h.2 i e).2⟩
  · obtain rfl : i = ps.length := by omega
    have ep : (ps ++ [p]).getD ps.length noPath = p := by rw [List.getD_eq_getElem?_getD, List.getElem?_append_right (Nat.le_refl _)]; simp
    have g2 : (vs ++ [u1, u2]).getD vs.length undef = u1 := by rw [List.getD_eq_getElem?_getD, List.getElem?_append_right (Nat.le_refl _)]; simp
    have g3 : (vs ++ [u1, u2]).getD (vs.length + 1) undef = u2 := by rw [List.getD_eq_getElem?_getD, List.getElem?_append_right (by omega)]; simp
    rw [ep, ← hlen, g2, g3]
    exact ⟨mv _ _ h1, mv _ _ h2⟩
/-- What PathsAdd hands back is such a list. -/
theorem LQ.of_grow {w : World} {base base' : Nat} {v : Value} {ps : List (List Int × List Int)} (h : GrowP w base v ps) (h0 : ps ≠ []) (hb : base' ≤ base) (hll : ∀ i, i < ps.length → (ps.getD i noPath).1.length ≤ 1048576 ∧ (ps.getD i noPath).2.length ≤ 1048576) : ∃ b c vs, v = .slice (some ⟨b, 0, none⟩) ps.length c ∧ LQ w base' b c vs ps := by
  obtain ⟨vs, ho, hi, hd, hv⟩ := h
  have hlen : vs.length = ps.length * 2 := ho.1
  rcases ho.2 with ⟨rfl, e⟩ | ⟨g, cap, cur, rfl, hg⟩
  · exact absurd (List.eq_nil_of_length_eq_zero e) h0
  · refine ⟨g, cap, vs, rfl, ownsRow_mono2 ho hb, fun i hil => ?_⟩
    have pt : ∀ j xs, j < vs.length → OwnI w base (vs.getD j undef) xs → xs.length ≤ 1048576 → Part w base' g (vs.getD j undef) xs := by
      intro j xs hj o hl
      refine ⟨o.ints hl, .inr (fun q e => ⟨Nat.le_trans hb (World.ownsRow.lt o q e).1, fun r => ?_⟩)⟩
      subst r
      rcases hv j hj with k | k
      · rw [k] at e; cases e
      · exact k (by rw [e]; rfl)
    exact ⟨pt _ _ (by omega) (hi i hil).1 (hll i hil).1, pt _ _ (by omega) (hi i hil).2 (hll i hil).2⟩

/-- What the drawing of paths hands back. -/
def DrawnPaths (w : World) (g q : Nat) (e : Ending) (w' : World) : Prop :=
  ∃ (n b c : Nat) (vs : List Value) (ps : List (List Int × List Int)) (q' : Nat), e = .returned (.tuple #[.int .i64 n, .slice (some ⟨b, 0, none⟩) ps.length c]) ∧ 1 ≤ n ∧ n ≤ 4 ∧ ps.length ≤ 9 ∧ LQ w' w.heap.size b c vs ps ∧ Rd w' g q' ∧ q' ≤ q + 103 ∧ w.grownBy w' (some g)
theorem row_shape {w : World} {base E size n : Nat} {v : Value} {ys : List Value} (h : w.ownsRow base E size v n ys) {b : Nat} (hb : v.ownBlock = some b) : ∃ c, v = .slice (some ⟨b, 0, none⟩) n c := by
  rcases h.2 with ⟨rfl, _⟩ | ⟨g, cap, cur, rfl, _⟩
  · cases hb
  · simp only [Value.ownBlock, Option.some.injEq] at hb
    subst hb
    exact ⟨cap, rfl⟩
theorem LQ.copied {w w' : World} {base b c : Nat} {vs : List Value} {ps : List (List Int × List Int)} {v : Value} (h : LQ w base b c vs ps) (ho : w'.ownsRow base 32 2 v ps.length vs) (hg : (w.alloc (.cells #[] 32)).grownBy w' (some w.heap.size))
    (hat : v.ownBlock = some w.heap.size ∨ v.ownBlock = some (w.heap.size + 1)) : ∃ b' c', v = .slice (some ⟨b', 0, none⟩) ps.length c' ∧ LQ w' base b' c' vs ps ∧ w.heap.size ≤ b' ∧ w.grownBy w' none := by
  have gg : w.grownBy w' none := qgrown_new (World.grownBy_alloc w _ none) hg (fun b e => by simp only [Option.some.injEq] at e; omega)
  obtain ⟨b', hb, hlb⟩ : ∃ b', v.ownBlock = some b' ∧ w.heap.size ≤ b' := by
    rcases hat with e | e
    · exact ⟨_, e, Nat.le_refl _⟩
    · exact ⟨_, e, by omega⟩
  obtain ⟨c', rfl⟩ := row_shape ho hb
  exact ⟨b', c', rfl, h.copy gg (fun q e => by cases e) hlb ho, hlb, gg⟩
theorem LQ.pushed {w w' : World} {base b c : Nat} {vs : List Value} {ps : List (List Int × List Int)} {v u1 u2 : Value} {p : List Int × List Int} (h : LQ w base b c vs ps) (h1 : Part w base b u1 p.1) (h2 : Part w base b u2 p.2) (ho : w'.ownsRow base 32 2 v (ps.length + 1) (vs ++ [u1, u2]))
    (hg : (w.alloc (.cells #[u1, u2] 32)).grownBy w' (some b)) (hat : v.ownBlock = some b ∨ v.ownBlock = some (w.heap.size + 1)) : ∃ b' c', v = .slice (some ⟨b', 0, none⟩) (ps.length + 1) c' ∧ LQ w' base b' c' (vs ++ [u1, u2]) (ps ++ [p]) := by
  have gn : w.grownBy (w.alloc (.cells #[u1, u2] 32)) none := World.grownBy_alloc w _ none
  obtain ⟨b', hb, hlb⟩ : ∃ b', v.ownBlock = some b' ∧ (b' = b ∨ b' = (w.alloc (.cells #[u1, u2] 32)).heap.size) := by
    rcases hat with e | e
    · exact ⟨_, e, .inl rfl⟩
    · exact ⟨_, e, .inr (Go.Deep.nblk_alloc _ _).symm⟩
  obtain ⟨c', rfl⟩ := row_shape ho hb
  exact ⟨b', c', rfl, (h.below (below_alloc _ _)).push (h1.kept gn (fun q e => by cases e)) (h2.kept gn (fun q e => by cases e)) hg hlb ho⟩

set_option maxRecDepth 100000 in
set_option maxHeartbeats 4000000 in
theorem drawPaths {w : World} {g q : Nat} (h : Rd w g q) (hq : q ≤ 100) :
    Calls Try.prog 28 #[.pointer (some ⟨g, 0, none⟩)] w (DrawnPaths w g q) := by
  have hgl := h.lt
  obtain ⟨i0, hi, hz0, hz1, hz2⟩ := info_parts info_path
  go_enter Try.func28, Try.ntmps28
  go_wp2_with (go_at_call 36; refine (pick h (by omega) (by omega) (by omega)).mono ?_)
  rintro e w1 ⟨r, rfl, hr0, hr1, hrd1, g1⟩
  have hr1' := hr1 (by omega)
  obtain ⟨n, hn⟩ : ∃ n : Nat, (n : Int) = 1 + r := ⟨(1 + r).toNat, by omega⟩
  have hw : IntKind.i64.wrap (1 + r) = (n : Int) := by rw [IntWalk.i64_in _ (by omega)]; omega
  have hw' : wrap64 (1 + r) = (n : Int) := (IntWalk.i64_left _).symm.trans hw
  have hn1 : 1 ≤ n := by omega
  have hn4 : n ≤ 4 := by omega
  have E0 := LQ.empty g1.size
  clear hn hr1 h
  go_wp2_with (go_at_call 36; refine (pick (qrd_alloc hrd1 _) (by omega) (by omega) (by omega)).mono ?_)
  rintro e w2 ⟨m, rfl, hm0, hm1, hrd2, g2⟩
  have hm1' := hm1 (by omega)
  have E2 := E0.kept g2 (fun b e => by simp only [Option.some.injEq] at e; omega)
  have gg2 : w.grownBy w2 (some g) := grown_trans (qgrown_alloc g1 (.cells #[] 32)) g2
  clear E0 g1 g2 hm1 hrd1
  go_wp2_with fail
  go_loopw [5, 7] (fun o i wr => ∃ (k b c : Nat) (vs : List Value) (ps : List (List Int × List Int)) (q' : Nat), (k : Int) ≤ m ∧ i = .int .i64 k ∧ o = .slice (some ⟨b, 0, none⟩) ps.length c ∧ ps.length ≤ k ∧ LQ wr w.heap.size b c vs ps ∧ Rd wr g q' ∧ q' ≤ q + 2 + 25 * k ∧ w.grownBy wr (some g)) (fun _ i _ => 5 - (intOf i).toNat)
  case atStart => exact ⟨0, w1.heap.size, 0, [], [], q + 1 + 1, by omega, rfl, rfl, by simp, E2, hrd2, by omega, gg2⟩
  case round =>
    obtain ⟨k, b, c, vs, ps, q', hk, rfl, rfl, hpl, hlq, hrd, hq', hgr⟩ := hrel
    have hsz := hgr.size
    clear E2 hrd2 gg2
    by_cases hlt : (k : Int) < m
    · go_wp2_with (go_at_call 36; refine (pick hrd (by omega) (by omega) (by omega)).mono ?_)
      rintro e w3 ⟨r, rfl, hr0, hr1, hrd3, g3⟩
      have hlq3 := hlq.kept g3 (fun q e => by simp only [Option.some.injEq] at e; omega)
      have hgr3 := grown_trans hgr g3
      have hsz3 := hgr3.size
      clear hlq hrd hgr g3 hr1
      by_cases h0 : r = 0
      · subst h0
        have E3 := LQ.empty (w := w3) hsz3
        have c9 : ps.length ≤ 4 := by omega
        go_wp2_with (at_builtin; refine wpList_append_own_at _ rfl _ _ 23 rfl w.heap.size 32 i0 (.agg #[.slice none 0 0, .slice none 0 0]) 2 48 Try.underlying23 hi hz0 hz1 hz2 rfl (by decide) _ _ _ rfl E3.1 ⟨b, 0, none⟩ ps.length c vs rfl hlq3.len ?c1 hlq3.one ?c3 ?c4 ?c5 ?_)
        case c1 => exact fun j u hu => (hlq3.below (below_alloc _ _)).cell hu
        case c3 => simp only [maxLen, List.length_nil]; omega
        case c4 => simp only [List.length_nil]; omega
        case c5 => simp; omega
        intro v4 w4 ho4 hg4 _ hat4
        obtain ⟨b4, c4, rfl, lq4, hb4, gg4⟩ := hlq3.copied ho4 hg4 hat4
        have hrd4 := hrd3.grown gg4 (fun b e => by cases e)
        have G4 := qgrown_new hgr3 gg4 (fun b e => by cases e)
        have K4 := qgrown_new (World.grownBy.refl w3 (some g)) gg4 (fun b e => by cases e)
        clear E3 ho4 hg4 hat4
        have DP := Lib.hid (drawPath (n := n) hrd4 (by omega) hn1 hn4)
        go_wp2_with (go_at_call 50; refine DP.out.mono ?_)
        rintro e w5 ⟨v5, p, q5, rfl, pv, hrd5, hq5, g5, hfar⟩
        have lq5 := lq4.kept g5 (fun b e => by simp only [Option.some.injEq] at e; omega)
        have G5 := grown_trans G4 g5
        have K5 := grown_trans K4 g5
        have hs4 := lq4.lt
        obtain ⟨a1, n1, k1, a2, n2, k2, rfl⟩ := pv.form
        obtain ⟨x1, x2, ex, i1, i2⟩ := pv
        obtain ⟨y1, y2, ey, f1, f2⟩ := hfar
        simp only [Value.agg.injEq, Array.mk.injEq, List.cons.injEq, and_true] at ex ey
        obtain ⟨rfl, rfl⟩ := ex
        obtain ⟨rfl, rfl⟩ := ey
        have P1 : Part w5 w.heap.size b4 _ p.1 := ⟨i1, .inr (fun q e => by have := f1 q e; omega)⟩
        have P2 : Part w5 w.heap.size b4 _ p.2 := ⟨i2, .inr (fun q e => by have := f2 q e; omega)⟩
        clear DP lq4 g5 i1 i2 f1 f2 hrd4 G4 K4 gg4
        go_wp2_with (at_builtin; refine wpList_append_own_at _ rfl _ _ 23 rfl w.heap.size 32 i0 (.agg #[.slice none 0 0, .slice none 0 0]) 2 48 Try.underlying23 hi hz0 hz1 hz2 rfl (by decide) _ _ _ rfl ((lq5.below (below_alloc _ _)).1) ⟨w5.heap.size, 0, none⟩ 1 1 [.slice a1 n1 k1, .slice a2 n2 k2] rfl rfl ?d1 ?d2 ?d3 ?d4 ?d5 ?_)
        case d1 => exact cell_two_new _ _ _ _
        case d2 => intro u hu; simp at hu; rcases hu with rfl | rfl <;> rfl
        case d3 => simp only [maxLen]; omega
        case d4 => omega
        case d5 => have := G5.size; simp; omega
        intro v6 w6 ho6 hg6 _ hat6
        have G6 := qgrown_new (qgrown_alloc G5 (.cells #[.slice a1 n1 k1, .slice a2 n2 k2] 32)) hg6 (fun b e => by simp only [Value.ownBlock, Option.some.injEq] at e; omega)
        have K6 := qgrown_new (qgrown_alloc K5 (.cells #[.slice a1 n1 k1, .slice a2 n2 k2] 32)) hg6 (fun b e => by simp only [Value.ownBlock, Option.some.injEq] at e; omega)
        have hrd6 := (qrd_alloc hrd5 (.cells #[.slice a1 n1 k1, .slice a2 n2 k2] 32)).grown hg6 (fun b e => by simp only [Value.ownBlock, Option.some.injEq] at e; omega)
        obtain ⟨b6, c6, rfl, lq6⟩ := lq5.pushed P1 P2 ho6 hg6 hat6
        have hlen6 : (ps ++ [p]).length = ps.length + 1 := by simp
        have SP := specPaths (n := (n : Int)) (lq6.paths (by rw [hlen6]; omega))
        rw [hlen6] at SP
        have SP := Lib.hid SP
        obtain ⟨ok, hok⟩ : ∃ ok, ok = pathsB (n : Int) (ps ++ [p]) := ⟨_, rfl⟩
        rw [← hok] at SP
        have OLD := Lib.hid (And.intro hlq3 (And.intro hrd6 (And.intro G6 (And.intro lq6 K6))))
        clear hok ho6 hg6 hat6 lq5 G5 K5 K6 P1 P2 hlq3 lq6 hrd6 hrd5 hrd3 hgr3
        go_wp2_with (go_at_call 31; refine SP.out.mono ?_)
        rintro e w7 ⟨rfl, b7⟩
        have hrd7 := OLD.out.2.1.below b7 OLD.out.2.1.lt
        have G7 := qgrown_new OLD.out.2.2.1 (below_grown b7) (fun b e => by cases e)
        cases ok
        · have LO := Lib.hid (show LQ w7 w.heap.size b c vs ps from OLD.out.1.kept (qgrown_new OLD.out.2.2.2.2 (below_grown b7) (fun b e => by cases e)) (fun q e => by simp only [Option.some.injEq] at e; omega))
          clear SP OLD
          go_wp2_with fail
          go_roundw
          case rel => exact ⟨k + 1, b, c, vs, ps, _, by omega, by go_num, rfl, by omega, LO.out, hrd7, by omega, G7⟩
          case measure => simp [intOf]; omega
        · have LO := Lib.hid (OLD.out.2.2.2.1.below b7)
          clear SP OLD
          go_wp2_with fail
          go_roundw
          case rel => exact ⟨k + 1, b6, c6, _, ps ++ [p], _, by omega, by go_num, by rw [hlen6], by rw [hlen6]; omega, LO.out, hrd7, by omega, G7⟩
          case measure => simp [intOf]; omega
      · have h0' : (r == 0) = false := by simpa using h0
        go_wp2_with (go_at_call 36; refine (pick hrd3 (by omega) (by omega) (by omega)).mono ?_)
        rintro e w4 ⟨s, rfl, hs0, hs1, hrd4, g4⟩
        have DR := Lib.hid (drawRuns (n := n) hrd4 (by omega) hn1 hn4)
        go_wp2_with (go_at_call 43; refine DR.out.mono ?_)
        rintro e w5 ⟨vr, rs, q5, rfl, ir, hrd5, hq5, g5⟩
        have K5 := grown_trans g4 g5
        have G5 := grown_trans hgr3 K5
        have lq5 := hlq3.kept K5 (fun q e => by simp only [Option.some.injEq] at e; omega)
        have PA := specAdd (n := (n : Int)) (s := s) (lq5.paths (by omega)) ir
        obtain ⟨av, hav⟩ : ∃ av, av = addV (n : Int) ps s rs := ⟨_, rfl⟩
        obtain ⟨ab, hab⟩ : ∃ ab, ab = addB (n : Int) ps s rs := ⟨_, rfl⟩
        rw [← hav, ← hab] at PA
        have PA := Lib.hid PA
        have hav1 : ab = true → av = ps ++ [fitPath (n : Int) ps s rs rs.length] := fun e => by rw [hav]; exact addV_yes (by rw [← hab]; exact e)
        have hrl := ir.len
        have hal : ab = true → av ≠ [] ∧ av.length = ps.length + 1 ∧ ∀ i, i < av.length → (av.getD i noPath).1.length ≤ 1048576 ∧ (av.getD i noPath).2.length ≤ 1048576 := fun e => by
          rw [hav1 e]
          refine ⟨by simp, by simp, fun i hi => ?_⟩
          rw [List.length_append] at hi
          simp only [List.length_cons, List.length_nil] at hi
          by_cases hl : i < ps.length
          · have ep : (ps ++ [fitPath (n : Int) ps s rs rs.length]).getD i noPath = ps.getD i noPath := by rw [List.getD_eq_getElem?_getD, List.getD_eq_getElem?_getD, List.getElem?_append_left hl]
            rw [ep]
            exact ⟨(lq5.2 i hl).1.1.len, (lq5.2 i hl).2.1.len⟩
          · obtain rfl : i = ps.length := by omega
            have ep : (ps ++ [fitPath (n : Int) ps s rs rs.length]).getD ps.length noPath = fitPath (n : Int) ps s rs rs.length := by rw [List.getD_eq_getElem?_getD, List.getElem?_append_right (Nat.le_refl _)]; simp
            rw [ep, (fitPath_len _ _ _ _ _).1, (fitPath_len _ _ _ _ _).2]
            exact ⟨hrl, hrl⟩
        have AL := Lib.hid hal
        have hsz5 := G5.size
        clear hal hav hab hav1 hrl hrd4 hrd3 g4 g5 hlq3 hgr3 hs1 hs0 DR
        go_wp2_with (go_at_call 24; refine PA.out.mono ?_)
        rintro e w6 ⟨x, rfl, gx, b6⟩
        have hrd6 := hrd5.below b6 hrd5.lt
        have G6 := qgrown_new G5 (below_grown b6) (fun b e => by cases e)
        cases ab
        · have LO := Lib.hid (lq5.below b6)
          obtain ⟨ax, cx, rfl⟩ := gx.shape
          clear PA AL lq5 gx
          go_wp2_with fail
          go_roundw
          case rel => exact ⟨k + 1, b, c, vs, ps, _, by omega, by go_num, rfl, by omega, LO.out, hrd6, by omega, G6⟩
          case measure => simp [intOf]; omega
        · obtain ⟨hne, hll, hlens⟩ := AL.out rfl
          obtain ⟨b7, c7, vs7, rfl, lq7⟩ := LQ.of_grow (base' := w.heap.size) gx hne hsz5 hlens
          clear PA AL lq5 gx hlens hne
          go_wp2_with fail
          go_roundw
          case rel => exact ⟨k + 1, b7, c7, _, av, _, by omega, by go_num, by rw [hll], by omega, lq7, hrd6, by omega, G6⟩
          case measure => simp [intOf]; omega
    · have hk4 : k ≤ 4 := by omega
      by_cases hz : ps.length = 0
      · have LO := Lib.hid hlq
        have hd : decide ((0 : Int) < (ps.length : Int)) = false := decide_eq_false (by omega)
        clear hlq
        go_wp2_with fail
        go_ret2
        exact ⟨n, b, c, vs, ps, q', by rw [hz]; rfl, hn1, hn4, by omega, LO.out, hrd, by omega, hgr⟩
      · have hd : decide ((0 : Int) < (ps.length : Int)) = true := decide_eq_true (by omega)
        go_wp2_with (go_at_call 36; refine (pick hrd (by omega) (by omega) (by omega)).mono ?_)
        rintro e w3 ⟨r, rfl, hr0, hr1, hrd3, g3⟩
        have hlq3 := hlq.kept g3 (fun q e => by simp only [Option.some.injEq] at e; omega)
        have hgr3 := grown_trans hgr g3
        clear hlq hrd hgr g3 hr1
        by_cases h0 : r = 0
        · subst h0
          obtain ⟨a1, n1, k1, a2, n2, k2, cx1, cx2, P1, P2⟩ := hlq3.first (by omega)
          have h1 : (1 : Int) ≤ (ps.length : Int) := by omega
          have h2 : 0 < ps.length := by omega
          have HQ := Lib.hid hlq3
          have hlt3 := hlq3.lt
          have HP := Lib.hid (And.intro P1 P2)
          clear hlq3 P1 P2
          go_wp2_with (at_builtin; refine wpList_append_own_at _ rfl _ _ 23 rfl w.heap.size 32 i0 (.agg #[.slice none 0 0, .slice none 0 0]) 2 48 Try.underlying23 hi hz0 hz1 hz2 rfl (by decide) _ _ _ rfl ((HQ.out.below (below_alloc _ _)).1) ⟨w3.heap.size, 0, none⟩ 1 1 [.slice a1 n1 k1, .slice a2 n2 k2] rfl rfl ?d1 ?d2 ?d3 ?d4 ?d5 ?_)
          case d1 => exact cell_two_new _ _ _ _
          case d2 => intro u hu; simp at hu; rcases hu with rfl | rfl <;> rfl
          case d3 => simp only [maxLen]; omega
          case d4 => omega
          case d5 => have := hgr3.size; simp; omega
          intro v6 w6 ho6 hg6 _ hat6
          have G6 := qgrown_new (qgrown_alloc hgr3 (.cells #[.slice a1 n1 k1, .slice a2 n2 k2] 32)) hg6 (fun b e => by simp only [Value.ownBlock, Option.some.injEq] at e; omega)
          have hrd6 := (qrd_alloc hrd3 (.cells #[.slice a1 n1 k1, .slice a2 n2 k2] 32)).grown hg6 (fun b e => by simp only [Value.ownBlock, Option.some.injEq] at e; omega)
          obtain ⟨b6, c6, rfl, lq6⟩ := HQ.out.pushed HP.out.1 HP.out.2 ho6 hg6 hat6
          have LO := Lib.hid lq6
          clear lq6 ho6 hg6 hat6 HQ HP hrd3 hgr3
          go_wp2_with fail
          go_ret2
          exact ⟨n, b6, c6, _, ps ++ [ps.getD 0 noPath], _, by rw [List.length_append]; rfl, hn1, hn4, by rw [List.length_append]; simp only [List.length_cons, List.length_nil]; omega, LO.out, hrd6, by omega, G6⟩
        · have h0' : (r == 0) = false := by simpa using h0
          have LO := Lib.hid hlq3
          clear hlq3
          go_wp2_with fail
          go_ret2
          exact ⟨n, b, c, vs, ps, _, rfl, hn1, hn4, by omega, LO.out, hrd3, by omega, hgr3⟩

end Go.Proofs.Ytoebgdcgcdigaab

/-
  A drawn list of paths with a section. For codes of at most 1048576 bytes.
-/
namespace Go.Proofs.Ytoebgdcgcdigaab
open Go.RowKit Go.Sort

/-- What the drawing of an index hands back. -/
def DrawnAt (w : World) (g p : Nat) (n : Int) (e : Ending) (w' : World) : Prop :=
  ∃ (x : Int) (p' : Nat), e = .returned (.int .i64 x) ∧ -1 ≤ x ∧ x ≤ n ∧ Rd w' g p' ∧ p' ≤ p + 2 ∧ w.grownBy w' (some g)

set_option maxHeartbeats 1000000 in
theorem drawAt {w : World} {g p : Nat} {n : Int} (h : Rd w g p) (hp : p ≤ 1000100) (hn0 : 1 ≤ n) (hn1 : n ≤ 1000) :
    Calls Try.prog 35 #[.pointer (some ⟨g, 0, none⟩), .int .i64 n] w (DrawnAt w g p n) := by
  have hgl := h.lt
  have hz : (n == 0) = false := by simp; omega
  go_enter Try.func35, Try.ntmps35
  go_wp2_with (go_at_call 36; refine (pick h (by omega) (by omega) (by omega)).mono ?_)
  rintro e w1 ⟨r, rfl, hr0, hr1, hrd1, g1⟩
  have hgl1 := hrd1.lt
  clear hz h hr1
  by_cases h0 : r = 0
  · subst h0
    go_wp2_with (go_at_call 36; refine (pick (qrd_alloc hrd1 _) (by omega) (by omega) (by omega)).mono ?_)
    rintro e w2 ⟨q, rfl, hq0, hq1, hrd2, g2⟩
    have hq1' := hq1 (by omega)
    have gg := grown_trans (qgrown_alloc g1 (.cells #[.int .i64 (-1), .int .i64 n] 3)) g2
    obtain ⟨x, hx, hx0, hx1⟩ : ∃ x : Int, w2.cell? ⟨w1.heap.size, q.toNat, none⟩ = some (.int .i64 x) ∧ -1 ≤ x ∧ x ≤ n := by
      have hl := fun j hj => qlit_cell g2 hgl1 (j := j) hj
      have h4 : q.toNat = 0 ∨ q.toNat = 1 := by omega
      rcases h4 with e | e <;> rw [e]
      · exact ⟨-1, hl 0 (by simp), by omega, by omega⟩
      · exact ⟨n, hl 1 (by simp), by omega, by omega⟩
    clear g1 g2 hq1
    go_wp2_with fail
    go_ret
    exact ⟨x, _, rfl, hx0, hx1, hrd2, by omega, gg⟩
  · have h0' : (r == 0) = false := by simpa using h0
    clear h0
    go_wp2_with (go_at_call 36; refine (pick hrd1 (by omega) (by omega) (by omega)).mono ?_)
    rintro e w2 ⟨q, rfl, hq0, hq1, hrd2, g2⟩
    have hq1' := hq1 (by omega)
    have gg := grown_trans g1 g2
    clear g1 g2 hq1
    go_wp2_with fail
    go_ret
    exact ⟨q, _, rfl, by omega, by omega, hrd2, by omega, gg⟩

/-- What the drawing of paths and a section hands back. -/
def DrawnSec (w : World) (e : Ending) (w' : World) : Prop :=
  ∃ (n b c : Nat) (vs : List Value) (ps : List (List Int × List Int)) (k : Int), e = .returned (.tuple #[.int .i64 n, .slice (some ⟨b, 0, none⟩) ps.length c, .int .i64 k]) ∧ 1 ≤ n ∧ n ≤ 4 ∧ ps.length ≤ 9 ∧ -1 ≤ k ∧ k ≤ n ∧ LQ w' w.heap.size b c vs ps ∧ Below w.heap.size w w'
theorem lq_mono {w : World} {base base' b c : Nat} {vs : List Value} {ps : List (List Int × List Int)} (h : LQ w base b c vs ps) (hb : base' ≤ base) : LQ w base' b c vs ps :=
  ⟨ownsRow_mono2 h.1 hb, fun i hi => ⟨⟨(h.2 i hi).1.1, (h.2 i hi).1.2.imp_right fun k q e => ⟨Nat.le_trans hb (k q e).1, (k q e).2⟩⟩, ⟨(h.2 i hi).2.1, (h.2 i hi).2.2.imp_right fun k q e => ⟨Nat.le_trans hb (k q e).1, (k q e).2⟩⟩⟩⟩

end Go.Proofs.Ytoebgdcgcdigaab
