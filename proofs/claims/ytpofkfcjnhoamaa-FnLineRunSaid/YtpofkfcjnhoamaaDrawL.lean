/-
  Drawn lines. For codes of at most 1048576 bytes.
  Under way: three places wait (region 8, the switch, the end).
-/
import Derived.Test.YtpofkfcjnhoamaaMvsS
import Derived.Test.YtpofkfcjnhoamaaLineN
import Derived.Test.YtpofkfcjnhoamaaDraws1
namespace Go.Proofs.Ytpofkfcjnhoamaa
open Go.RowKit Go.Sort

theorem Rdr.lt {w : World} {g p : Nat} (h : Rdr w g p) : g < w.heap.size := by
  obtain ⟨v, n, h1, _⟩ := h
  exact (Array.getElem?_eq_some_iff.1 h1).1
theorem Rdr.below {w w' : World} {g p B : Nat} (h : Rdr w g p) (hb : Below B w w') (hg : g < B) : Rdr w' g p := by
  obtain ⟨v, n, h1, hbt, hne⟩ := h
  refine ⟨v, n, (hb.block g hg).trans h1, ?_, hne⟩
  obtain ⟨a, cap, rfl, hm, hc⟩ := hbt
  refine ⟨a, cap, rfl, hm, ?_⟩
  rcases hc with h0 | ⟨b, o, rfl, hb', hcell⟩
  · exact .inl h0
  · by_cases h0 : n = 0
    · exact .inl h0
    · have hbg := hne (by omega) b o _ _ rfl
      refine .inr ⟨b, o, rfl, Nat.lt_of_lt_of_le hb' hb.size, fun i hi => ?_⟩
      obtain ⟨x, hx, hx2⟩ := hcell i hi
      exact ⟨x, (hb.cell (p := ⟨b, o + i, none⟩) (by simp only; omega)).trans hx, hx2⟩
theorem grown_of_below {w w' : World} (b : Below w.heap.size w w') (row : Option Nat) : w.grownBy w' row := ⟨b.os, b.tape, b.output, b.size, fun k hk _ => b.block k hk⟩
theorem HeldL.grown {w w' : World} {B base g : Nat} {u1 u2 : Value} {l : Ln} (h : HeldL w B base u1 u2 l) (k : w.grownBy w' (some g)) (hg : g < base) (hB : base ≤ B) : HeldL w' B base u1 u2 l := by
  refine ⟨h.box.kept k (fun c e q => ?_), Ow.kept h.blocks k (.inr fun e => ?_), h.trains.kept k (.inr fun e => ?_)⟩
  · simp only [Option.some.injEq] at e; omega
  · have := (Ow.under h.blocks g (by first | exact e | exact e.symm)).1; omega
  · have := (h.trains.under g (by first | exact e | exact e.symm)).1; omega
theorem newV_ok {n k : Int} (hn : 1 ≤ n ∧ n ≤ 5) (hk : 0 ≤ k ∧ k ≤ 5) : newV n k = newLn n.toNat k.toNat := by
  unfold newV newOk
  rw [if_pos (by simp; omega)]

theorem heldLineV {w : World} {B base : Nat} {u1 u2 : Value} {l : Ln} (h : HeldL w B base u1 u2 l) (h1 : l.1.length ≤ 1048576) (h2 : l.2.length ≤ 1048576) : LineV w (.agg #[u1, u2]) l :=
  OwnLine.lineV ⟨u1, u2, rfl, h.blocks, h.trains, h.apart⟩ h1 h2
theorem HeldL.twoSlices {w : World} {B base : Nat} {u1 u2 : Value} {l : Ln} (h : HeldL w B base u1 u2 l) : ∃ a n c a' n' c', u1 = .slice a n c ∧ u2 = .slice a' n' c' := by
  obtain ⟨a, c, rfl⟩ := Ow.slice h.blocks
  obtain ⟨a', n', c', rfl⟩ := own_is_slice h.trains
  exact ⟨_, _, _, _, _, _, rfl, rfl⟩
theorem held_box {w : World} {B base : Nat} {u1 u2 : Value} {l : Ln} (o : OwnLine w B (.agg #[u1, u2]) l) (hB : base ≤ B) : HeldL (w.alloc (.cells #[u1, u2] 26)) w.heap.size base u1 u2 l := by
  obtain ⟨v1, v2, e, h1, h2, _⟩ := o
  simp only [Value.agg.injEq, Array.mk.injEq, List.cons.injEq, and_true] at e
  obtain ⟨rfl, rfl⟩ := e
  exact ⟨Pair.new _ _ _ _, ownB_alloc (Ow.mono h1 hB) _, ownI_alloc (h2.mono hB) _⟩
theorem grown_set (w : World) (C o : Nat) (u : Value) : w.grownBy (w.setCell ⟨C, o, none⟩ u) (some C) :=
  ⟨rfl, rfl, rfl, by simp [World.setCell], fun k _ hne => Go.Deep.blk_setCell_other _ _ _ _ (fun e => hne (by rw [e]))⟩
theorem grown_late {W w w' : World} {row r2 : Option Nat} (h : W.grownBy w row) (k : w.grownBy w' r2) (hr : ∀ b, r2 = some b → W.heap.size ≤ b) : W.grownBy w' row :=
  ⟨k.os.trans h.os, k.tape.trans h.tape, k.output.trans h.output, Nat.le_trans h.size k.size, fun i hi hne => (k.block i (Nat.lt_of_lt_of_le hi h.size) (fun e => by have := hr i e.symm; omega)).trans (h.block i hi hne)⟩
theorem grown_pair {W w : World} {row : Option Nat} {C : Nat} (h : W.grownBy w row) (hC : W.heap.size ≤ C) (u v : Value) : W.grownBy ((w.setCell ⟨C, 0, none⟩ u).setCell ⟨C, 1, none⟩ v) row :=
  grown_late (grown_late h (grown_set w C 0 u) (fun b e => by cases e; exact hC)) (grown_set _ C 1 v) (fun b e => by cases e; exact hC)
theorem Rdr.pair {w : World} {g p C : Nat} (h : Rdr w g p) (hC : g < C) (u v : Value) : Rdr ((w.setCell ⟨C, 0, none⟩ u).setCell ⟨C, 1, none⟩ v) g p :=
  (h.grown (grown_set w C 0 u) (fun b e => by cases e; exact hC)).grown (grown_set _ C 1 v) (fun b e => by cases e; exact hC)
/-- A line stored into its box anew. -/
theorem held_store {Y : World} {base C : Nat} {x y uA uB : Value} {l : Ln} (p : Pair Y C x y 26) (oA : OwnB Y base uA l.1) (oB : OwnI Y base uB l.2) : HeldL ((Y.setCell ⟨C, 0, none⟩ uA).setCell ⟨C, 1, none⟩ uB) C base uA uB l := by
  have nA := away_types oA p (by decide)
  have nB := away_types (ownI_ow oB) p (by decide)
  refine ⟨stored_pair p, ?_, ?_⟩
  · have h1 := ownsRow_setCell_other oA (a := ⟨C, 0, none⟩) nA uA
    exact ownsRow_setCell_other h1 (a := ⟨C, 1, none⟩) nA uB
  · have h1 := ownsRow_setCell_other oB (a := ⟨C, 0, none⟩) nB uA
    exact ownsRow_setCell_other h1 (a := ⟨C, 1, none⟩) nB uB
/-- A line that is handed back by way of the result's box. -/
theorem line_endD {w X : World} {g q B base C : Nat} {x y u1 u2 : Value} {l : Ln} (h : HeldL X B base u1 u2 l) (p : Pair X C x y 26) (hr : Rdr X g q) (hg : g < C) (hG : w.grownBy X (some g)) (hC : w.heap.size ≤ C) (hb : w.heap.size ≤ base) :
    Pair ((X.setCell ⟨C, 0, none⟩ u1).setCell ⟨C, 1, none⟩ u2) C u1 u2 26 ∧ OwnLine ((X.setCell ⟨C, 0, none⟩ u1).setCell ⟨C, 1, none⟩ u2) w.heap.size (.agg #[u1, u2]) l ∧ Rdr ((X.setCell ⟨C, 0, none⟩ u1).setCell ⟨C, 1, none⟩ u2) g q ∧ w.grownBy ((X.setCell ⟨C, 0, none⟩ u1).setCell ⟨C, 1, none⟩ u2) (some g) := by
  have s := held_store p h.blocks h.trains
  exact ⟨s.box, ⟨u1, u2, rfl, Ow.mono s.blocks hb, s.trains.mono hb, s.apart⟩, hr.pair hg _ _, grown_pair hG hC _ _⟩
/-- What stands while a line is drawn. -/
def DrSt (w : World) (g B base : Nat) (u1 u2 : Value) (l : Ln) (Y : World) : Prop := HeldL Y B base u1 u2 l ∧ Pair Y w.heap.size (.slice none 0 0) (.slice none 0 0) 26 ∧ w.grownBy Y (some g)
theorem DrSt.below {w Y Z : World} {g B base : Nat} {u1 u2 : Value} {l : Ln} (h : DrSt w g B base u1 u2 l Y) (b : Below Y.heap.size Y Z) : DrSt w g B base u1 u2 l Z :=
  ⟨h.1.below b, h.2.1.below b, grown_late h.2.2 (grown_of_below b none) (fun _ e => by cases e)⟩
theorem DrSt.pick {w Y Z : World} {g B base : Nat} {u1 u2 : Value} {l : Ln} (h : DrSt w g B base u1 u2 l Y) (hg : g < w.heap.size) (hw : w.heap.size < base) (hB : base ≤ B) (k : Y.grownBy Z (some g)) : DrSt w g B base u1 u2 l Z :=
  ⟨h.1.grown k (by omega) hB, h.2.1.kept k (fun c e => by simp only [Option.some.injEq] at e; omega), grown_trans h.2.2 k⟩
theorem DrSt.go1 {w Y : World} {g B base gt n c q : Nat} {u1 : Value} {l : Ln} (h : DrSt w g B base u1 (.slice (some ⟨gt, 0, none⟩) n c) l Y) (hn : n = l.2.length) (hr : Rdr Y g q) (hg : g < w.heap.size) (hw : w.heap.size < base) (hgt : base ≤ gt) (x : Int) :
    ∃ X, Y.setCell ⟨gt, 0, none⟩ (.int .i64 x) = X ∧ HeldL X B base u1 (.slice (some ⟨gt, 0, none⟩) n c) (l.1, l.2.set 0 x) ∧ Pair X w.heap.size (.slice none 0 0) (.slice none 0 0) 26 ∧ Rdr X g q ∧ w.grownBy X (some g) :=
  ⟨_, rfl, HeldL.go h.1 hn 0 x, h.2.1.kept (grown_set Y gt 0 (.int .i64 x)) (fun c e => by simp only [Option.some.injEq] at e; omega), hr.grown (grown_set Y gt 0 (.int .i64 x)) (fun b e => by cases e; omega),
    grown_late h.2.2 (grown_set Y gt 0 (.int .i64 x)) (fun b e => by cases e; omega)⟩
theorem litL (X : World) (o : Obj) (b : Nat) (xs : Array Value) (t : Nat) (r : Nat) (x : Int) (hb : b = X.heap.size) (ho : o = .cells xs t) (h : xs[r]? = some (.int .i64 x)) : (X.alloc o).cell? ⟨b, r, none⟩ = some (.int .i64 x) := by
  subst hb ho
  unfold World.cell?
  simp only [heap_alloc_new]
  exact h
theorem threeL (y : Int) (r : Int) (h0 : 0 ≤ r) (h1 : r < 3) : ∃ x : Int, (#[Value.int .i64 (-1), .int .i64 y, .int .i64 1])[r.toNat]? = some (.int .i64 x) := by
  rcases (by omega : r = 0 ∨ r = 1 ∨ r = 2) with rfl | rfl | rfl
  · exact ⟨_, rfl⟩
  · exact ⟨_, rfl⟩
  · exact ⟨_, rfl⟩
theorem grown_three (w : World) (C : Nat) (a b c : Value) : w.grownBy (((w.setCell ⟨C, 0, none⟩ a).setCell ⟨C, 1, none⟩ b).setCell ⟨C, 2, none⟩ c) (some C) :=
  grown_trans (grown_trans (grown_set w C 0 a) (grown_set _ C 1 b)) (grown_set _ C 2 c)
theorem one_new (w : World) (v : Value) (t : TypeId) : ∀ j u, [v][j]? = some u → (w.alloc (.cells #[v] t)).cell? ((⟨w.heap.size, 0, none⟩ : Addr).add j) = some u := by
  have hn : (w.alloc (.cells #[v] t)).heap[w.heap.size]? = some (.cells #[v] t (0, 0)) := Go.Deep.blk_alloc_new _ _
  intro j u hu
  cases j with
  | zero =>
    have e : (⟨w.heap.size, 0, none⟩ : Addr).add 0 = ⟨w.heap.size, 0, none⟩ := rfl
    rw [e]
    simp only [World.cell?, hn]
    simpa using hu
  | succ j => simp at hu
theorem inTo_all {l : Ln} {k i : Nat} {m : Mv} (h : m ∈ inTo l k i) : (lnDo l m).isSome = true := by
  induction i with
  | zero => simp [inTo] at h
  | succ i ih =>
    simp only [inTo] at h
    split at h
    · rename_i e
      rcases List.mem_append.1 h with h | h
      · exact ih h
      · rw [List.mem_singleton.1 h]; exact e
    · exact ih h
theorem mvsTo_all {l : Ln} {k : Nat} {m : Mv} (h : m ∈ mvsTo l k) : (lnDo l m).isSome = true := by
  induction k with
  | zero => simp [mvsTo] at h
  | succ k ih =>
    simp only [mvsTo] at h
    rcases List.mem_append.1 h with h | h
    · exact ih h
    · exact inTo_all h
/-- Each move that is named can be done, and leaves as many sections and trains. -/
theorem lnMoves_do {l : Ln} {i : Nat} (h : i < (lnMoves l).length) : ∃ x, lnStep l ((lnMoves l).getD i noMv) = some x ∧ x.1.length = l.1.length ∧ x.2.length = l.2.length := by
  cases hb : lnB l
  · unfold lnMoves at h; rw [hb] at h; simp at h
  · have e : lnMoves l = mvsTo l l.1.length := by unfold lnMoves; rw [hb]; rfl
    have hm : (lnMoves l).getD i noMv ∈ lnMoves l := by
      rw [List.getD_eq_getElem?_getD, List.getElem?_eq_getElem h]
      exact List.getElem_mem h
    have hd := mvsTo_all (by rw [← e]; exact hm)
    obtain ⟨x, hx⟩ := Option.isSome_iff_exists.1 hd
    have hl := lnDo_len hx
    refine ⟨x, ?_, hl.1, hl.2⟩
    unfold lnStep
    rw [hb, if_pos rfl]
    exact hx
theorem lnMoves_len (l : Ln) : (lnMoves l).length ≤ l.1.length * 7 := by
  unfold lnMoves
  split
  · exact mvsTo_len l _
  · simp
/-- A drawn line. -/
def DrawnLine (w : World) (g p : Nat) (e : Ending) (w' : World) : Prop :=
  ∃ (l : Ln) (q : Nat) (v : Value), e = .returned v ∧ OwnLine w' w.heap.size v l ∧ (1 ≤ l.1.length ∧ l.1.length ≤ 5) ∧ l.2.length ≤ 6 ∧ Rdr w' g q ∧ q ≤ p + 40 ∧ w.grownBy w' (some g)

set_option maxHeartbeats 4000000 in
set_option maxRecDepth 100000 in
theorem drawLine {w : World} {g p : Nat} (h : Rdr w g p) (hp : p ≤ 1000) :
    Calls Try.prog 38 #[.pointer (some ⟨g, 0, none⟩)] w (DrawnLine w g p) := by
  have hgw := h.lt
  obtain ⟨W, hW⟩ : ∃ X, X = w.alloc (.cells #[.slice none 0 0, .slice none 0 0] 26) := ⟨_, rfl⟩
  have p2 := Pair.new w (.slice none 0 0) (.slice none 0 0) 26
  have q0 := below_alloc w (.cells #[.slice none 0 0, .slice none 0 0] 26)
  rw [← hW] at p2 q0
  have HW := Lib.hid hW.symm
  have P2 := Lib.hid p2
  have Q0 := Lib.hid q0
  have hr := h.below q0 hgw
  have hgW : g < W.heap.size := Nat.lt_of_lt_of_le hgw q0.size
  clear hW p2 q0 h
  go_enter Try.func38, Try.ntmps38
  go_upto_region 1 with fail
  rw [HW.out]
  go_wp2_with (go_at_call 48; refine (pick hr (by omega) (by omega) (by omega)).mono ?_)
  rintro e w1 ⟨r1, rfl, hr0, hr1, hd1, k1⟩
  have hr1' := hr1 (by omega)
  have hwr : IntKind.i64.wrap (1 + r1) = 1 + r1 := IntWalk.i64_in _ (by omega)
  clear hr hr1
  go_wp2_with (go_at_call 48; refine (pick hd1 (by omega) (by omega) (by omega)).mono ?_)
  rintro e w2 ⟨r2, rfl, hs0, hs1, hd2, k2⟩
  have hs1' := hs1 (by omega)
  have g2 := grown_trans k1 k2
  clear hd1 hs1 k1 k2 hwr
  have SN := Lib.hid (specLineNew (1 + r1) r2 w2)
  rw [newV_ok (by omega) (by omega)] at SN
  go_wp2_with (go_at_call 72; refine SN.out.mono ?_)
  rintro e w3 ⟨v3, rfl, o3, b3⟩
  obtain ⟨a3, n3, d3, e3, m3, f3, rfl⟩ := own_form o3
  obtain ⟨V, hV⟩ : ∃ X, X = w3.alloc (.cells #[.slice a3 n3 d3, .slice e3 m3 f3] 26) := ⟨_, rfl⟩
  have hb := held_box (base := W.heap.size) o3 g2.size
  have bv := below_alloc w3 (.cells #[.slice a3 n3 d3, .slice e3 m3 f3] 26)
  rw [← hV] at hb bv
  have HV := Lib.hid hV.symm
  obtain ⟨l0, hl0⟩ : ∃ l0, l0 = newLn (1 + r1).toNat r2.toNat := ⟨_, rfl⟩
  rw [← hl0] at hb
  have len0 : (1 ≤ l0.1.length ∧ l0.1.length ≤ 4) ∧ l0.2.length ≤ 4 := by
    rw [hl0, (newLn_len _ _).1, (newLn_len _ _).2]; omega
  have lB : W.heap.size ≤ w3.heap.size := Nat.le_trans g2.size b3.size
  have GV := grown_trans (grown_trans g2 (grown_of_below b3 _)) (grown_of_below bv (some g))
  have hdV := (hd2.below b3 hd2.lt).below bv (Nat.lt_of_lt_of_le hd2.lt b3.size)
  obtain ⟨B, hB⟩ : ∃ B, B = w3.heap.size := ⟨_, rfl⟩
  rw [← hB] at hb lB
  clear hV g2 b3 bv o3 hd2 hl0 SN
  go_upto_region 2 with fail
  rw [HV.out, ← hB]
  clear hB
  go_wp2_with (go_at_call 48; refine (pick hdV (by omega) (by omega) (by omega)).mono ?_)
  rintro e w4 ⟨n, rfl, hn0, hn1, hd4, k4⟩
  have hn1' := hn1 (by omega)
  obtain ⟨N, rfl⟩ : ∃ N : Nat, n = N := ⟨n.toNat, by omega⟩
  have HB4 := Lib.hid (hb.grown k4 hgW lB)
  have G4 := Lib.hid (grown_trans GV k4)
  have R4 := Lib.hid hd4
  clear hb GV hdV hd4 k4 hn1 HV
  go_wp2_with fail
  go_loopw [6] (fun i wr => ∃ (k q : Nat) (l : Ln) (z1 z2 : Value), k ≤ N ∧ i = .int .i64 k ∧ q ≤ p + 3 + k ∧ ((1 ≤ l.1.length ∧ l.1.length ≤ 4) ∧ l.2.length ≤ 4) ∧ Hid (Rdr wr g q) ∧ Hid (HeldL wr B W.heap.size z1 z2 l) ∧ Hid (W.grownBy wr (some g))) (fun i _ => N - (intOf i).toNat)
  case atStart => exact ⟨0, p + 1 + 1 + 1, l0, _, _, by omega, rfl, by omega, len0, R4, HB4, G4⟩
  case round =>
    obtain ⟨k, q, l, z1, z2, hk, rfl, hq, hln, RZ, HZ, GZ⟩ := hrel
    obtain ⟨Z, hZ⟩ : ∃ X, X = wr := ⟨_, rfl⟩
    rw [← hZ] at RZ HZ GZ ⊢
    clear hZ
    obtain ⟨aZ, nZ, cZ, aY, nY, cY, rfl, rfl⟩ := (HeldL.twoSlices HZ.out)
    have x0 := HZ.out.box.cell0
    have x1 := HZ.out.box.cell1
    by_cases hlt : k < N
    · have hki : (k : Int) < (N : Int) := by omega
      have LM := Lib.hid (show Calls Try.prog 29 #[.agg #[.slice aZ nZ cZ, .slice aY nY cY]] Z (MadeMvs Z (lnMoves l)) from specLineMoves (heldLineV HZ.out (by omega) (by omega)))
      have LL := lnMoves_len l
      obtain ⟨ms, hms⟩ : ∃ ms, ms = lnMoves l := ⟨_, rfl⟩
      rw [← hms] at LM LL
      have HM := Lib.hid hms
      clear hms
      go_wp2_with (go_at_call 29; refine LM.out.mono ?_)
      rintro e w5 ⟨vm, rfl, om, b5⟩
      have R5 := Lib.hid (RZ.out.below b5 (RZ.out.lt))
      have H5 := Lib.hid (HZ.out.below b5)
      have G5 := Lib.hid (grown_trans GZ.out (grown_of_below b5 (some g)))
      rcases Ow.shape om with ⟨rfl, h0⟩ | ⟨gm, cm, rfl, hgm, hgl, hnc⟩
      · clear x0 x1 om b5
        go_wp2_with fail
        go_roundw
        case rel => exact ⟨k + 1, q, l, _, _, by omega, by go_num, by omega, hln, R5, H5, G5⟩
        case measure => simp [intOf]; omega
      · by_cases hm0 : 0 < ms.length
        · have hmi : (0 : Int) < (ms.length : Int) := by omega
          have OM := Lib.hid om
          have hgg : g < gm := Nat.lt_of_lt_of_le hgW (Nat.le_trans GZ.out.size hgm)
          have x0 := H5.out.box.cell0
          have x1 := H5.out.box.cell1
          have RD := Lib.hid (show Rdr w5.drew g q from R5.out)
          have HD := Lib.hid (show HeldL w5.drew B W.heap.size (.slice aZ nZ cZ) (.slice aY nY cY) l from H5.out.drew)
          have OD := Lib.hid (show OwnM w5.drew Z.heap.size (.slice (some ⟨gm, 0, none⟩) ms.length cm) ms from OM.out)
          have GD := Lib.hid (show W.grownBy w5.drew (some g) from ⟨G5.out.os, G5.out.tape, G5.out.output, G5.out.size, G5.out.block⟩)
          have ST := Lib.hid (fun (X : World) (i : Nat) (v : Value) (c : LineV X v l) => specLineStep (s := (ms.getD i noMv).1) (S := (ms.getD i noMv).2) c)
          clear om b5 R5 G5
          have NX := Lib.hid (fun (i : Nat) (hi : i < ms.length) => show ∃ x, lnStep l (ms.getD i noMv) = some x ∧ x.1.length = l.1.length ∧ x.2.length = l.2.length from by
            rw [HM.out] at hi ⊢
            exact lnMoves_do hi)
          have ST2 := Lib.hid (fun (X : World) (s : Int) (S : ByteArray) (v : Value) (c : LineV X v l) (x : Ln) (hx : lnStep l (s, S) = some x) => (show Calls Try.prog 18 #[v, .agg #[.int .i64 s, .string S]] X (MadeLineB X x true) from by
            have q := specLineStep (s := s) (S := S) c
            rw [hx] at q
            exact q))
          have NX2 := Lib.hid (fun (i : Nat) (hi : i < ms.length) (s : Int) (S : ByteArray) (h1 : s = (ms.getD i noMv).1) (h2 : S = (ms.getD i noMv).2) => show ∃ x, lnStep l (s, S) = some x ∧ x.1.length = l.1.length ∧ x.2.length = l.2.length from by
            rw [h1, h2]
            exact NX.out i hi)
          clear ST NX
          have d0 := HD.out.box.cell0
          have d1 := HD.out.box.cell1
          go_upto_region 8 with fail
          go_region_with (first
            | (go_at_call 48; refine (pick (n := (ms.length : Int)) RD.out (by omega) (by omega) (by omega)).mono ?_; rintro e wA ⟨rr, rfl, hrr0, hrr1, hrdA, kA⟩; obtain ⟨rn, rfl⟩ := Int.eq_ofNat_of_zero_le hrr0; have hrn := hrr1 (by omega); have hrm : rn < ms.length := (by omega); have hA := HD.out.grown kA hgW lB; have x0 := hA.box.cell0; have x1 := hA.box.cell1; have oA := Ow.kept OD.out kA (.inr (by intro e; simp only [Value.ownBlock, Option.some.injEq] at e; omega)); have m0 := Ow.cell oA (q := rn * 2) (by omega); have m1 := Ow.cell oA (q := rn * 2 + 1) (by omega); rw [mvF0] at m0; rw [mvF1] at m1; obtain ⟨ls, hls⟩ : ∃ s, s = (ms.getD rn noMv).1 := ⟨_, rfl⟩; obtain ⟨lS, hlS⟩ : ∃ s, s = (ms.getD rn noMv).2 := ⟨_, rfl⟩; rw [← hls] at m0; rw [← hlS] at m1; have NXL := Lib.hid (NX2.out rn hrm ls lS hls hlS); clear hls hlS; have HA := Lib.hid hA; have gA := Lib.hid (grown_trans GD.out kA); have RA := Lib.hid hrdA; clear hrr1 hrr0 hA oA kA hrdA)
            | (go_at_call 18; obtain ⟨xl, hxl, hx1, hx2⟩ := NXL.out; have HXL := Lib.hid (And.intro hxl (And.intro hx1 hx2)); clear hxl hx1 hx2; refine (ST2.out _ ls lS _ (heldLineV HA.out (by omega) (by omega)) xl HXL.out.1).mono ?_; rintro e wC ⟨vC, rfl, oC, bC⟩; obtain ⟨a4, n4, c4, a5, n5, c5, rfl⟩ := own_form oC; have HC := Lib.hid (HA.out.below bC); have z0 := HC.out.box.cell0; have z1 := HC.out.box.cell1; have y0 := HC.out.box.frozen 0; have y1 := HC.out.box.frozen 1; have OC := Lib.hid oC; have BC := Lib.hid bC; clear oC bC)
            | fail)
          all_goals
            obtain ⟨hx0, hx1, hx2⟩ := HXL.out
            obtain ⟨u1, u2, eu, ou1, ou2, -⟩ := OC.out
            simp only [Value.agg.injEq, Array.mk.injEq, List.cons.injEq, and_true] at eu
            obtain ⟨rfl, rfl⟩ := eu
            have hbs : W.heap.size ≤ wA.heap.size := gA.out.size
            have HS := Lib.hid (held_store HC.out.box (Ow.mono ou1 hbs) (ou2.mono hbs))
            have RS := Lib.hid ((RA.out.below BC.out RA.out.lt).pair (C := B) (by omega) (.slice a4 n4 c4) (.slice a5 n5 c5))
            have GS := Lib.hid (grown_pair (C := B) (grown_late gA.out (grown_of_below BC.out none) (fun b e => by cases e)) lB (.slice a4 n4 c4) (.slice a5 n5 c5))
            clear ou1 ou2 hx0 OC HXL
            go_wp2_with fail
            go_roundw
            case rel => exact ⟨k + 1, q + 1, xl, _, _, by omega, by go_num, by omega, by omega, RS, HS, GS⟩
            case measure => simp [intOf]; omega
        · have hm1 : ms.length = 0 := by omega
          rw [hm1]
          clear x0 x1 om b5
          go_wp2_with fail
          go_roundw
          case rel => exact ⟨k + 1, q, l, _, _, by omega, by go_num, by omega, hln, R5, H5, G5⟩
          case measure => simp [intOf]; omega
    · obtain rfl : k = N := by omega
      have hlW : w.heap.size < W.heap.size := by rw [← HW.out]; simp
      have GW := Lib.hid (grown_trans (grown_of_below Q0.out (some g)) GZ.out)
      have PR := Lib.hid (P2.out.kept GZ.out (fun c e => by simp only [Option.some.injEq] at e; omega))
      clear x0 x1 hlt
      go_wp2_with (go_at_call 48; refine (pick RZ.out (by omega) (by omega) (by omega)).mono ?_)
      rintro e w5 ⟨r, rfl, hr0, hr1, hr5, g5⟩
      have H5 := Lib.hid (HZ.out.grown g5 hgW lB)
      have G5 := Lib.hid (grown_trans GW.out g5)
      have P5 := Lib.hid (PR.out.kept g5 (fun c e => by simp only [Option.some.injEq] at e; omega))
      have R5 := Lib.hid hr5
      have x0 := H5.out.box.cell0
      have x1 := H5.out.box.cell1
      have hq5 : q + 1 ≤ p + 40 := by omega
      clear g5 hr5 hr1
      by_cases h0 : r = 0
      · subst h0
        rcases Ow.shape H5.out.blocks with ⟨_, e0⟩ | ⟨gb, cb, eb, hgb, hgl, hnc⟩
        · omega
        simp only [Value.slice.injEq] at eb
        obtain ⟨rfl, rfl, rfl⟩ := eb
        have hp := HeldL.put H5.out rfl (i := 0) (by omega) (2, true, false)
        simp only [Nat.zero_mul, Nat.zero_add] at hp
        have c0 := Ow.cell H5.out.blocks (q := 0) (by omega)
        have c1 := Ow.cell H5.out.blocks (q := 1) (by omega)
        have c2 := Ow.cell H5.out.blocks (q := 2) (by omega)
        have d0 := Ow.frozen H5.out.blocks 0
        have d1 := Ow.frozen H5.out.blocks 1
        have d2 := Ow.frozen H5.out.blocks 2
        have hli : (0 : Int) < (l.1.length : Int) := by omega
        have hgr := grown_three w5 gb (.int .i64 2) (.bool true) (.bool false)
        obtain ⟨X, hX⟩ : ∃ X, X = ((w5.setCell ⟨gb, 0, none⟩ (.int .i64 2)).setCell ⟨gb, 1, none⟩ (.bool true)).setCell ⟨gb, 2, none⟩ (.bool false) := ⟨_, rfl⟩
        have hp : HeldL X B W.heap.size (.slice (some ⟨gb, 0, none⟩) l.1.length cZ) (.slice aY nY cY) (l.1.set 0 (2, true, false), l.2) := by rw [hX]; exact hp
        rw [← hX] at hgr
        have HX := Lib.hid hX.symm
        have P6 := Lib.hid (P5.out.kept hgr (fun c e => by simp only [Option.some.injEq] at e; omega))
        have R6 := Lib.hid (R5.out.grown hgr (fun b e => by cases e; omega))
        have G6 := Lib.hid (grown_late G5.out hgr (fun b e => by cases e; omega))
        have E := Lib.hid (line_endD (C := w.heap.size) hp P6.out R6.out hgw G6.out (Nat.le_refl _) (by omega))
        have z0 := hp.box.cell0
        have z1 := hp.box.cell1
        have f0 := P6.out.frozen 0
        have f1 := P6.out.frozen 1
        have y0 := P6.out.cell0
        have y1 := P6.out.cell1
        have k0 := E.out.1.cell0
        have k1 := E.out.1.cell1
        have hs : (l.1.set 0 ((2 : Int), true, false)).length = l.1.length := by simp
        clear hX hp hgr
        go_upto_region 17 with fail
        rw [HX.out]
        clear c0 c1 c2 d0 d1 d2 x0 x1
        go_wp2_with fail
        exact bodyPost_ret (v := .agg #[.slice (some ⟨gb, 0, none⟩) l.1.length cZ, .slice aY nY cY]) (by simp [results, Try.results38, go_sem, k0, k1]) rfl ⟨_, q + 1, _, rfl, E.out.2.1, by simp only [hs]; omega, by simp only; omega, E.out.2.2.1, hq5, E.out.2.2.2⟩
      have t0 : (r == 0) = false := beq_eq_false_iff_ne.2 h0
      by_cases h1 : r = 1
      · subst h1
        obtain ⟨i0, hi, hz0, hz1, hz2⟩ := info_parts info_int
        obtain ⟨_, _, eb⟩ := Ow.slice H5.out.blocks
        simp only [Value.slice.injEq] at eb
        obtain ⟨rfl, rfl, rfl⟩ := eb
        have hwm : IntKind.i64.wrap (2 * (l.1.length : Int)) = 2 * (l.1.length : Int) := IntWalk.i64_in _ (by omega)
        have hor := H5.out.trains
        have hyn : nY = l.2.length := by
          have := hor.1
          rcases hor.2 with ⟨e, h⟩ | ⟨_, _, _, e, _⟩ <;> (simp only [Value.slice.injEq] at e; omega)
        subst hyn
        have lw5 : W.heap.size ≤ w5.heap.size := by have := G5.out.size; have := HZ.out.box.lt; have := H5.out.box.lt; omega
        unfold OwnI at hor
        clear h0
        go_wp2_with (at_builtin; refine wpList_append_own _ rfl _ _ 24 rfl W.heap.size 3 i0 (.int .i64 0) 1 8 Try.underlying24 hi hz0 hz1 hz2 rfl (by decide) _ _ _ rfl (hor.alloc _) ⟨w5.heap.size, 0, none⟩ 1 1 [.int .i64 (2 * (l.1.length : Int))] rfl rfl ?c1 ?c2 ?c3 ?c4 ?c5 ?_)
        case c1 => exact one_new _ _ _
        case c2 => intro u hu; simp at hu; subst hu; rfl
        case c3 => simp only [maxLen]; omega
        case c4 => omega
        case c5 => simp; omega
        intro v' w6 hown' hgrow _
        have hlow : ∀ b, (Value.slice aY l.2.length cY).ownBlock = some b → W.heap.size ≤ b := fun b e => (World.ownsRow.lt hor b e).1
        have hne := H5.out.apart.1
        have oT : OwnI w6 W.heap.size v' (l.2 ++ [2 * (l.1.length : Int)]) := by
          unfold OwnI
          rw [List.length_append, List.map_append]
          exact hown'
        obtain ⟨a6, n6, c6, rfl⟩ := own_is_slice oT
        have hb6 : Pair w6 B (.slice aZ l.1.length cZ) (.slice aY l.2.length cY) 26 := (H5.out.box.alloc _).kept hgrow (fun c e q => away_types (ownI_ow H5.out.trains) H5.out.box (by decide) (by rw [q]; exact e))
        have oB6 : OwnB w6 W.heap.size (.slice aZ l.1.length cZ) l.1 := Ow.kept (ownB_alloc H5.out.blocks _) hgrow hne
        have G6 := grown_late (grown_trans G5.out (World.grownBy_alloc w5 (.cells #[.int .i64 (2 * (l.1.length : Int))] 3) (some g))) hgrow (fun b e => by have := hlow b e; omega)
        have R6 := (R5.out.below (below_alloc w5 (.cells #[.int .i64 (2 * (l.1.length : Int))] 3)) R5.out.lt).grown hgrow (fun b e => by have := hlow b e; omega)
        have P6 := (P5.out.alloc (.cells #[.int .i64 (2 * (l.1.length : Int))] 3)).kept hgrow (fun c e => by have := hlow c e; omega)
        have hp : HeldL (w6.setCell ⟨B, 1, none⟩ (.slice a6 n6 c6)) B W.heap.size (.slice aZ l.1.length cZ) (.slice a6 n6 c6) (l.1, l.2 ++ [2 * (l.1.length : Int)]) := ⟨hb6.set1 _, ownsRow_setCell_other oB6 (a := ⟨B, 1, none⟩) (away_types oB6 hb6 (by decide)) _, ownsRow_setCell_other oT (a := ⟨B, 1, none⟩) (away_types (ownI_ow oT) hb6 (by decide)) _⟩
        have hgr := grown_set w6 B 1 (.slice a6 n6 c6)
        have hf6 := hb6.frozen 1
        have hc6 := hb6.cell1
        have hc60 := hb6.cell0
        obtain ⟨X, hX⟩ : ∃ X, X = w6.setCell ⟨B, 1, none⟩ (.slice a6 n6 c6) := ⟨_, rfl⟩
        rw [← hX] at hp hgr
        have HX := Lib.hid hX.symm
        have hlB : W.heap.size ≤ B := lB
        have P7 := Lib.hid (P6.kept hgr (fun c e => by simp only [Option.some.injEq] at e; omega))
        have R7 := Lib.hid (R6.grown hgr (fun b e => by cases e; omega))
        have G7 := Lib.hid (grown_late G6 hgr (fun b e => by cases e; omega))
        have E := Lib.hid (line_endD (C := w.heap.size) hp P7.out R7.out hgw G7.out (Nat.le_refl _) (by omega))
        have z0 := hp.box.cell0
        have z1 := hp.box.cell1
        have f0 := P7.out.frozen 0
        have f1 := P7.out.frozen 1
        have y0 := P7.out.cell0
        have y1 := P7.out.cell1
        have k0 := E.out.1.cell0
        have k1 := E.out.1.cell1
        clear hX hp hgr P6 R6 G6 oT oB6 hb6 hown' hgrow hor
        go_upto_region 17 with fail
        rw [HX.out]
        clear hc6 hc60 hf6
        go_wp2_with fail
        exact bodyPost_ret (v := .agg #[.slice aZ l.1.length cZ, .slice a6 n6 c6]) (by simp [results, Try.results38, go_sem, k0, k1]) rfl ⟨_, q + 1, _, rfl, E.out.2.1, by simp only; omega, by simp; omega, E.out.2.2.1, hq5, E.out.2.2.2⟩
      have t1 : (r == 1) = false := beq_eq_false_iff_ne.2 h1
      by_cases h2 : r = 2
      · subst h2
        have hyn : nY = l.2.length := by
          have hor := H5.out.trains
          rcases hor.2 with ⟨e, h⟩ | ⟨_, _, _, e, _⟩ <;> (simp only [Value.slice.injEq] at e; omega)
        by_cases hl0 : nY = 0
        · subst hl0
          clear hyn
          have f0 := P5.out.frozen 0
          have f1 := P5.out.frozen 1
          have y0 := P5.out.cell0
          have y1 := P5.out.cell1
          have E := Lib.hid (line_endD (C := w.heap.size) H5.out P5.out R5.out hgw G5.out (Nat.le_refl _) (by omega))
          have k0 := E.out.1.cell0
          have k1 := E.out.1.cell1
          clear h0 h1
          go_wp2_with fail
          exact bodyPost_ret (v := .agg #[.slice aZ nZ cZ, .slice aY 0 cY]) (by simp [results, Try.results38, go_sem, k0, k1]) rfl ⟨l, q + 1, _, rfl, E.out.2.1, by omega, by omega, E.out.2.2.1, hq5, E.out.2.2.2⟩
        subst hyn
        have tl : (0 : Int) < (l.2.length : Int) := by omega
        obtain ⟨_, _, eb⟩ := Ow.slice H5.out.blocks
        simp only [Value.slice.injEq] at eb
        obtain ⟨rfl, rfl, rfl⟩ := eb
        rcases Ow.shape (ownI_ow H5.out.trains) with ⟨_, e0⟩ | ⟨gt, ct, et, hgt, htl, hnt⟩
        · omega
        simp only [Value.slice.injEq, true_and] at et
        obtain ⟨rfl, rfl⟩ := et
        have S5 : DrSt w g B W.heap.size (.slice aZ l.1.length cZ) (.slice (some ⟨gt, 0, none⟩) l.2.length cY) l w5 := ⟨H5.out, P5.out, G5.out⟩
        have hwm : IntKind.i64.wrap (2 * (l.1.length : Int)) = 2 * (l.1.length : Int) := IntWalk.i64_in _ (by omega)
        have hwm2 : IntKind.i64.wrap (2 * (l.1.length : Int) + 1) = 2 * (l.1.length : Int) + 1 := IntWalk.i64_in _ (by omega)
        obtain ⟨O, hO⟩ : ∃ O, O = Obj.cells #[.int .i64 (-1), .int .i64 (2 * (l.1.length : Int) + 1), .int .i64 1] 3 := ⟨_, rfl⟩
        have SA := Lib.hid (show DrSt w g B W.heap.size (.slice aZ l.1.length cZ) (.slice (some ⟨gt, 0, none⟩) l.2.length cY) l (w5.alloc O).drew from S5.below (below_alloc w5 O).drew)
        have SD := Lib.hid (show DrSt w g B W.heap.size (.slice aZ l.1.length cZ) (.slice (some ⟨gt, 0, none⟩) l.2.length cY) l w5.drew from S5.below (Below.refl _ _).drew)
        have RA := Lib.hid (show Rdr (w5.alloc O).drew g (q + 1) from R5.out.below (below_alloc w5 O).drew R5.out.lt)
        have RD := Lib.hid (show Rdr w5.drew g (q + 1) from R5.out.below (Below.refl _ _).drew R5.out.lt)
        have SP := Lib.hid (fun (Y Z : World) (h : DrSt w g B W.heap.size (.slice aZ l.1.length cZ) (.slice (some ⟨gt, 0, none⟩) l.2.length cY) l Y) (k : Y.grownBy Z (some g)) => h.pick hgw hlW lB k)
        have SN := Lib.hid (fun (Y : World) (h : DrSt w g B W.heap.size (.slice aZ l.1.length cZ) (.slice (some ⟨gt, 0, none⟩) l.2.length cY) l Y) (o : Obj) => h.below (below_alloc Y o))
        have CE := Lib.hid (fun (Y : World) (h : DrSt w g B W.heap.size (.slice aZ l.1.length cZ) (.slice (some ⟨gt, 0, none⟩) l.2.length cY) l Y) => And.intro h.1.box.cell0 (And.intro h.1.box.cell1 (And.intro (Ow.cell (ownI_ow h.1.trains) (q := 0) (by omega)) (Ow.frozen (ownI_ow h.1.trains) 0))))
        have GA := Lib.hid (fun (w4 : World) (g4 : (w5.alloc O).drew.grownBy w4 (some g)) (r4 : Int) (a0 : 0 ≤ r4) (a1 : r4 < 3) =>
          show ∃ x : Int, w4.cell? ⟨w5.heap.size, r4.toNat, none⟩ = some (.int .i64 x) from by
            have hg3 := R5.out.lt
            have lt : w5.heap.size < (w5.alloc O).drew.heap.size := by simp
            obtain ⟨x, hx⟩ := threeL (2 * (l.1.length : Int) + 1) r4 a0 a1
            refine ⟨x, (World.cell?_of_block (g4.block _ lt (fun e => by simp only [Option.some.injEq] at e; omega))).trans ?_⟩
            exact litL _ _ _ _ _ _ _ rfl hO hx)
        have GB := Lib.hid (fun (w4 : World) (r4 : Int) (a0 : 0 ≤ r4) (a1 : r4 < 3) =>
          show ∃ x : Int, (w4.alloc O).cell? ⟨w4.heap.size, r4.toNat, none⟩ = some (.int .i64 x) from by
            obtain ⟨x, hx⟩ := threeL (2 * (l.1.length : Int) + 1) r4 a0 a1
            exact ⟨x, litL _ _ _ _ _ _ _ rfl hO hx⟩)
        subst hO
        have v := CE.out _ (S5.below (below_alloc w5 (Obj.cells #[.int .i64 (-1), .int .i64 (2 * (l.1.length : Int) + 1), .int .i64 1] 3)))
        obtain ⟨v0, v1, -, -⟩ := v
        clear h0 h1 S5 P2 Q0 GZ GW HW
        go_upto_region 16 with fail
        clear tl
        go_region_with (first
          | (go_at_call 48; refine (pick (n := 3) RA.out (by omega) (by omega) (by omega)).mono ?_; rintro e wA ⟨r4, rfl, ra0, ra1, hrA, g4⟩; have ra2 := ra1 (by omega); have SY := Lib.hid (SP.out _ _ SA.out g4); obtain ⟨z0, z1, z2, z3⟩ := CE.out _ SY.out; obtain ⟨x, hx⟩ := GA.out _ g4 r4 ra0 ra2; have RY := Lib.hid hrA; clear ra1 hrA g4)
          | (go_at_call 48; refine (pick (n := 3) RD.out (by omega) (by omega) (by omega)).mono ?_; rintro e wA ⟨r4, rfl, ra0, ra1, hrA, g4⟩; have ra2 := ra1 (by omega); have SX := Lib.hid (SP.out _ _ SD.out g4); obtain ⟨y0, y1, -, -⟩ := CE.out _ SX.out; have SY := Lib.hid (SN.out _ SX.out (Obj.cells #[.int .i64 (-1), .int .i64 (2 * (l.1.length : Int) + 1), .int .i64 1] 3)); obtain ⟨z0, z1, z2, z3⟩ := CE.out _ SY.out; obtain ⟨x, hx⟩ := GB.out wA r4 ra0 ra2; have RY := Lib.hid (hrA.below (below_alloc wA (Obj.cells #[.int .i64 (-1), .int .i64 (2 * (l.1.length : Int) + 1), .int .i64 1] 3)) hrA.lt); clear ra1 hrA g4)
          | fail)
        all_goals
          obtain ⟨X, hX, hgo, p6, r6, g6⟩ := DrSt.go1 SY.out rfl RY.out hgw hlW hgt x
          have HX := Lib.hid hX
          have E := Lib.hid (line_endD (C := w.heap.size) hgo p6 r6 hgw g6 (Nat.le_refl _) (by omega))
          have X0 := hgo.box.cell0
          have X1 := hgo.box.cell1
          have f0 := p6.frozen 0
          have f1 := p6.frozen 1
          have y0 := p6.cell0
          have y1 := p6.cell1
          have k0 := E.out.1.cell0
          have k1 := E.out.1.cell1
          clear hX hgo p6 r6 g6 z0 z1 z2 z3 hx x0 x1 v0 v1
          go_upto_region 17 with fail
          rw [HX.out]
          go_wp2_with fail
          exact bodyPost_ret (v := .agg #[.slice aZ l.1.length cZ, .slice (some ⟨gt, 0, none⟩) l.2.length cY]) (by simp [results, Try.results38, go_sem, k0, k1]) rfl ⟨_, q + 1 + 1, _, rfl, E.out.2.1, by simp only; omega, by simp; omega, E.out.2.2.1, by omega, E.out.2.2.2⟩
      have t2 : (r == 2) = false := beq_eq_false_iff_ne.2 h2
      have f0 := P5.out.frozen 0
      have f1 := P5.out.frozen 1
      have y0 := P5.out.cell0
      have y1 := P5.out.cell1
      have E := Lib.hid (line_endD (C := w.heap.size) H5.out P5.out R5.out hgw G5.out (Nat.le_refl _) (by omega))
      have k0 := E.out.1.cell0
      have k1 := E.out.1.cell1
      clear h0 h1 h2
      go_wp2_with fail
      exact bodyPost_ret (v := .agg #[.slice aZ nZ cZ, .slice aY nY cY]) (by simp [results, Try.results38, go_sem, k0, k1]) rfl ⟨l, q + 1, _, rfl, E.out.2.1, by omega, by omega, E.out.2.2.1, hq5, E.out.2.2.2⟩

end Go.Proofs.Ytpofkfcjnhoamaa
