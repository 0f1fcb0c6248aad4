/-
  The program's isEvent and registerOf. For at most 1048576 notes.
-/
import Derived.Test.YtilkphehonilbaaBackI
import Derived.Test.YtilkphehonilbaaChain
import Derived.Test.YtilkphehonilbaaNoteP
import Derived.Test.YtilkphehonilbaaShelf
import Derived.Maps.AppendAt
namespace Go.Proofs.Ytilkphehonilbaa
open Go.RowKit Go.Shelf

theorem ev_contains (c : UInt8) : decide (0 ≤ Lib.indexByte [97, 99, 101, 102, 108, 111, 114] c) = evB ⟨#[c]⟩ := by
  have h : ∀ n : Fin 256, decide (0 ≤ Lib.indexByte [97, 99, 101, 102, 108, 111, 114] (UInt8.ofNat n.val)) = (List.range 7).any fun k => decide (UInt8.ofNat n.val = ltB k) := by decide +kernel
  have hc := h ⟨c.toNat, c.toNat_lt⟩
  simp only [UInt8.ofNat_toNat] at hc
  rw [hc]
  unfold evB
  congr 1
  funext k
  congr 1
  unfold ltS
  simp

set_option maxHeartbeats 400000 in
theorem implEvent (s : ByteArray) (w : World) : Calls Try.prog 36 #[.string s] w fun e w' => e = .returned (.bool (evB s)) ∧ w' = w := by
  by_cases h : s.size = 1
  · obtain ⟨c, rfl⟩ : ∃ c, s = ⟨#[c]⟩ := by
      have hd : s.data.size = 1 := h
      obtain ⟨c, hc⟩ : ∃ c, s.data = #[c] := by
        have := Array.size_eq_one_iff.1 hd
        exact this
      exact ⟨c, by rw [← hc]⟩
    have hc := Try.strings_Contains_one ⟨#[97, 99, 101, 102, 108, 111, 114]⟩ c
    have e1 : decide ((1 : Int) = 1) = true := rfl
    have EV := Lib.hid (ev_contains c)
    clear h
    go_enter Try.func36, Try.ntmps36
    go_wp2_with (go_at_call 48; refine (hc _).mono ?_; rintro e w' ⟨rfl, rfl⟩)
    go_ret
    exact ⟨ret_bool EV.out, rfl⟩
  · have hi : ¬ (s.size : Int) = 1 := by omega
    have hb : decide ((s.size : Int) = 1) = false := decide_eq_false hi
    have hf : evB s = false := evB_no fun k _ e => h (by rw [e]; exact ltS_size k)
    rw [hf]
    clear h hf
    go_enter Try.func36, Try.ntmps36
    go_wp2_with fail
    go_ret
    exact ⟨rfl, rfl⟩

/-- The notes that have come from behind, in their order. -/
def cam (pre : List (Nat × Mv)) : List Mv := (pre.map (·.2)).reverse
theorem cam_snoc (pre : List (Nat × Mv)) (x : Nat × Mv) : cam (pre ++ [x]) = x.2 :: cam pre := by simp [cam]
theorem cam_nil : cam [] = [] := rfl
def hdM : List Mv → Int
  | [] => 2000
  | y :: _ => y.1
def okR (r : List Mv) : Prop := ∀ i, i < r.length → bwdAt r i = true
theorem bwdAt_cons (x : Mv) (r : List Mv) (i : Nat) : bwdAt (x :: r) (i + 1) = bwdAt r i := by
  unfold bwdAt nextM
  simp
theorem bwdAt_head (x : Mv) (r : List Mv) : bwdAt (x :: r) 0 = (decide (0 ≤ x.1 ∧ x.1 ≤ hdM r) && evB x.2) := by
  have e : nextM (x :: r) 0 = hdM r := by cases r <;> simp [nextM, hdM]
  unfold bwdAt
  rw [e]
  rfl
theorem okR_cons {x : Mv} {r : List Mv} (h : okR r) (hx : bwdAt (x :: r) 0 = true) : okR (x :: r) := by
  intro i hi
  cases i with
  | zero => exact hx
  | succ i => rw [bwdAt_cons]; exact h i (by simpa using hi)
theorem cam_upto {ns : List Mv} {k : Nat} (hk : k ≤ ns.length) : cam (upto (bkw ns) k) = ns.drop (ns.length - k) := by
  induction k with
  | zero => simp [upto, cam]
  | succ k ih =>
    rw [upto_succ, cam_snoc, ih (by omega)]
    have e : ns.length - (k + 1) < ns.length := by omega
    rw [List.drop_eq_getElem_cons e, show ns.length - (k + 1) + 1 = ns.length - k by omega]
    congr 1
    unfold bkw
    rw [show ns.length - 1 - k = ns.length - (k + 1) by omega]
    simp [e]
theorem bwdAt_drop {ns : List Mv} {j : Nat} : bwdAt (ns.drop j) 0 = bwdAt ns j := by
  induction j generalizing ns with
  | zero => rfl
  | succ j ih =>
    cases ns with
    | nil => simp [bwdAt, nextM]
    | cons x r => rw [List.drop_succ_cons, ih, bwdAt_cons]
/-- The notes of a register; none of a list that is none. -/
def regL (ns : List Mv) : List Mv := if regB ns = true then ns else []
theorem regL_yes {ns : List Mv} (h : regB ns = true) : regL ns = ns := by unfold regL; rw [if_pos h]
theorem regL_no {ns : List Mv} (h : regB ns = false) : regL ns = [] := by unfold regL; rw [if_neg (by simp [h])]
theorem regB_nil : regB [] = true := rfl
theorem regL_reg (ns : List Mv) : regB (regL ns) = true := by
  cases h : regB ns
  · rw [regL_no h]; rfl
  · rw [regL_yes h]; exact h
def regP (ns : List Mv) (w : World) (e : Ending) (w' : World) : Prop := ∃ p, e = .returned (.tuple #[p, .bool (regB ns)]) ∧ Chain w' p (regL ns) ∧ Below w.heap.size w w'
def BoxN (W : World) (B : Nat) (x : Mv) : Prop := W.heap[B]? = some (.cells #[.int .i64 x.1, .string x.2] 42)
theorem BoxN.cells {W : World} {B : Nat} {x : Mv} (h : BoxN W B x) : W.cell? ⟨B, 0, none⟩ = some (.int .i64 x.1) ∧ W.cell? ⟨B, 1, none⟩ = some (.string x.2) := ⟨by simp [World.cell?, show W.heap[B]? = _ from h], by simp [World.cell?, show W.heap[B]? = _ from h]⟩
theorem BoxN.kept {W W' : World} {row : Option Nat} {B : Nat} {x : Mv} (h : BoxN W B x) (hg : W.grownBy W' row) (hne : some B ≠ row) : BoxN W' B x := (hg.block B (Array.getElem?_eq_some_iff.1 h).1 hne).trans h
theorem BoxN.turn {W W' : World} {row : Option Nat} {B : Nat} {x : Mv} (h : BoxN W B x) (hg : W.grownBy W' row) (hrow : ∀ r, row = some r → ∃ o : Obj, W.heap[r]? = some o ∧ o.isCells = false) : BoxN W' B x :=
  (hg.block B (Array.getElem?_eq_some_iff.1 h).1 (fun e => by obtain ⟨o, ho, hc⟩ := hrow B e.symm; rw [show W.heap[B]? = _ from h] at ho; cases ho; cases hc)).trans h
theorem boxed_turn {W W' : World} {row : Option Nat} {B : Nat} {t : TypeId} {v : Value} (h : Boxed W B t v) (hg : W.grownBy W' row) (hrow : ∀ r, row = some r → ∃ o : Obj, W.heap[r]? = some o ∧ o.isCells = false) : Boxed W' B t v :=
  h.kept hg (fun e => by obtain ⟨o, ho, hc⟩ := hrow B e.symm; rw [show W.heap[B]? = _ from h] at ho; cases ho; cases hc)

attribute [local go_sem] Oper.semAt_some
set_option maxRecDepth 100000 in
set_option maxHeartbeats 4000000 in
theorem implRegisterOf {w : World} {v : Value} {ns : List Mv} (h : Mvs w v ns) : Calls Try.prog 22 #[v] w (regP ns w) := by
  obtain ⟨a, cap, rfl⟩ := Rd.slice h
  have hl := Rd.len h
  have hl' : (ns.length : Int) ≤ 1048576 := by omega
  have LOW := Lib.hid (Mvs.low h)
  clear h
  refine (callsIn_wide (n := 4)).1 ?_
  refine callsIn_of_wp_marks Try.func22 rfl trivial ?_ rfl
  simp only [Try.ntmps22, List.size_toArray, List.length_cons, List.length_nil, Nat.reduceAdd, Nat.reduceSub, Array.replicate_succ, Array.replicate_zero, List.push_toArray, List.append_toArray, List.nil_append, List.cons_append]
  rcases Nat.lt_or_ge 30 ns.length with hbig | hsm
  · have hb : (30 : Int) < (ns.length : Int) := by omega
    have RB := Lib.hid (regB_long hbig)
    gi_wp2
    refine ⟨.tuple #[.pointer none, .bool false], ?_, ⟨.pointer none, by rw [RB.out], by rw [regL_no RB.out]; rfl, ((Below.refl _ w).alloc (Nat.le_refl _) _).alloc (by simp) _⟩⟩
    simp [results, Try.f22, go_sem]
  · have hs : ¬ (30 : Int) < (ns.length : Int) := by omega
    gi_wp2_with (refine ⟨trivial, ?_⟩; gi_at_call 35; refine (back_in Fence.wide _ trivial rfl _ _ _ _).mono ?_; rintro e w' ⟨rfl, rfl⟩)
    have b1 := ((((Boxed.new w 48 (.pointer none)).alloc (.cells #[.bool false] 4)).alloc (.cells #[.pointer none] 48)).alloc (.cells #[.int .i64 2000] 3)).alloc (.cells #[.slice a ns.length cap] 23)
    have b2 := (((Boxed.new (w.alloc (.cells #[.pointer none] 48)) 4 (.bool false)).alloc (.cells #[.pointer none] 48)).alloc (.cells #[.int .i64 2000] 3)).alloc (.cells #[.slice a ns.length cap] 23)
    have b3 := ((Boxed.new ((w.alloc (.cells #[.pointer none] 48)).alloc (.cells #[.bool false] 4)) 48 (.pointer none)).alloc (.cells #[.int .i64 2000] 3)).alloc (.cells #[.slice a ns.length cap] 23)
    have b4 := (Boxed.new (((w.alloc (.cells #[.pointer none] 48)).alloc (.cells #[.bool false] 4)).alloc (.cells #[.pointer none] 48)) 3 (.int .i64 2000)).alloc (.cells #[.slice a ns.length cap] 23)
    have b5 := Boxed.new ((((w.alloc (.cells #[.pointer none] 48)).alloc (.cells #[.bool false] 4)).alloc (.cells #[.pointer none] 48)).alloc (.cells #[.int .i64 2000] 3)) 23 (.slice a ns.length cap)
    simp only [World.size_alloc] at b2 b3 b4 b5
    have hB0 : Below w.heap.size w (((((w.alloc (.cells #[.pointer none] 48)).alloc (.cells #[.bool false] 4)).alloc (.cells #[.pointer none] 48)).alloc (.cells #[.int .i64 2000] 3)).alloc (.cells #[.slice a ns.length cap] 23)) := (((((Below.refl _ w).alloc (Nat.le_refl _) _).alloc (by simp) _).alloc (by simp; omega) _).alloc (by simp; omega) _).alloc (by simp; omega) _
    have hsz : (((((w.alloc (.cells #[.pointer none] 48)).alloc (.cells #[.bool false] 4)).alloc (.cells #[.pointer none] 48)).alloc (.cells #[.int .i64 2000] 3)).alloc (.cells #[.slice a ns.length cap] 23)).heap.size = w.heap.size + 5 := by simp
    obtain ⟨W0, hW0⟩ : ∃ W0, ((((w.alloc (.cells #[.pointer none] 48)).alloc (.cells #[.bool false] 4)).alloc (.cells #[.pointer none] 48)).alloc (.cells #[.int .i64 2000] 3)).alloc (.cells #[.slice a ns.length cap] 23) = W0 := ⟨_, rfl⟩
    rw [hW0] at b1 b2 b3 b4 b5 hB0 hsz ⊢
    clear hW0
    have hLo := LOW.out.below hB0
    refine wpIn_rangeFunc_ownH rfl (by omega) (gf := 47) (lb := #[.pointer (some ⟨w.heap.size + 1 + 1 + 1 + 1, 0, none⟩)]) rfl trivial (enters_of Try.func47 (by kernel_rfl) rfl)
      (back_stops Fence.wide _ trivial rfl (by omega) (w.heap.size + 1 + 1 + 1 + 1) w.heap.size _ ns hl W0 (by omega) (by omega) b5.cell hLo) keepsB_t (keepsB_b (by omega)) (Below.refl _ _) (fun _ => rfl)
      (fun pre W => (Boxed W w.heap.size 48 (.pointer none) ∧ Boxed W (w.heap.size + 1) 4 (.bool false) ∧ (∃ p, Boxed W (w.heap.size + 1 + 1) 48 p ∧ Chain W p (cam pre)) ∧ Boxed W (w.heap.size + 1 + 1 + 1) 3 (.int .i64 (hdM (cam pre))) ∧ Boxed W (w.heap.size + 1 + 1 + 1 + 1) 23 (.slice a ns.length cap) ∧ okR (cam pre)) ∧ Below w.heap.size w W)
      (fun c pre W => (c = .ret ∧ pre ≠ [] ∧ bwdAt (cam pre) 0 = false ∧ Boxed W w.heap.size 48 (.pointer none) ∧ Boxed W (w.heap.size + 1) 4 (.bool false)) ∧ Below w.heap.size w W)
      (OwnFrom.and (Own.from (fun s X Y row hs hg hr => by
        obtain ⟨h1, h2, ⟨p, h3, h4⟩, h5, h6, h7⟩ := hs
        exact ⟨boxed_turn h1 hg hr, boxed_turn h2 hg hr, ⟨p, boxed_turn h3 hg hr, h4.turn hg hr⟩, boxed_turn h5 hg hr, boxed_turn h6 hg hr, h7⟩) _) (ownFrom_below (Nat.le_refl _) (by omega)))
      (fun c => OwnFrom.and (Own.from (fun s X Y row hs hg hr => by
        obtain ⟨h1, h2, h3, h4, h5⟩ := hs
        exact ⟨h1, h2, h3, boxed_turn h4 hg hr, boxed_turn h5 hg hr⟩) _) (ownFrom_below (Nat.le_refl _) (by omega)))
      ⟨⟨b1, b2, ⟨_, b3, rfl⟩, b4, b5, fun i hi => by simp [cam] at hi⟩, hB0⟩
      (fun x a' W => ∃ Bx, w.heap.size + 1 + 1 + 1 + 1 < Bx ∧ BoxN W Bx x.2 ∧ a' = { tmps := #[.slice a ns.length cap, undef, .pointer (some ⟨w.heap.size, 0, none⟩), .pointer (some ⟨w.heap.size + 1, 0, none⟩), .pointer (some ⟨w.heap.size + 1 + 1, 0, none⟩), .pointer (some ⟨w.heap.size + 1 + 1 + 1, 0, none⟩), undef, .pointer (some ⟨Bx, 0, none⟩), .slice a ns.length cap, .int .i64 ns.length, .bool false, .slice a ns.length cap, .func (.func 47) #[] #[.pointer (some ⟨w.heap.size + 1 + 1 + 1 + 1, 0, none⟩)], .int .i64 (x.1 : Int), .agg #[.int .i64 x.2.1, .string x.2.2], undef, undef, undef, undef, undef, undef, undef, undef, undef, undef, undef, undef, undef, undef, undef, undef, undef, undef, undef, undef, undef, undef], defers := [] })
      (fun x a' _ X Y row hs hg hr => by obtain ⟨Bx, h1, h2, h3⟩ := hs; exact ⟨Bx, h1, h2.turn hg (fun r e => (hr r e).2), h3⟩)
      ?assign ?body ?done ?stop
    case assign =>
      rintro l pre x W K ⟨⟨h1, h2, ⟨p, h3, h4⟩, h5, h6, h7⟩, hB⟩ hK
      gi_wp2
      exact hK _ _ ((KeepsOthers.alloc _ _).from _) ⟨(Below.refl _ W).alloc hB.size _, fun v e => by rw [h6.cell] at e; cases e; exact (h6.alloc _).cell⟩ ⟨⟨h1.alloc _, h2.alloc _, ⟨p, h3.alloc _, h4.below (below_alloc _ _)⟩, h5.alloc _, h6.alloc _, h7⟩, hB.alloc hB.size _⟩ ⟨W.heap.size, h6.lt, World.alloc_heap_new W _, rfl⟩
    case body =>
      rintro l pre x a' W hl ⟨r, hr⟩ ⟨⟨h1, h2, ⟨p, h3, h4⟩, h5, h6, h7⟩, hB⟩ ⟨Bx, hBx, bX, rfl⟩ hlt
      obtain ⟨j, m, s⟩ := x
      obtain ⟨q, rfl⟩ := h4.ptr
      have hbw := bwdAt_head (m, s) (cam pre)
      have CS := Lib.hid (cam_snoc pre (j, m, s))
      obtain ⟨rs, hrs⟩ : ∃ rs, rs = cam pre := ⟨_, rfl⟩
      rw [← hrs] at h4 h5 h7 hbw CS
      have EV := Lib.hid (fun (X : World) => implEvent s X)
      obtain ⟨L, hL⟩ : ∃ L, L = hdM rs := ⟨_, rfl⟩
      rw [← hL] at h5 hbw
      have HL := Lib.hid hL
      obtain ⟨t, ht⟩ : ∃ t, t = evB s := ⟨_, rfl⟩
      rw [← ht] at EV hbw
      clear hL hrs ht
      have k0 := bX.cells.1
      have k1 := bX.cells.2
      have k2 := h1.cell
      have k3 := h2.cell
      have k4 := h3.cell
      have k5 := h5.cell
      have f1 := h1.frozen
      have f2 := h2.frozen
      have f3 := h3.frozen
      have f5 := h5.frozen
      dsimp only at k0 k1 hbw
      have r1 := (h1.set (.pointer none)).other (B' := w.heap.size + 1) (by omega) (.bool false)
      have r2 := (h2.other (B' := w.heap.size) (by omega) (.pointer none)).set (.bool false)
      have rB := (hB.setCell (p := ⟨w.heap.size, 0, none⟩) (Nat.le_refl _) (.pointer none)).setCell (p := ⟨w.heap.size + 1, 0, none⟩) (by simp) (.bool false)
      by_cases hneg : m < 0
      · have hd : decide (m < 0) = true := decide_eq_true hneg
        have BF := Lib.hid (show bwdAt ((m, s) :: rs) 0 = false by rw [hbw, decide_eq_false (by omega)]; rfl)
        clear hbw
        gi_wp2
        refine ⟨trivial, ?_⟩
        gi_wp2
        exact ⟨((KeepsOthers.setCell _ _ _).trans (KeepsOthers.setCell _ _ _)).from _, ⟨rfl, by simp, by rw [CS.out]; exact BF.out, r1, r2⟩, rB⟩
      have hd : decide (m < 0) = false := decide_eq_false hneg
      by_cases hgt : L < m
      · have hd2 : decide (L < m) = true := decide_eq_true hgt
        have BF := Lib.hid (show bwdAt ((m, s) :: rs) 0 = false by rw [hbw, decide_eq_false (by omega)]; rfl)
        clear hbw
        gi_wp2
        refine ⟨trivial, ?_⟩
        gi_wp2
        exact ⟨((KeepsOthers.setCell _ _ _).trans (KeepsOthers.setCell _ _ _)).from _, ⟨rfl, by simp, by rw [CS.out]; exact BF.out, r1, r2⟩, rB⟩
      have hd2 : decide (L < m) = false := decide_eq_false hgt
      cases t
      · have BF := Lib.hid (show bwdAt ((m, s) :: rs) 0 = false by rw [hbw, Bool.and_false])
        clear hbw
        gi_wp2_with (refine ⟨trivial, ?_⟩; gi_at_call 36; refine (CallsIn.inRound l (callsIn_wide.2 (EV.out _))).mono ?_; rintro e w' ⟨rfl, rfl⟩)
        exact ⟨((KeepsOthers.setCell _ _ _).trans (KeepsOthers.setCell _ _ _)).from _, ⟨rfl, by simp, by rw [CS.out]; exact BF.out, r1, r2⟩, rB⟩
      · have q1 := h1.alloc (.cells #[.int .i64 m, .string s, .pointer q] 65)
        have q2 := h2.alloc (.cells #[.int .i64 m, .string s, .pointer q] 65)
        have q3 := h3.alloc (.cells #[.int .i64 m, .string s, .pointer q] 65)
        have q5 := h5.alloc (.cells #[.int .i64 m, .string s, .pointer q] 65)
        have q6 := h6.alloc (.cells #[.int .i64 m, .string s, .pointer q] 65)
        have q4 := h4.new (m, s)
        have qX := bX.kept (World.grownBy_alloc W (.cells #[.int .i64 m, .string s, .pointer q] 65) none) (by simp)
        have qB := hB.alloc hB.size (.cells #[.int .i64 m, .string s, .pointer q] 65)
        have u1 := q1.other (B' := w.heap.size + 1 + 1) (by omega) (.pointer (some ⟨W.heap.size, 0, none⟩))
        have u2 := q2.other (B' := w.heap.size + 1 + 1) (by omega) (.pointer (some ⟨W.heap.size, 0, none⟩))
        have u3 := q3.set (.pointer (some ⟨W.heap.size, 0, none⟩))
        have u5 := q5.other (B' := w.heap.size + 1 + 1) (by omega) (.pointer (some ⟨W.heap.size, 0, none⟩))
        have u6 := q6.other (B' := w.heap.size + 1 + 1) (by omega) (.pointer (some ⟨W.heap.size, 0, none⟩))
        have u4 := Chain.box q3 (.pointer (some ⟨W.heap.size, 0, none⟩)) q4
        have uX := qX.kept (grownBy_setCell' _ (w.heap.size + 1 + 1) (.pointer (some ⟨W.heap.size, 0, none⟩))) (by simp; omega)
        have uB := qB.setCell (p := ⟨w.heap.size + 1 + 1, 0, none⟩) (by simp; omega) (.pointer (some ⟨W.heap.size, 0, none⟩))
        have kq3 := q3.cell
        have fq3 := q3.frozen
        have ku := uX.cells.1
        have ku5 := u5.cell
        have fu5 := u5.frozen
        have hok : bwdAt ((m, s) :: rs) 0 = true := by rw [hbw, Bool.and_true]; exact decide_eq_true ⟨by omega, by omega⟩
        have OK := Lib.hid (okR_cons h7 hok)
        clear hbw hok h7
        gi_wp2_with (refine ⟨trivial, ?_⟩; gi_at_call 36; refine (CallsIn.inRound l (callsIn_wide.2 (EV.out _))).mono ?_; rintro e w' ⟨rfl, rfl⟩)
        refine ⟨(((KeepsOthers.alloc _ _).trans (KeepsOthers.setCell _ _ _)).trans (KeepsOthers.setCell _ _ _)).from _, ⟨((((Below.refl _ _).alloc hB.size _).setCell (p := ⟨w.heap.size + 1 + 1, 0, none⟩) (by simp; omega) _).setCell (p := ⟨w.heap.size + 1 + 1 + 1, 0, none⟩) (by simp; omega) _), fun v e => by
          rw [h6.cell] at e
          cases e
          exact (u6.other (B' := w.heap.size + 1 + 1 + 1) (by omega) _).cell⟩, ⟨u1.other (by omega) _, u2.other (by omega) _, ⟨_, u3.other (by omega) _, by rw [CS.out]; exact Chain.box u5 _ u4⟩, by rw [CS.out]; exact u5.set _, u6.other (by omega) _, by rw [CS.out]; exact OK.out⟩, uB.setCell (p := ⟨w.heap.size + 1 + 1 + 1, 0, none⟩) (by simp; omega) _⟩
    case done =>
      rintro D ys W hD rfl ⟨⟨h1, h2, ⟨p, h3, h4⟩, h5, h6, h7⟩, hB⟩ hK
      obtain ⟨q, rfl⟩ := h4.ptr
      have CU := Lib.hid (show cam (upto (bkw ns) ns.length) = ns by rw [cam_upto (Nat.le_refl _), Nat.sub_self, List.drop_zero])
      rw [CU.out] at h4 h7
      have RB := Lib.hid (regB_back hsm h7)
      have k1 := h1.cell
      have k2 := h2.cell
      have k3 := h3.cell
      have f1 := h1.frozen
      have f2 := h2.frozen
      have r1 := (h1.set (.pointer q)).other (B' := w.heap.size + 1) (by omega) (.bool true)
      have r2 := (h2.other (B' := w.heap.size) (by omega) (.pointer q)).set (.bool true)
      have r4 := Chain.box (h2.other (B' := w.heap.size) (by omega) (.pointer q)) (.bool true) (Chain.box h1 (.pointer q) h4)
      have rB := (hB.setCell (p := ⟨w.heap.size, 0, none⟩) (Nat.le_refl _) (.pointer q)).setCell (p := ⟨w.heap.size + 1, 0, none⟩) (by simp) (.bool true)
      have hK' := ((KeepsOthers.setCell W ⟨w.heap.size, 0, none⟩ (.pointer q)).trans (KeepsOthers.setCell _ ⟨w.heap.size + 1, 0, none⟩ (.bool true))).same D _ hK rfl
      obtain ⟨W9, hW9⟩ : ∃ W9, (W.setCell ⟨w.heap.size, 0, none⟩ (.pointer q)).setCell ⟨w.heap.size + 1, 0, none⟩ (.bool true) = W9 := ⟨_, rfl⟩
      rw [hW9] at r1 r2 r4 rB hK'
      have HW9 := Lib.hid hW9
      clear hW9 h7
      gi_wp2
      rw [HW9.out]
      refine ⟨by simp, .inl ⟨_, _, rfl, run_takeDeferred hK', ?_⟩⟩
      have hr : ∀ r, some D = some r → ∃ o : Obj, W9.heap[r]? = some o ∧ o.isCells = false := fun r e => by cases e; exact ⟨_, hK', rfl⟩
      have c1 := cell_kept r1.cell (grownBy_putObj' _ D (.deferred none)) hr
      have c2 := cell_kept r2.cell (grownBy_putObj' _ D (.deferred none)) hr
      refine ⟨.tuple #[.pointer q, .bool true], ?_, ⟨.pointer q, by rw [RB.out], by rw [regL_yes RB.out]; exact r4.turn (grownBy_putObj' _ D (.deferred none)) hr, rB.trans (belowK_b (w := w) (Nat.le_refl _) _ D _ _ (by omega) hK' rfl rfl)⟩⟩
      simp [results, Try.f22, go_sem, c1, c2]
    case stop =>
      rintro D c pre W hD ⟨k, hk, rfl⟩ ⟨⟨rfl, h1, h2, h3, h4⟩, hB⟩ hK
      have hk0 : 0 < k := by
        cases k with
        | zero => exact absurd rfl h1
        | succ k => omega
      rw [cam_upto hk, bwdAt_drop] at h2
      have RB := Lib.hid (regB_backno (by omega) h2)
      clear h1 h2
      gi_wp2
      refine ⟨by simp, .inl ⟨_, _, rfl, run_takeDeferred hK, ?_⟩⟩
      have hr : ∀ r, some D = some r → ∃ o : Obj, W.heap[r]? = some o ∧ o.isCells = false := fun r e => by cases e; exact ⟨_, hK, rfl⟩
      have c1 := cell_kept h3.cell (grownBy_putObj' _ D (.deferred none)) hr
      have c2 := cell_kept h4.cell (grownBy_putObj' _ D (.deferred none)) hr
      refine ⟨.tuple #[.pointer none, .bool false], ?_, ⟨.pointer none, by rw [RB.out], by rw [regL_no RB.out]; rfl, hB.trans (belowK_b (w := w) (Nat.le_refl _) W D _ _ (by omega) hK rfl rfl)⟩⟩
      simp [results, Try.f22, go_sem, c1, c2]

end Go.Proofs.Ytilkphehonilbaa
