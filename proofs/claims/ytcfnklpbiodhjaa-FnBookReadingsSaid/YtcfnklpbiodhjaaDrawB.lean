/-
  A drawn book: a list of at most seven lists, each of at most six numbers. For every reader that stands below 1048576.
-/
import Derived.Test.YtcfnklpbiodhjaaDraws3
import Derived.Test.YtcfnklpbiodhjaaLists
import Derived.Test.YtcfnklpbiodhjaaBookFind
import Derived.Test.YtcfnklpbiodhjaaGoods3
import Derived.Test.YtcfnklpbiodhjaaSpecA
import Derived.Maps.AppendAt
namespace Go.Proofs.Ytcfnklpbiodhjaa
open Go.RowKit

/-- What is written into a block leaves a list that lies in another. -/
theorem Ints.keptRow {w w' : World} {v : Value} {xs : List Int} {row : Option Nat} (h : Ints w v xs) (hg : w.grownBy w' row) (hv : ∀ b o n c, v = .slice (some ⟨b, o, none⟩) n c → row ≠ some b) : Ints w' v xs := by
  obtain ⟨a, cap, rfl, hl, hc⟩ := h
  refine ⟨a, cap, rfl, hl, ?_⟩
  rcases hc with rfl | ⟨b, o, rfl, hlt, hcell⟩
  · exact .inl rfl
  · exact .inr ⟨b, o, rfl, Nat.lt_of_lt_of_le hlt hg.size, fun i hi => (World.cell?_of_block (hg.block b hlt (fun e => hv b o _ _ rfl e.symm))).trans (hcell i hi)⟩
theorem Ints.nil {w w' : World} {v : Value} (h : Ints w v []) : Ints w' v [] := by
  obtain ⟨a, cap, rfl, hl, _⟩ := h
  exact ⟨a, cap, rfl, hl, .inl rfl⟩

/-- A list that can be read, in a block from base on, other than the block 'own'. -/
def Lies (w : World) (base : Nat) (own : Option Nat) (u : Value) (xs : List Int) : Prop :=
  Ints w u xs ∧ (xs = [] ∨ ∀ b o m c, u = .slice (some ⟨b, o, none⟩) m c → base ≤ b ∧ b < w.heap.size ∧ own ≠ some b)

theorem Lies.kept {w w' : World} {base : Nat} {own row : Option Nat} {u : Value} {xs : List Int} (h : Lies w base own u xs) (hg : w.grownBy w' row) (hr : ∀ b, row = some b → b < base ∨ own = some b) : Lies w' base own u xs := by
  obtain ⟨h1, h2⟩ := h
  rcases h2 with rfl | h2
  · exact ⟨h1.nil, .inl rfl⟩
  · refine ⟨h1.keptRow hg (fun b o m c e q => ?_), .inr fun b o m c e => ?_⟩
    · obtain ⟨a1, a2, a3⟩ := h2 b o m c e
      rcases hr b q with r | r
      · omega
      · exact a3 r
    · obtain ⟨a1, a2, a3⟩ := h2 b o m c e
      exact ⟨a1, Nat.lt_of_lt_of_le a2 hg.size, a3⟩
theorem Lies.grow {w w' : World} {base N : Nat} {own own' : Option Nat} {u : Value} {xs : List Int} (h : Lies w base own u xs) (hg : w.grownBy w' own) (hat : own' = own ∨ own' = some N) (hN : w.heap.size ≤ N) : Lies w' base own' u xs := by
  obtain ⟨h1, h2⟩ := h
  rcases h2 with rfl | h2
  · exact ⟨h1.nil, .inl rfl⟩
  · refine ⟨h1.keptRow hg (fun b o m c e q => (h2 b o m c e).2.2 q), .inr fun b o m c e => ?_⟩
    obtain ⟨a1, a2, a3⟩ := h2 b o m c e
    refine ⟨a1, Nat.lt_of_lt_of_le a2 hg.size, ?_⟩
    rcases hat with q | q
    · rw [q]; exact a3
    · rw [q]; simp; omega
theorem Lies.of_new {w w' : World} {base : Nat} {own : Option Nat} {u : Value} {xs : List Int} (hi : Ints w' u xs) (hb : base ≤ w.heap.size) (ho : ∀ b, own = some b → b < w.heap.size) (h : ∀ b o m c, u = .slice (some ⟨b, o, none⟩) m c → w.heap.size ≤ b) : Lies w' base own u xs := by
  refine ⟨hi, ?_⟩
  obtain ⟨a, cap, rfl, hl, hc⟩ := hi
  rcases hc with rfl | ⟨b, o, rfl, hlt, hcell⟩
  · exact .inl rfl
  · refine .inr fun b' o' m c e => ?_
    have := h b' o' m c e
    simp only [Value.slice.injEq, Option.some.injEq, Addr.mk.injEq, and_true] at e
    obtain ⟨⟨rfl, rfl⟩, rfl, rfl⟩ := e
    refine ⟨by omega, hlt, fun q => ?_⟩
    have := ho _ q
    omega

/-- A list of lists of the call's own that may still grow. -/
def Grows (w : World) (base : Nat) (v : Value) (bk : List (List Int)) : Prop :=
  ∃ vals : List Value, w.ownsRow base 24 1 v bk.length vals ∧ ∀ i, i < bk.length → ∃ u, vals[i]? = some u ∧ Lies w base v.ownBlock u (bk.getD i [])

theorem Grows.kept {w w' : World} {base : Nat} {v : Value} {bk : List (List Int)} {row : Option Nat} (h : Grows w base v bk) (hg : w.grownBy w' row) (hr : ∀ b, row = some b → b < base) : Grows w' base v bk := by
  obtain ⟨vals, ho, hall⟩ := h
  refine ⟨vals, ho.kept hg ?_, fun i hi => ?_⟩
  · cases e : v.ownBlock with
    | none => exact .inl rfl
    | some b =>
      refine .inr fun q => ?_
      have := (ho.lt b e).1
      have := hr b q.symm
      omega
  · obtain ⟨u, hu, hl⟩ := hall i hi
    exact ⟨u, hu, hl.kept hg (fun b q => .inl (hr b q))⟩
theorem Grows.lists {w : World} {base : Nat} {v : Value} {bk : List (List Int)} (h : Grows w base v bk) (hl : bk.length ≤ 1048576) : Lists w v bk := by
  obtain ⟨vals, ho, hall⟩ := h
  have hlen : vals.length = bk.length := by have := ho.1; omega
  rcases ho.2 with ⟨rfl, h0⟩ | ⟨g, cap, cur, rfl, hb, hg, hnc, _⟩
  · have : bk = [] := List.eq_nil_of_length_eq_zero h0
    subst this
    exact ⟨none, 0, rfl, by simp, .inl rfl⟩
  · refine ⟨_, cap, rfl, ⟨hl, hnc⟩, .inr ⟨g, 0, rfl, (Array.getElem?_eq_some_iff.1 hg).1, fun i hi => ?_⟩⟩
    obtain ⟨u, hu, hli⟩ := hall i hi
    refine ⟨u, ?_, hli.1⟩
    rw [Nat.zero_add, World.ownsRow.cellAt ho i (by omega)]
    exact hu
theorem Grows.empty (w : World) : Grows (w.alloc (.cells #[] 24)) w.heap.size (.slice (some ⟨w.heap.size, 0, none⟩) 0 0) [] :=
  ⟨[], World.ownsRow_lit w #[] 0 (Nat.le_refl _) (by simp [maxLen]) rfl, fun i hi => by simp at hi⟩
theorem Grows.push {w w' : World} {base N : Nat} {v v' x : Value} {bk : List (List Int)} {xs : List Int} {vals : List Value} (hlen : vals.length = bk.length) (hall : ∀ i, i < bk.length → ∃ u, vals[i]? = some u ∧ Lies w base v.ownBlock u (bk.getD i [])) (hx : Lies w base v.ownBlock x xs) (hg : w.grownBy w' v.ownBlock)
    (ho : w'.ownsRow base 24 1 v' (bk.length + 1) (vals ++ [x])) (hat : v'.ownBlock = v.ownBlock ∨ v'.ownBlock = some N) (hN : w.heap.size ≤ N) : Grows w' base v' (bk ++ [xs]) := by
  refine ⟨vals ++ [x], by simpa using ho, fun i hi => ?_⟩
  by_cases e : i < bk.length
  · obtain ⟨u, hu, hl⟩ := hall i e
    refine ⟨u, by rw [List.getElem?_append_left (by omega)]; exact hu, ?_⟩
    have : (bk ++ [xs]).getD i [] = bk.getD i [] := by simp only [List.getD_eq_getElem?_getD]; rw [List.getElem?_append_left e]
    rw [this]
    exact hl.grow hg hat hN
  · have hi' : i = bk.length := by simp at hi; omega
    subst hi'
    refine ⟨x, by rw [List.getElem?_append_right (by omega)]; simp [hlen], ?_⟩
    have : (bk ++ [xs]).getD bk.length [] = xs := by simp [List.getD]
    rw [this]
    exact hx.grow hg hat hN

/-- Each list is short. -/
def Short (bk : List (List Int)) (m : Nat) : Prop := ∀ i, i < bk.length → (bk.getD i []).length ≤ m
theorem Short.push {bk : List (List Int)} {m : Nat} {xs : List Int} (h : Short bk m) (hx : xs.length ≤ m) : Short (bk ++ [xs]) m := by
  intro i hi
  by_cases e : i < bk.length
  · have : (bk ++ [xs]).getD i [] = bk.getD i [] := by simp only [List.getD_eq_getElem?_getD]; rw [List.getElem?_append_left e]
    rw [this]; exact h i e
  · have hi' : i = bk.length := by simp at hi; omega
    subst hi'
    have : (bk ++ [xs]).getD bk.length [] = xs := by simp [List.getD]
    rw [this]; exact hx

/-- A small number. -/
def SmallN (lo hi : Int) (v : Value) : Prop := ∃ x : Int, v = .int .i64 x ∧ lo ≤ x ∧ x ≤ hi

/-- What each operation of the last region changes. -/
def T10 (g G : Nat) (k : Nat) (w w' : World) : Prop := w.grownBy w' (if k = 12 then some G else some g)
/-- A list of lists at an address outside block G. -/
def CellAt (base G : Nat) (B j : Nat) (w : World) : Prop := base ≤ B ∧ B ≠ G ∧ ∃ u xs, w.cell? ⟨B, j, none⟩ = some u ∧ xs.length ≤ 6 ∧ Lies w base (some G) u xs
theorem CellAt.kept {base g G B j k : Nat} {w w' : World} (h : CellAt base G B j w) (hg : g < base) (t : T10 g G k w w') : CellAt base G B j w' := by
  obtain ⟨h1, h2, u, xs, h3, h4, h5⟩ := h
  refine ⟨h1, h2, u, xs, World.grownBy.cell t h3 ?_, h4, h5.kept t ?_⟩
  · split <;> simp <;> omega
  · intro b e
    split at e
    · exact .inr e
    · simp at e; omega

/-- What is good in the region that puts one list more behind the others. -/
def G10 (g G base : Nat) (bk : List (List Int)) (V : Value) (i : Nat) (v : Value) (w : World) : Prop :=
  match i with
  | 0 => v = V
  | 1 => Lies w base (some G) v []
  | 2 => Lies w base (some G) v [7]
  | 3 => v = V
  | 4 => v = .pointer (some ⟨G, 0, none⟩)
  | 5 => Lies w base (some G) v (bk.getD 0 [])
  | 6 => ∃ B, v = .slice (some ⟨B, 0, none⟩) 3 3 ∧ ∀ j, j < 3 → CellAt base G B j w
  | 7 => v = .pointer (some ⟨g, 0, none⟩)
  | 8 => SmallN 0 2 v
  | 9 => ∃ B j, v = .pointer (some ⟨B, j, none⟩) ∧ CellAt base G B j w
  | 10 => ∃ xs, xs.length ≤ 6 ∧ Lies w base (some G) v xs
  | 11 => ∃ B, v = .slice (some ⟨B, 0, none⟩) 1 1 ∧ CellAt base G B 0 w
  | 12 => ∃ xs, xs.length ≤ 6 ∧ Grows w base v (bk ++ [xs])
  | 13 => ∃ xs, xs.length ≤ 6 ∧ Grows w base v (bk ++ [xs])
  | _ => True
theorem lies_t {base g G k : Nat} {w w' : World} {u : Value} {xs : List Int} (h : Lies w base (some G) u xs) (hg : g < base) (t : T10 g G k w w') : Lies w' base (some G) u xs := by
  refine h.kept t ?_
  intro b e
  split at e
  · exact .inr e
  · simp at e; omega
theorem G10.kept {g G base : Nat} {bk : List (List Int)} {V : Value} (hg : g < base) {k i : Nat} {v : Value} {w w' : World} (hk : i = 12 ∨ i = 13 → k ≠ 12) (t : T10 g G k w w') (h : G10 g G base bk V i v w) : G10 g G base bk V i v w' := by
  unfold G10 at h ⊢
  split at h
  · exact h
  · exact lies_t h hg t
  · exact lies_t h hg t
  · exact h
  · exact h
  · exact lies_t h hg t
  · obtain ⟨B, e, hc⟩ := h
    exact ⟨B, e, fun j hj => (hc j hj).kept hg t⟩
  · exact h
  · exact h
  · obtain ⟨B, j, e, hc⟩ := h
    exact ⟨B, j, e, hc.kept hg t⟩
  · obtain ⟨xs, e, hc⟩ := h
    exact ⟨xs, e, lies_t hc hg t⟩
  · obtain ⟨B, e, hc⟩ := h
    exact ⟨B, e, hc.kept hg t⟩
  · obtain ⟨xs, e, hc⟩ := h
    have := hk (.inl rfl)
    unfold T10 at t
    rw [if_neg this] at t
    exact ⟨xs, e, hc.kept t (fun b q => by simp at q; omega)⟩
  · obtain ⟨xs, e, hc⟩ := h
    have := hk (.inr rfl)
    unfold T10 at t
    rw [if_neg this] at t
    exact ⟨xs, e, hc.kept t (fun b q => by simp at q; omega)⟩
  · trivial

/-- What is known of the world, by what has been carried out. -/
def R10 (w0 : World) (g P base : Nat) (bk : List (List Int)) (V : Value) (D : Nat → Bool) (w : World) : Prop :=
  Rd w g (if D 8 then P + 1 else P) ∧ w0.grownBy w (some g) ∧ base ≤ w.heap.size ∧ (D 12 = false → Grows w base V bk) ∧ ∀ b, V.ownBlock = some b → b < w.heap.size
theorem R10.same {w0 w w' : World} {g P base : Nat} {bk : List (List Int)} {V : Value} {D D' : Nat → Bool} (h : R10 w0 g P base bk V D w) (hg : w.grownBy w' none) (h8 : D' 8 = D 8) (h12 : D' 12 = D 12) : R10 w0 g P base bk V D' w' := by
  obtain ⟨a1, a2, a3, a4, a5⟩ := h
  refine ⟨by rw [h8]; exact a1.grown hg (fun b q => by cases q), grown_trans a2 ⟨hg.os, hg.tape, hg.output, hg.size, fun k hk _ => hg.block k hk (by simp)⟩, Nat.le_trans a3 hg.size, fun q => ?_, fun b q => Nat.lt_of_lt_of_le (a5 b q) hg.size⟩
  rw [h12] at q
  exact (a4 q).kept hg (fun b q => by cases q)
theorem T10.refl {g G k : Nat} (w : World) : T10 g G k w w := World.grownBy.refl _ _
theorem T10.alloc {g G k : Nat} (w : World) (o : Obj) : T10 g G k w (w.alloc o) := World.grownBy_alloc _ _ _

/-- What the drawing of a book hands back. -/
def DrawnBook (w : World) (g p : Nat) (e : Ending) (w' : World) : Prop :=
  ∃ (v : Value) (bk : List (List Int)) (p' : Nat), e = .returned v ∧ Grows w' w.heap.size v bk ∧ bk.length ≤ 7 ∧ Short bk 6 ∧ Rd w' g p' ∧ p' ≤ p + 64 ∧ w.grownBy w' (some g)

set_option maxHeartbeats 2000000 in
theorem drawBook {w : World} {g p : Nat} (h : Rd w g p) (hp : p ≤ 1000000) :
    Calls Try.prog 32 #[.pointer (some ⟨g, 0, none⟩)] w (DrawnBook w g p) := by
  have hgl := h.lt
  obtain ⟨i0, hi, hz0, hz1, hz2⟩ := info_parts info_list
  go_enter Try.func32, Try.ntmps32
  go_wp2_with (go_at_call 35; refine (pick (h.alloc _) (by omega) (by omega) (by omega)).mono ?_)
  rintro e w1 ⟨n, rfl, hn0, hn1, hr1, g1⟩
  have hn1' := hn1 (by omega)
  have og1 : Grows w1 w.heap.size (.slice (some ⟨w.heap.size, 0, none⟩) 0 0) [] := (Grows.empty w).kept g1 (fun b q => by simp at q; omega)
  have gg1 : w.grownBy w1 (some g) := grown_trans (World.grownBy_alloc w _ (some g)) g1
  obtain ⟨p1, hp1⟩ : ∃ p1, p1 = p + 1 := ⟨_, rfl⟩
  rw [← hp1] at hr1
  clear g1 hn1
  go_wp2_with fail
  go_loopw [3, 5, 6] (fun o i _ wr => ∃ (k p2 : Nat) (bk : List (List Int)), (k : Int) ≤ n ∧ i = .int .i64 k ∧ bk.length ≤ k ∧ Short bk 6 ∧ Grows wr w.heap.size o bk ∧ Rd wr g p2 ∧ p2 ≤ p1 + 8 * k ∧ w.grownBy wr (some g)) (fun _ i _ _ => (6 - intOf i).toNat)
  case atStart => exact ⟨0, p1, [], by omega, rfl, by simp, fun i hi => by simp at hi, og1, hr1, by omega, gg1⟩
  case round =>
    clear og1 hr1 gg1
    obtain ⟨k, p2, bk, hk, rfl, hbk, hsh, hown, hrd, hp2, hgr⟩ := hrel
    have hsz := hgr.size
    by_cases hlt : (k : Int) < n
    · have hk5 : k ≤ 5 := by omega
      go_wp2_with (go_at_call 36; refine (drawCode hrd (by omega)).mono ?_)
      rintro e w2 ⟨x, xs, p3, rfl, ox, hx6, hr2, hp3, g2⟩
      have ix := ox.ints (by omega)
      have hxb := own_low ox
      clear ox
      have hown2 := hown.kept g2 (fun b q => by simp at q; omega)
      have hgr2 := grown_trans hgr g2
      have hlie : Lies w2 w.heap.size u3.ownBlock x xs := Lies.of_new ix hsz (fun b q => by
        obtain ⟨vals, ho, _⟩ := hown
        exact (ho.lt b q).2) hxb
      have hsz2 := hgr2.size
      clear hown hrd hgr g2 hxb
      cases hv : groupsB xs 1 5
      · go_wp2_with (go_at_call 41; refine (specCodeValid ix).mono ?_; rw [hv]; rintro e w' ⟨rfl, rfl⟩)
        go_roundw
        case rel => exact ⟨k + 1, p3, bk, by omega, by go_num, by omega, hsh, hown2, hr2, by omega, hgr2⟩
        case measure => simp [intOf]; omega
      · have HV := Lib.hid hv
        clear hv
        go_wp2_with (go_at_call 41; refine (specCodeValid ix).mono ?_; rw [HV.out]; rintro e w' ⟨rfl, rfl⟩)
        have hbl : bk.length ≤ 1048576 := by omega
        have hfb := findOf_bounds bk xs
        have HFI := Lib.hid (specFind (hown2.lists hbl) ix)
        obtain ⟨R, hR⟩ : ∃ R, R = findOf bk xs := ⟨_, rfl⟩
        rw [← hR] at hfb HFI
        clear hR
        go_wp2_with (go_at_call 46; refine HFI.out.mono ?_)
        rintro e w3 ⟨rfl, b3⟩
        have hown3 := hown2.kept (below_grown b3) (fun b q => by cases q)
        have hlie3 := hlie.kept (below_grown b3) (fun b q => by cases q)
        have hr3 := hr2.grown (below_grown b3) (fun b q => by cases q)
        have hgr3 := grown_trans hgr2 ⟨b3.os, b3.tape, b3.output, b3.size, fun j hj _ => b3.block j hj⟩
        have hsz3 := hgr3.size
        clear hown2 hlie hr2 hgr2 b3 ix HFI hsz2
        rcases Int.lt_or_le R 0 with hneg | hpos
        · obtain ⟨vals, ho, hall⟩ := hown3
          obtain ⟨ax, cx, rfl, hlx, _⟩ := id hlie3.1
          have hvl : vals.length = bk.length := by have := ho.1; omega
          have HALL := Lib.hid hall
          have HLIE := Lib.hid hlie3
          have HVL := Lib.hid hvl
          clear hall hlie3 hvl
          go_wp2_with (at_builtin; refine wpList_append_own_at _ rfl _ _ 23 rfl w.heap.size 24 i0 (.slice none 0 0) 1 24 Try.underlying23 hi hz0 hz1 hz2 rfl (by decide) _ _ _ rfl (ho.alloc _) ⟨w3.heap.size, 0, none⟩ 1 1 [.slice ax xs.length cx] rfl rfl ?c1 ?c2 ?c3 ?c4 ?c5 ?_)
          case c1 => exact cell_one_new _ _ _
          case c2 => intro u hu; simp at hu; subst hu; rfl
          case c3 => simp only [maxLen]; omega
          case c4 => omega
          case c5 => simp; omega
          intro v' w4 hown' hgrow _ hat
          have hga := World.grownBy_alloc w3 (.cells #[.slice ax xs.length cx] 24) u3.ownBlock
          have HP := Lib.hid (Grows.push HVL.out HALL.out HLIE.out (grown_trans hga hgrow) hown' hat (by simp))
          have hlow := low_of ho
          have HG := Lib.hid (grown_new (grown_alloc hgr3 (.cells #[.slice ax xs.length cx] 24)) hgrow hlow)
          have HR := Lib.hid ((hr3.alloc (.cells #[.slice ax xs.length cx] 24)).grown hgrow (fun b e => Nat.lt_of_lt_of_le hgl (hlow b e)))
          clear hown' hgrow hat hga hlow ho hr3 hgr3
          go_wp2_with fail
          go_roundw
          case rel => exact ⟨k + 1, p3, bk ++ [xs], by omega, by go_num, by simp; omega, hsh.push hx6, HP.out, HR.out, by omega, HG.out⟩
          case measure => simp [intOf]; omega
        · have hno : decide (R < 0) = false := by simp; omega
          go_wp2_with fail
          go_roundw
          case rel => exact ⟨k + 1, p3, bk, by omega, by go_num, by omega, hsh, hown3, hr3, by omega, hgr3⟩
          case measure => simp [intOf]; omega
    · have hk6 : bk.length ≤ 6 := by omega
      obtain ⟨vals, ho, hall⟩ := id hown
      obtain ⟨ao, co, rfl⟩ := own_slice ho
      have HALL := Lib.hid hall
      have HO := Lib.hid ho
      have HOWN := Lib.hid hown
      have HSH := Lib.hid hsh
      clear hall ho hown hsh
      by_cases h0 : bk.length = 0
      · have h0' : decide ((0 : Int) < (bk.length : Int)) = false := by rw [decide_eq_false_iff_not]; omega
        have h0'' : decide (0 < bk.length) = false := by rw [decide_eq_false_iff_not]; omega
        clear h0
        go_wp2_with fail
        go_ret
        exact ⟨_, bk, p2, rfl, HOWN.out, by omega, HSH.out, hrd, by omega, hgr⟩
      · have h0' : (0 : Int) < (bk.length : Int) := by omega
        have h0n : 0 < bk.length := by omega
        clear h0
        go_wp2_with (go_at_call 35; refine (pick hrd (by omega) (by omega) (by omega)).mono ?_)
        rintro e w2 ⟨r, rfl, hq0, hq1, hr2, g2⟩
        have hown2 := HOWN.out.kept g2 (fun b q => by simp at q; omega)
        have hgr2 := grown_trans hgr g2
        clear HALL HO HOWN hrd hgr g2 hq1
        by_cases hr0 : r = 0
        · subst hr0
          obtain ⟨vals, ho, hall⟩ := id hown2
          have hG : ∃ G, ao = some ⟨G, 0, none⟩ ∧ w.heap.size ≤ G := by
            rcases ho.2 with ⟨_, e⟩ | ⟨G, cap, cur, e, hb, _⟩
            · omega
            · simp only [Value.slice.injEq] at e
              exact ⟨G, e.1, hb⟩
          obtain ⟨G, rfl, hG⟩ := hG
          have HOWN := Lib.hid hown2
          clear ho hall hown2
          go_wp2_with fail
          refine wp_region_goodsL (G := G10 g G w.heap.size bk (.slice (some ⟨G, 0, none⟩) bk.length co)) (R := R10 w g (p2 + 1) w.heap.size bk (.slice (some ⟨G, 0, none⟩) bk.length co)) (T := T10 g G) (by kernel_rfl) (by kernel_rfl) ?start ?hT ⟨?s0, ?s1, ?s2, ?s3, ?s4, ?s5, ?s6, ?s7, ?s8, ?s9, ?s10, ?s11, ?s12, ?s13, trivial⟩ ?hend
          case start =>
            intro D hD
            refine ⟨by rw [hD]; exact hr2, ⟨hgr2.os, hgr2.tape, hgr2.output, hgr2.size, hgr2.block⟩, hgr2.size, fun _ => ?_, fun b q => ?_⟩
            · obtain ⟨vals, ho, hall⟩ := HOWN.out
              exact ⟨vals, ho, hall⟩
            · obtain ⟨vals, ho, hall⟩ := HOWN.out
              exact (ho.lt b q).2
          case hT =>
            intro k i o v w' w'' hki hoi hl t h
            refine G10.kept hgl (fun q => ?_) t h
            intro e
            subst e
            rcases q with rfl | rfl
            · exact hki rfl
            · have e3 : Option.map (fun o => leans o 12) (some o) = some true := (congrArg (Option.map (fun o => leans o 12)) hoi).symm.trans (by kernel_rfl)
              simp only [Option.map_some, Option.some.injEq] at e3
              rw [e3] at hl
              cases hl
          case s0 =>
            intro a' w' D D' _ _ hdo _ hR hrest _ K hK
            have e : a'.tmps.getD 3 undef = .slice (some ⟨G, 0, none⟩) bk.length co := hrest 3 (by kernel_rfl)
            go_simp
            exact hK _ _ rfl (hR.same (World.grownBy.refl _ _) (hdo 8 (by decide)) (hdo 12 (by decide))) (T10.refl _)
          case s1 =>
            intro a' w' D D' _ _ hdo _ hR hrest _ K hK
            go_simp
            exact hK (.slice (some ⟨w'.heap.size, 0, none⟩) 0 0) _ ⟨⟨_, _, rfl, by simp, .inl rfl⟩, .inl rfl⟩ (hR.same (World.grownBy_alloc _ _ _) (hdo 8 (by decide)) (hdo 12 (by decide))) (T10.alloc _ _)
          case s2 =>
            intro a' w' D D' _ _ hdo _ hR hrest _ K hK
            have hs := hR.2.2.1
            go_simp
            refine hK (.slice (some ⟨w'.heap.size, 0, none⟩) 1 1) _ (Lies.of_new (w := w') ⟨_, _, rfl, by simp, .inr ⟨_, 0, rfl, by simp, fun i hi => ?_⟩⟩ hs (fun b q => ?_) (fun b o m c q => by simp at q; omega)) (hR.same (World.grownBy_alloc _ _ _) (hdo 8 (by decide)) (hdo 12 (by decide))) (T10.alloc _ _)
            · obtain rfl : i = 0 := by simp at hi; omega
              exact cell_one_new w' (.int .i64 7) 3 0 _ rfl
            · exact hR.2.2.2.2 b q
          case s3 =>
            intro a' w' D D' _ _ hdo _ hR hrest _ K hK
            have e : a'.tmps.getD 3 undef = .slice (some ⟨G, 0, none⟩) bk.length co := hrest 3 (by kernel_rfl)
            go_simp
            exact hK _ _ rfl (hR.same (World.grownBy.refl _ _) (hdo 8 (by decide)) (hdo 12 (by decide))) (T10.refl _)
          case s4 =>
            intro a' w' D D' _ _ hdo _ hR _ hdep K hK
            have e : a'.tmps.getD 40 undef = .slice (some ⟨G, 0, none⟩) bk.length co := hdep 3 (by kernel_rfl)
            have e' := slot_of e
            go_simp
            exact hK (.pointer (some ⟨G, 0, none⟩)) _ rfl (hR.same (World.grownBy.refl _ _) (hdo 8 (by decide)) (hdo 12 (by decide))) (T10.refl _)
          case s5 =>
            intro a' w' D D' hD5 _ hdo hcl hR _ hdep K hK
            have e : a'.tmps.getD 41 undef = .pointer (some ⟨G, 0, none⟩) := hdep 4 (by kernel_rfl)
            have e' := slot_of e
            have h12 : D 12 = false := by
              cases q : D 12
              · rfl
              · have c1 := hcl 12 _ rfl q 11 (by kernel_rfl)
                have c2 := hcl 11 _ rfl c1 10 (by kernel_rfl)
                have c3 := hcl 10 _ rfl c2 9 (by kernel_rfl)
                have c4 := hcl 9 _ rfl c3 6 (by kernel_rfl)
                have c5 := hcl 6 _ rfl c4 5 (by kernel_rfl)
                rw [hD5] at c5
                cases c5
            obtain ⟨vals, ho, hall⟩ := hR.2.2.2.1 h12
            obtain ⟨u, hu, hl⟩ := hall 0 h0n
            have hc : w'.cell? ⟨G, 0, none⟩ = some u := by
              rw [World.ownsRow.cellAt ho 0 (by have := ho.1; omega)]
              exact hu
            have HL := Lib.hid hl
            clear ho hall hu hl
            go_simp
            exact hK u _ HL.out (hR.same (World.grownBy.refl _ _) (hdo 8 (by decide)) (hdo 12 (by decide))) (T10.refl _)
          case s6 =>
            intro a' w' D D' _ _ hdo _ hR _ hdep K hK
            have l1 : Lies w' w.heap.size (some G) (a'.tmps.getD 38 undef) [] := hdep 1 (by kernel_rfl)
            have l2 : Lies w' w.heap.size (some G) (a'.tmps.getD 39 undef) [7] := hdep 2 (by kernel_rfl)
            have l3 : Lies w' w.heap.size (some G) (a'.tmps.getD 42 undef) (bk.getD 0 []) := hdep 5 (by kernel_rfl)
            have hs := hR.2.2.1
            have hG2 := hR.2.2.2.2 G rfl
            obtain ⟨x1, e1⟩ : ∃ x, a'.tmps.getD 38 undef = x := ⟨_, rfl⟩
            obtain ⟨x2, e2⟩ : ∃ x, a'.tmps.getD 39 undef = x := ⟨_, rfl⟩
            obtain ⟨x3, e3⟩ : ∃ x, a'.tmps.getD 42 undef = x := ⟨_, rfl⟩
            rw [e1] at l1
            rw [e2] at l2
            rw [e3] at l3
            have hsh0 := HSH.out 0 h0n
            obtain ⟨ys, hys⟩ : ∃ ys, ys = bk.getD 0 [] := ⟨_, rfl⟩
            rw [← hys] at l3 hsh0
            obtain ⟨a1, q1, rfl, _⟩ := id l1.1
            obtain ⟨a2, q2, rfl, _⟩ := id l2.1
            obtain ⟨a3, q3, rfl, _⟩ := id l3.1
            clear hys
            have e1' := slot_of e1
            have e2' := slot_of e2
            have e3' := slot_of e3
            have HC := Lib.hid (show ∀ j, j < 3 → CellAt w.heap.size G w'.heap.size j (w'.alloc (.cells #[.slice a1 0 q1, .slice a2 1 q2, .slice a3 ys.length q3] 24)) from fun j hj => by
              have hga : w'.grownBy (w'.alloc (.cells #[.slice a1 0 q1, .slice a2 1 q2, .slice a3 ys.length q3] 24)) none := World.grownBy_alloc _ _ _
              have hcell : ∀ u, #[.slice a1 0 q1, .slice a2 1 q2, .slice a3 ys.length q3][j]? = some u → (w'.alloc (.cells #[.slice a1 0 q1, .slice a2 1 q2, .slice a3 ys.length q3] 24)).cell? ⟨w'.heap.size, j, none⟩ = some u := by
                intro u hu
                unfold World.cell?
                simp only [heap_alloc_new]
                exact hu
              refine ⟨hs, by omega, ?_⟩
              rcases (by omega : j = 0 ∨ j = 1 ∨ j = 2) with rfl | rfl | rfl
              · exact ⟨_, [], hcell _ rfl, by simp, l1.kept hga (fun b q => by cases q)⟩
              · exact ⟨_, [7], hcell _ rfl, by simp, l2.kept hga (fun b q => by cases q)⟩
              · exact ⟨_, ys, hcell _ rfl, hsh0, l3.kept hga (fun b q => by cases q)⟩)
            clear l1 l2 l3 e1 e2 e3 hdep
            go_simp
            exact hK (.slice (some ⟨w'.heap.size, 0, none⟩) 3 3) _ ⟨_, rfl, HC.out⟩ (hR.same (World.grownBy_alloc _ _ _) (hdo 8 (by decide)) (hdo 12 (by decide))) (T10.alloc _ _)
          case s7 =>
            intro a' w' D D' _ _ hdo _ hR hrest _ K hK
            have e : a'.tmps.getD 0 undef = .pointer (some ⟨g, 0, none⟩) := hrest 0 (by kernel_rfl)
            go_simp
            exact hK _ _ rfl (hR.same (World.grownBy.refl _ _) (hdo 8 (by decide)) (hdo 12 (by decide))) (T10.refl _)
          case s8 =>
            intro a' w' D D' hD8 hD8' hdo _ hR _ hdep K hK
            have e : a'.tmps.getD 44 undef = .pointer (some ⟨g, 0, none⟩) := hdep 7 (by kernel_rfl)
            have e' := slot_of e
            have h12 := hdo 12 (by decide)
            obtain ⟨r1, r2, r3, r4, r5⟩ := hR
            rw [hD8] at r1
            simp only [Bool.false_eq_true, if_false] at r1
            go_simp
            refine (pick r1 (by omega) (by omega) (by omega)).mono ?_
            rintro e w4 ⟨r, rfl, hr0, hr1, hr4, g4⟩
            refine hK _ _ ⟨r, rfl, by omega, by have := hr1 (by omega); omega⟩ ⟨by rw [hD8']; exact hr4, grown_trans r2 g4, Nat.le_trans r3 g4.size, fun q => ?_, fun b q => Nat.lt_of_lt_of_le (r5 b q) g4.size⟩ g4
            rw [h12] at q
            exact (r4 q).kept g4 (fun b q => by simp at q; omega)
          case s9 =>
            intro a' w' D D' _ _ hdo _ hR _ hdep K hK
            obtain ⟨B, e, hc⟩ : ∃ B, a'.tmps.getD 43 undef = .slice (some ⟨B, 0, none⟩) 3 3 ∧ ∀ j, j < 3 → CellAt w.heap.size G B j w' := hdep 6 (by kernel_rfl)
            obtain ⟨r, e2, hr0, hr1⟩ : SmallN 0 2 (a'.tmps.getD 45 undef) := hdep 8 (by kernel_rfl)
            have e' := slot_of e
            have e2' := slot_of e2
            have hr3 : r < 3 := by omega
            have HC := Lib.hid (hc r.toNat (by omega))
            clear hc hdep
            go_simp
            exact hK (.pointer (some ⟨B, r.toNat, none⟩)) _ ⟨_, _, rfl, HC.out⟩ (hR.same (World.grownBy.refl _ _) (hdo 8 (by decide)) (hdo 12 (by decide))) (T10.refl _)
          case s10 =>
            intro a' w' D D' _ _ hdo _ hR _ hdep K hK
            obtain ⟨B, j, e, _, _, u, xs, hc, hx6, hl⟩ : ∃ B j, a'.tmps.getD 46 undef = .pointer (some ⟨B, j, none⟩) ∧ CellAt w.heap.size G B j w' := hdep 9 (by kernel_rfl)
            have e' := slot_of e
            have HL := Lib.hid hl
            clear hl hdep
            go_simp
            exact hK u _ ⟨xs, hx6, HL.out⟩ (hR.same (World.grownBy.refl _ _) (hdo 8 (by decide)) (hdo 12 (by decide))) (T10.refl _)
          case s11 =>
            intro a' w' D D' _ _ hdo _ hR _ hdep K hK
            obtain ⟨xs, hx6, hl⟩ : ∃ xs : List Int, xs.length ≤ 6 ∧ Lies w' w.heap.size (some G) (a'.tmps.getD 47 undef) xs := hdep 10 (by kernel_rfl)
            have hs := hR.2.2.1
            have hG2 := hR.2.2.2.2 G rfl
            obtain ⟨x1, e1⟩ : ∃ x, a'.tmps.getD 47 undef = x := ⟨_, rfl⟩
            rw [e1] at hl
            obtain ⟨a1, q1, rfl, _⟩ := id hl.1
            have e1' := slot_of e1
            have HC := Lib.hid (show CellAt w.heap.size G w'.heap.size 0 (w'.alloc (.cells #[.slice a1 xs.length q1] 24)) from
              ⟨hs, by omega, _, xs, cell_one_new w' _ 24 0 _ rfl, hx6, hl.kept (World.grownBy_alloc _ _ none) (fun b q => by cases q)⟩)
            clear hl e1 hdep
            go_simp
            exact hK (.slice (some ⟨w'.heap.size, 0, none⟩) 1 1) _ ⟨_, rfl, HC.out⟩ (hR.same (World.grownBy_alloc _ _ _) (hdo 8 (by decide)) (hdo 12 (by decide))) (T10.alloc _ _)
          case s12 =>
            intro a' w' D D' hD12 hD12' hdo _ hR _ hdep K hK
            have e : a'.tmps.getD 37 undef = .slice (some ⟨G, 0, none⟩) bk.length co := hdep 0 (by kernel_rfl)
            obtain ⟨B, e2, hB, hBG, u, xs, hc, hx6, hl⟩ : ∃ B, a'.tmps.getD 48 undef = .slice (some ⟨B, 0, none⟩) 1 1 ∧ CellAt w.heap.size G B 0 w' := hdep 11 (by kernel_rfl)
            obtain ⟨r1, r2, r3, r4, r5⟩ := hR
            obtain ⟨vals, ho, hall⟩ := r4 hD12
            have hvl : vals.length = bk.length := by have := ho.1; omega
            have h8 := hdo 8 (by decide)
            obtain ⟨au, cu, rfl, _⟩ := id hl.1
            obtain ⟨v', w4, hrun, hown', hgrow, _, hat⟩ := run_append_own_at (P := Try.prog) w' w.heap.size 23 23 24 i0 (.slice none 0 0) 1 24 Try.underlying23 hi hz0 hz1 hz2 rfl (by decide) _ bk.length vals ho ⟨B, 0, none⟩ 1 1 [.slice au xs.length cu] rfl (fun j u hu => by
              cases j with
              | zero => simp at hu; subst hu; exact hc
              | succ j => simp at hu) (fun u hu => by simp at hu; subst hu; rfl) (by simp only [maxLen]; omega) (by omega) r3
            have e' := slot_of e
            have e2' := slot_of e2
            have hP := Grows.push hvl hall hl hgrow hown' hat (Nat.le_refl _)
            have hR4 : R10 w g (p2 + 1) w.heap.size bk (.slice (some ⟨G, 0, none⟩) bk.length co) D' w4 := by
              refine ⟨?_, grown_new r2 hgrow (fun b q => ?_), Nat.le_trans r3 hgrow.size, fun q => ?_, fun b q => Nat.lt_of_lt_of_le (r5 b q) hgrow.size⟩
              · rw [h8]
                exact r1.grown hgrow (fun b q => by have := (ho.lt b q).1; omega)
              · exact (ho.lt b q).1
              · rw [hD12'] at q; cases q
            have hs : a'.eval (Operand.tmp 37) = .slice (some ⟨G, 0, none⟩) bk.length co := e
            have hx : a'.eval (Operand.tmp 48) = .slice (some ⟨B, 0, none⟩) 1 1 := e2
            have HP := Lib.hid hP
            have HR4 := Lib.hid hR4
            clear hP hR4 hown' hat ho hall hl hc hdep r4 r5 r1
            unfold Oper.wp execOp
            simp only [resolve, invoke, builtin, Sem.run_bind, Sem.run_pure, Result.andThen_ok, List.map_toArray, List.map_cons, List.map_nil, hs, hx, hrun]
            exact hK v' w4 ⟨xs, hx6, HP.out⟩ HR4.out hgrow
          case s13 =>
            intro a' w' D D' _ _ hdo _ hR _ hdep K hK
            obtain ⟨xs, hx6, hP⟩ : ∃ xs : List Int, xs.length ≤ 6 ∧ Grows w' w.heap.size (a'.tmps.getD 49 undef) (bk ++ [xs]) := hdep 12 (by kernel_rfl)
            obtain ⟨x1, e1⟩ : ∃ x, a'.tmps.getD 49 undef = x := ⟨_, rfl⟩
            rw [e1] at hP
            have e1' := slot_of e1
            have HP := Lib.hid hP
            clear hP e1 hdep
            go_simp
            exact hK x1 _ ⟨xs, hx6, HP.out⟩ (hR.same (World.grownBy.refl _ _) (hdo 8 (by decide)) (hdo 12 (by decide))) (T10.refl _)
          case hend =>
            rintro ⟨tm, df⟩ w' D hD hsz hdf hR _ hgood
            have hdf' : df = [] := hdf
            subst hdf'
            obtain ⟨xs, hx6, hP⟩ : ∃ xs : List Int, xs.length ≤ 6 ∧ Grows w' w.heap.size (tm.getD 2 undef) (bk ++ [xs]) := hgood 13 (by decide)
            obtain ⟨r1, r2, r3, r4, r5⟩ := hR
            rw [hD 8 (by decide)] at r1
            obtain ⟨x1, e1⟩ : ∃ x, tm.getD 2 undef = x := ⟨_, rfl⟩
            rw [e1] at hP
            have e1' : tm[2]?.getD undef = _ := slot_of (a := ⟨tm, []⟩) e1
            have HP := Lib.hid hP
            clear hP
            go_wp2_with fail
            go_ret
            exact ⟨x1, bk ++ [xs], p2 + 2, by simp only [e1], HP.out, by simp; omega, HSH.out.push hx6, r1, by omega, r2⟩
        · have hr0' : (r == 0) = false := by simpa using hr0
          clear hr0
          go_wp2_with fail
          go_ret
          exact ⟨_, bk, p2 + 1, rfl, hown2, by omega, HSH.out, hr2, by omega, hgr2⟩

end Go.Proofs.Ytcfnklpbiodhjaa
