/-
  Drawn walks. For codes of at most 1048576 bytes.
-/
import Derived.Test.YtilkphehonilbaaDoorDrwB
import Derived.Test.YtilkphehonilbaaDoorStrT
namespace Go.Proofs.YtilkphehonilbaaDoor
open Go.RowKit Go.Sort

theorem spS_le (S : ByteArray) (i : Int) : (spS S i).size ≤ S.size := by
  cases h : spB S i
  · rw [spS_no h]; exact Nat.zero_le _
  · rw [spS_yes h, trS_size]; exact Nat.le_refl _
theorem notS {w : World} {base g : Nat} {v : Value} {xs : List ByteArray} (h : OwnS w base v xs) (hg : g < base) : v.ownBlock = none ∨ v.ownBlock ≠ some g := .inr fun e => by
  have := (World.ownsRow.lt h g e).1
  omega
theorem grown_any {w w' : World} (b : Below w.heap.size w w') (row : Option Nat) : w.grownBy w' row := ⟨b.os, b.tape, b.output, b.size, fun k hk _ => b.block k hk⟩
/-- Texts of at most 100 bytes each. -/
def Sh (xs : List ByteArray) : Prop := ∀ i, i < xs.length → (xs.getD i ⟨#[]⟩).size ≤ 100
theorem Sh.snoc {xs : List ByteArray} {s : ByteArray} (h : Sh xs) (hs : s.size ≤ 100) : Sh (xs ++ [s]) := by
  intro i hi
  rw [List.length_append, List.length_singleton] at hi
  by_cases e : i < xs.length
  · have q : (xs ++ [s]).getD i ⟨#[]⟩ = xs.getD i ⟨#[]⟩ := by simp [List.getD_eq_getElem?_getD, List.getElem?_append_left e]
    rw [q]; exact h i e
  · have e2 : i = xs.length := by omega
    subst e2
    have q : (xs ++ [s]).getD xs.length ⟨#[]⟩ = s := by simp [List.getD_eq_getElem?_getD]
    rw [q]; exact hs
/-- A drawn list of texts. -/
def DrawnWalk (B : Nat) (w : World) (e : Ending) (w' : World) : Prop :=
  ∃ (v : Value) (xs : List ByteArray), e = .returned v ∧ OwnS w' w.heap.size v xs ∧ xs.length ≤ 10 ∧ Sh xs ∧ Below B w w'

set_option maxRecDepth 100000 in
set_option maxHeartbeats 4000000 in
theorem drawWalk {w : World} {g p B : Nat} (h : Rdr w g p) (hp : p ≤ 300) (hB : B ≤ g) :
    Calls Tryd.prog 27 #[.pointer (some ⟨g, 0, none⟩)] w (DrawnWalk B w) := by
  have hgl := h.lt
  obtain ⟨i0, hi, hz0, hz1, hz2⟩ := info_parts info_str
  go_enter Tryd.func27, Tryd.ntmps27
  go_wp2_with (go_at_call 35; refine (pick h (by omega) (by omega) (by omega)).mono ?_)
  rintro e w1 ⟨r1, rfl, hr0, hr1, hd1, g1⟩
  have hr1' := hr1 (by omega)
  have hwr : IntKind.i64.wrap (1 + r1) = 1 + r1 := IntWalk.i64_in _ (by omega)
  have b1 := Below.pick (Below.refl B w) (by omega) hB g1
  have s1 := g1.size
  clear hr1 h g1
  go_wp2_with (go_at_call 43; refine (drawTrack hd1 (by omega) hB (by omega) (by omega)).mono ?_)
  rintro e w2 ⟨S, q, rfl, hS, hd2, hq, b2⟩
  have b2 := b1.trans b2
  have s2 : w.heap.size ≤ w2.heap.size := b2.size
  have hgw2 := hd2.lt
  have o3 := (ownS_one w2 S).mono s2
  have d3 := hd2.below (below_alloc w2 (.cells #[.string S] 9)) hgw2
  have b3 := b2.alloc (by omega : B ≤ w2.heap.size) (.cells #[.string S] 9)
  clear hd2 b1 hd1
  go_wp2_with (go_at_call 35; refine (pick d3 (by omega) (by omega) (by omega)).mono ?_)
  rintro e w4 ⟨m, rfl, hm0, hm1, hd4, g4⟩
  have hm1' := hm1 (by omega)
  have O4 := Lib.hid (o3.kept g4 (notS o3 hgl))
  have B4 := Lib.hid (Below.pick b3 (by have := b3.size; omega) hB g4)
  have R4 := Lib.hid hd4
  have X4 := Lib.hid (show Sh [S] from fun i hi => by
    obtain rfl : i = 0 := by simpa using hi
    exact hS)
  clear o3 d3 b3 hm1 hd4 g4 b2 s1
  go_wp2_with fail
  go_loopw [3, 4, 6, 7] (fun s o i _ wr => ∃ (k q1 : Nat) (T : ByteArray) (xs : List ByteArray), (k : Int) ≤ m ∧ i = .int .i64 k ∧ s = .string T ∧ T.size ≤ 100 ∧ xs.length ≤ k + 1 ∧ Hid (Sh xs) ∧ Hid (OwnS wr w.heap.size o xs) ∧ Hid (Rdr wr g q1) ∧ q1 ≤ q + 1 + k ∧ Hid (Below B w wr)) (fun _ _ i _ _ => (8 - intOf i).toNat)
  case atStart => exact ⟨0, q + 1, S, [S], by omega, rfl, rfl, hS, by simp, X4, O4, R4, by omega, B4⟩
  case round =>
    obtain ⟨k, q1, T, xs, hk, rfl, rfl, hT, hxl, XX, OO, RR, hq1, BB⟩ := hrel
    have hk8 : k ≤ 7 := by omega
    have hsz := BB.out.size
    have hTi : (T.size : Int) ≤ 100 := by omega
    by_cases hlt : (k : Int) < m
    · have SN := Lib.hid (specTrackNext T (by omega) wr)
      have hl8 := nxT_length T
      obtain ⟨ys, hys⟩ : ∃ ys, ys = nxT T := ⟨_, rfl⟩
      rw [← hys] at SN hl8
      have hli : (ys.length : Int) ≤ 8 := by omega
      clear hys
      go_wp2_with (go_at_call 48; refine SN.out.mono ?_)
      rintro e w5 ⟨v5, rfl, o5, b5⟩
      have R5 := Lib.hid (RR.out.below b5 RR.out.lt)
      have B5 := Lib.hid (BB.out.trans (b5.mono (by have := hsz; omega)))
      have P5 := Lib.hid (OwnS.below OO.out b5)
      obtain ⟨a5, n5, c5, rfl⟩ := own_is_slice o5
      obtain rfl : n5 = ys.length := by
        obtain ⟨_, _, e4, -⟩ := o5.ints (by omega)
        simp only [Value.slice.injEq] at e4
        exact e4.2.1
      have hs5 := b5.size
      clear b5
      by_cases h0 : ys.length = 0
      · have t0 : ((ys.length : Int) == 0) = true := by rw [h0]; rfl
        clear h0
        go_wp2_with fail
        go_ret
        exact ⟨_, xs, rfl, P5.out, by omega, XX.out, B5.out⟩
      have t0 : ((ys.length : Int) == 0) = false := beq_eq_false_iff_ne.2 (by omega)
      have hpos : (0 : Int) < (ys.length : Int) := by omega
      obtain ⟨b5, cap5, hv5, hb50, hb51⟩ : ∃ g cap, Value.slice a5 ys.length c5 = .slice (some ⟨g, 0, none⟩) ys.length cap ∧ wr.heap.size ≤ g ∧ g < w5.heap.size := by
        rcases o5.shape with ⟨_, z⟩ | z
        · rw [z] at h0; exact absurd rfl h0
        · exact z
      simp only [Value.slice.injEq, true_and] at hv5
      obtain ⟨rfl, rfl⟩ := hv5
      have O5 := Lib.hid o5
      clear o5 h0
      go_wp2_with (go_at_call 35; refine (pick R5.out (by omega) (by omega) (by omega)).mono ?_)
      rintro e w6 ⟨r6, rfl, h60, h61, hr6, g6⟩
      have h62 := h61 (by omega)
      obtain ⟨j, rfl⟩ : ∃ j : Nat, r6 = j := ⟨r6.toNat, by omega⟩
      have h63 : j < ys.length := by omega
      have O6 := O5.out.kept g6 (.inr (fun e => by simp only [Value.ownBlock, Option.some.injEq] at e; omega))
      have c6 : w6.cell? ⟨b5, j, none⟩ = some (.int .i64 (ys.getD j 0)) := by
        have := World.ownsRow.cellAt O6 j (by simpa using h63)
        rw [this]
        simp [h63]
      have P6 := Lib.hid (OwnS.kept P5.out g6 (notS P5.out hgl))
      have R6 := Lib.hid hr6
      have B6 := Lib.hid (Below.pick B5.out (by have := B5.out.size; omega) hB g6)
      have hs6 := g6.size
      obtain ⟨x, hx⟩ : ∃ x, x = ys.getD j 0 := ⟨_, rfl⟩
      rw [← hx] at c6
      have c7 : w6.cell? ⟨b5, 0 + j, none⟩ = some (.int .i64 x) := by rw [Nat.zero_add]; exact c6
      have TS := Lib.hid (specTrackStep T x (by omega) w6)
      have hle := spS_le T x
      obtain ⟨U, hU⟩ : ∃ U, U = spS T x := ⟨_, rfl⟩
      obtain ⟨t, ht⟩ : ∃ t, t = spB T x := ⟨_, rfl⟩
      rw [← hU, ← ht] at TS
      rw [← hU] at hle
      clear hx hU ht O6 g6 hr6 h61
      go_wp2_with (go_at_call 49; refine TS.out.mono ?_)
      rintro e w7 ⟨rfl, b7⟩
      have R7 := Lib.hid (R6.out.below b7 R6.out.lt)
      have B7 := Lib.hid (B6.out.trans (b7.mono (by have := B6.out.size; omega)))
      have hor := OwnS.below P6.out b7
      have hs7 := b7.size
      unfold OwnS at hor
      clear b7 c6 c7
      go_wp2_with (at_builtin; refine wpList_append_own _ rfl _ _ 23 rfl w.heap.size 9 i0 (.string ⟨#[]⟩) 1 16 Tryd.underlying23 hi hz0 hz1 hz2 rfl (by decide) _ _ _ rfl (hor.alloc _) ⟨w7.heap.size, 0, none⟩ 1 1 [.string U] rfl rfl ?c1 ?c2 ?c3 ?c4 ?c5 ?_)
      case c1 => exact str_new _ _
      case c2 => intro u hu; simp at hu; subst hu; rfl
      case c3 => simp only [maxLen]; omega
      case c4 => omega
      case c5 => simp; omega
      intro v' w8 hown' hgrow _
      have own_out := fun c hc => (World.ownsRow.lt hor c hc).1
      have HB := Lib.hid ((B7.out.alloc (by have := B7.out.size; omega) _).grown hgrow (by simp; omega) (fun c hc => by have := own_out c hc; omega))
      have HR := Lib.hid ((R7.out.below (below_alloc w7 (.cells #[.string U] 9)) R7.out.lt).grown hgrow (fun c hc => by have := own_out c hc; omega))
      have HO := Lib.hid (show OwnS w8 w.heap.size v' (xs ++ [U]) by
        unfold OwnS
        rw [List.length_append, List.map_append]
        exact hown')
      have HX := Lib.hid (XX.out.snoc (s := U) (by omega))
      clear hown' hgrow hor own_out
      go_wp2_with fail
      go_roundw
      case rel => exact ⟨k + 1, q1 + 1, U, xs ++ [U], by omega, by go_num, rfl, by omega, by simp; omega, HX.out, HO.out, HR.out, by omega, HB.out⟩
      case measure => simp [intOf]; omega
    · clear hk
      go_wp2_with (go_at_call 35; refine (pick RR.out (by omega) (by omega) (by omega)).mono ?_)
      rintro e w5 ⟨r, rfl, hr0, hr1, hr5, g5⟩
      have hor := OwnS.kept OO.out g5 (notS OO.out hgl)
      have B5 := Lib.hid (Below.pick BB.out (by omega) hB g5)
      have hs5 := g5.size
      clear g5 hr5 hr1
      by_cases h0 : r = 0
      · subst h0
        unfold OwnS at hor
        go_wp2_with (at_builtin; refine wpList_append_own _ rfl _ _ 23 rfl w.heap.size 9 i0 (.string ⟨#[]⟩) 1 16 Tryd.underlying23 hi hz0 hz1 hz2 rfl (by decide) _ _ _ rfl (hor.alloc _) ⟨w5.heap.size, 0, none⟩ 1 1 [.string T] rfl rfl ?c1 ?c2 ?c3 ?c4 ?c5 ?_)
        case c1 => exact str_new _ _
        case c2 => intro u hu; simp at hu; subst hu; rfl
        case c3 => simp only [maxLen]; omega
        case c4 => omega
        case c5 => simp; omega
        intro v' w8 hown' hgrow _
        have own_out := fun c hc => (World.ownsRow.lt hor c hc).1
        have HB := Lib.hid ((B5.out.alloc (by have := B5.out.size; omega) _).grown hgrow (by simp; omega) (fun c hc => by have := own_out c hc; omega))
        have HO := Lib.hid (show OwnS w8 w.heap.size v' (xs ++ [T]) by
          unfold OwnS
          rw [List.length_append, List.map_append]
          exact hown')
        have HX := Lib.hid (XX.out.snoc (s := T) (by omega))
        clear hown' hgrow hor own_out
        go_wp2_with fail
        go_ret
        exact ⟨_, xs ++ [T], rfl, HO.out, by simp; omega, HX.out, HB.out⟩
      · have t0 : (r == 0) = false := beq_eq_false_iff_ne.2 h0
        clear h0
        by_cases h1 : r = 1
        · subst h1
          have HB := Lib.hid (B5.out.alloc (by have := B5.out.size; omega) (.cells #[] 9))
          have HO := Lib.hid ((ownS_empty w5).mono (by omega : w.heap.size ≤ w5.heap.size))
          clear hor
          go_wp2_with fail
          go_ret
          exact ⟨_, [], rfl, HO.out, by simp, fun i hi => by simp at hi, HB.out⟩
        · have t1 : (r == 1) = false := beq_eq_false_iff_ne.2 h1
          clear h1
          go_wp2_with fail
          go_ret
          exact ⟨_, xs, rfl, hor, by omega, XX.out, B5.out⟩

set_option maxHeartbeats 1000000 in
theorem drawTrackWalk {w : World} {a : Option Addr} {len cap : Nat} {zs : List Int} (h : IsRowK .u8 w a len cap zs) (hl : len ≤ 1048576) :
    Calls Tryd.prog 9 #[.slice a len cap] w (DrawnWalk w.heap.size w) := by
  go_enter Tryd.func9, Tryd.ntmps9
  go_wp2_with (go_at_call 28; refine (openRd h hl).mono ?_)
  rintro e w1 ⟨g, rfl, hg, hr, b1⟩
  go_wp2_with (go_at_call 27; refine (drawWalk hr (by omega) hg).mono ?_)
  rintro e w2 ⟨v, xs, rfl, o2, hl2, hx, b2⟩
  go_wp2_with fail
  go_ret
  exact ⟨v, xs, rfl, o2.mono b1.size, hl2, hx, b1.trans b2⟩

set_option maxHeartbeats 1000000 in
theorem drawTrackPassed {w : World} {a : Option Addr} {len cap : Nat} {zs : List Int} (h : IsRowK .u8 w a len cap zs) (hl : len ≤ 1048576) :
    Calls Tryd.prog 25 #[.slice a len cap] w (DrawnWalk w.heap.size w) := by
  go_enter Tryd.func25, Tryd.ntmps25
  go_wp2_with (go_at_call 28; refine (openRd h hl).mono ?_)
  rintro e w1 ⟨g, rfl, hg, hr, b1⟩
  go_wp2_with (go_at_call 27; refine (drawWalk hr (by omega) hg).mono ?_)
  rintro e w2 ⟨v, xs, rfl, o2, hl2, hx, b2⟩
  go_wp2_with fail
  go_ret
  exact ⟨v, xs, rfl, o2.mono b1.size, hl2, hx, b1.trans b2⟩

end Go.Proofs.YtilkphehonilbaaDoor
