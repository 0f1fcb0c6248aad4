/-
  The program's look at a book: its codes as strings. For lists of at most 1048576 lists, each of at most as many integers.
-/
import Derived.Test.YtcfnklpbiodhjaaBooks
import Derived.Test.YtcfnklpbiodhjaaStrList
namespace Go.Proofs.Ytcfnklpbiodhjaa
open Go.RowKit

theorem ret_pair {u : Value} {a b : Bool} (h : a = b) : Ending.returned (.tuple #[u, .bool a]) = .returned (.tuple #[u, .bool b]) := by rw [h]

/-- A list of groups as a string. -/
def dgS (xs : List Int) : ByteArray := ⟨(dg xs).toArray⟩
theorem dgS_inj {xs ys : List Int} (hx : okGroups xs = true) (hy : okGroups ys = true) (h : dgS xs = dgS ys) : xs = ys := by
  apply dg_inj hx hy
  have := congrArg (fun s : ByteArray => s.data.toList) h
  simpa [dgS] using this
theorem codeStr_yes {xs : List Int} (h : groupsB xs 1 5 = true) : codeStr xs = dgS xs := by unfold codeStr; rw [if_pos h]; rfl

theorem isAt_map {bk : List (List Int)} {s : ByteArray} {i : Nat} (hi : i < bk.length) : isAt (bk.map dgS) s i = decide (dgS (bk.getD i []) = s) := by
  unfold isAt
  simp [hi]

/-- Among the first k codes, as strings, stands this one. -/
theorem hasStr_yes {bk : List (List Int)} {xs : List Int} {k j : Nat} (hk : k ≤ bk.length) (hj : j < k) (e : xs = bk.getD j []) : hasStr ((bk.take k).map dgS) (dgS xs) = true := by
  apply decide_eq_true
  rw [firstIdx_nonneg]
  have hlen : (bk.take k).length = k := by rw [List.length_take]; omega
  refine ⟨j, by simp; omega, ?_⟩
  rw [isAt_map (by omega)]
  have : (bk.take k).getD j [] = bk.getD j [] := by simp [hj]
  rw [this, e]
  simp
theorem hasStr_no {bk : List (List Int)} {xs : List Int} {k : Nat} (hk : k ≤ bk.length) (hb : BookTo bk k) (hx : groupsB xs 1 5 = true) (h : NotIn bk xs k) : hasStr ((bk.take k).map dgS) (dgS xs) = false := by
  apply decide_eq_false
  rw [firstIdx_nonneg]
  have hlen : (bk.take k).length = k := by rw [List.length_take]; omega
  rintro ⟨j, hj, hat⟩
  have hjk : j < k := by simp at hj; omega
  rw [isAt_map (by omega)] at hat
  have e1 : (bk.take k).getD j [] = bk.getD j [] := by simp [hjk]
  rw [e1] at hat
  have e2 := dgS_inj (groupsB_ok (hb.1 j hjk)).1 (groupsB_ok hx).1 (of_decide_eq_true hat)
  exact h j hjk e2.symm

theorem info_groups : (Try.prog.info? 45).map (fun i => (i.zero, i.size, i.bytes)) = some (some (.string ⟨#[]⟩), 1, 16) := by kernel_rfl

/-- The first k codes as values. -/
def codeVals (bk : List (List Int)) (k : Nat) : List Value := (bk.take k).map fun xs => .string (dgS xs)
theorem codeVals_succ (bk : List (List Int)) (k : Nat) (h : k < bk.length) : codeVals bk (k + 1) = codeVals bk k ++ [.string (dgS (bk.getD k []))] := by
  unfold codeVals
  rw [List.take_succ_eq_append_getElem h, List.map_append]
  congr 1
  simp [h]

theorem strs_of_own {w : World} {base : Nat} {v : Value} {bk : List (List Int)} {k : Nat} (h : w.ownsRow base 45 1 v k (codeVals bk k)) (hk : k ≤ bk.length) (hl : k ≤ 1048576) : Strs w v ((bk.take k).map dgS) := by
  have hlen : ((bk.take k).map dgS).length = k := by simp; omega
  rcases h.2 with ⟨rfl, h0⟩ | ⟨g, cap, cur, rfl, _, hg, hnc, _⟩
  · subst h0
    exact ⟨none, 0, by simp, by simp, .inl (by simp)⟩
  · refine ⟨_, cap, by rw [hlen], ⟨by omega, by omega⟩, .inr ⟨g, 0, rfl, (Array.getElem?_eq_some_iff.1 hg).1, fun i hi => ?_⟩⟩
    rw [hlen] at hi
    have := World.ownsRow.cellAt h i (by omega)
    rw [Nat.zero_add, this]
    have hib : i < bk.length := by omega
    simp [codeVals, hi, hib]

/-- What the program's look at a book hands back. -/
def BookRes (w : World) (bk : List (List Int)) (e : Ending) (w' : World) : Prop :=
  ∃ u, e = .returned (.tuple #[u, .bool (bookB bk)]) ∧ Below w.heap.size w w' ∧ (bookB bk = true → Strs w' u (bk.map dgS))

set_option maxHeartbeats 1000000 in
theorem bookOf {w : World} {v : Value} {bk : List (List Int)} (h : Lists w v bk) : Calls Try.prog 23 #[v] w (BookRes w bk) := by
  obtain ⟨a, cap, rfl, hl, hc⟩ := h
  have hl' : (bk.length : Int) ≤ 1048576 := by omega
  by_cases h10 : 10 < (bk.length : Int)
  · have HN := Lib.hid (bookB_no (show ¬ BookOk bk from fun hh => by have := hh.2; omega))
    go_enter Try.func23, Try.ntmps23
    go_wp2_with fail
    go_ret2
    exact ⟨_, ret_pair HN.out.symm, Below.refl _ _, fun q => by rw [HN.out] at q; cases q⟩
  · have h10' : (bk.length : Int) ≤ 10 := by omega
    clear h10
    obtain ⟨i0, hi, hz0, hz1, hz2⟩ := info_parts info_groups
    have HB := Lib.hid (show i0.bytes * bk.length ≤ 281474976710656 by rw [hz2]; omega)
    go_enter Try.func23, Try.ntmps23
    go_wp2_with (at_make; refine wpList_make_own _ rfl _ _ 42 rfl w.heap.size 45 i0 (.string ⟨#[]⟩) 1 Try.underlying42 hi hz0 hz1 .i64 .i64 _ bk.length rfl rfl rfl HB.out (by simp only [maxLen]; omega) (Nat.le_refl _) ?_)
    intro w1 ho1 hg1
    have hb1 : Below w.heap.size w w1 := (Below.refl _ _).grown hg1 (Nat.le_refl _) (by intro k hk; cases hk)
    clear hg1
    go_wp2_with fail
    go_loopw [4, 6, 7, 8, 17] (fun v _ _ _ i wr => ∃ k : Nat, k ≤ bk.length ∧ i = .int .i64 k ∧ wr.ownsRow w.heap.size 45 1 v k (codeVals bk k) ∧ BookTo bk k ∧ Below w.heap.size w wr) (fun _ _ _ _ i _ => bk.length - (intOf i).toNat)
    case atStart => exact ⟨0, by omega, rfl, by simpa [codeVals] using ho1, BookTo.zero _, hb1⟩
    case round =>
      obtain ⟨k, hk, rfl, hown, hbt, hbel⟩ := hrel
      by_cases hlt : k < bk.length
      · rcases hc with rfl | ⟨b, o, rfl, hb, hcell⟩
        · simp at hlt
        · obtain ⟨x, hx, ix⟩ := hcell k hlt
          have HX0 := Lib.hid hcell
          clear hcell
          obtain ⟨xs, hxs⟩ : ∃ xs, xs = bk.getD k [] := ⟨_, rfl⟩
          rw [← hxs] at ix
          have HX := Lib.hid hxs
          have hc1 : wr.cell? ⟨b, o + k, none⟩ = some x := (hbel.cell (p := ⟨b, o + k, none⟩) hb).trans hx
          have i1 := ix.below hbel
          clear hxs hx
          have hki : (k : Int) < (bk.length : Int) := by omega
          cases hv : groupsB xs 1 5
          · have HN := Lib.hid (bookB_no (not_book_code hlt (by rw [← HX.out]; exact hv)))
            go_wp2_with (go_at_call 37; refine (codeOf i1).mono ?_)
            rintro e w2 ⟨rfl, b2⟩
            go_wp2_with fail
            go_ret2
            exact ⟨_, ret_pair HN.out.symm, hbel.trans (b2.mono hbel.size), fun q => by rw [HN.out] at q; cases q⟩
          · have HV := Lib.hid hv
            by_cases hni : NotIn bk xs k
            · have hhs := hasStr_no hk hbt hv hni
              rw [List.map_take] at hhs
              have HST := Lib.hid (hbt.succ (by rw [← HX.out]; exact hv) (by rw [← HX.out]; exact hni))
              have ecs := codeStr_yes hv
              have HCS := Lib.hid ecs
              clear ecs
              go_wp2_with (go_at_call 37; refine (codeOf i1).mono ?_)
              rintro e w2 ⟨rfl, b2⟩
              rw [HCS.out]
              have hown2 := hown.kept (below_grown b2) (by cases u4.ownBlock <;> simp)
              have hst := strs_of_own hown2 hk (by omega)
              have hb2 := hbel.trans (b2.mono hbel.size)
              have hsz2 := hb2.size
              go_wp2_with (first | (go_at_call 38; refine (containsStr hst).mono ?_; rintro e w' ⟨rfl, rfl⟩) | (at_builtin; refine wpList_append_own _ rfl _ _ 42 rfl w.heap.size 45 i0 (.string ⟨#[]⟩) 1 16 Try.underlying42 hi hz0 hz1 hz2 rfl (by decide) _ _ _ rfl (hown2.alloc _) ⟨w2.heap.size, 0, none⟩ 1 1 [.string (dgS xs)] rfl rfl ?c1 ?c2 ?c3 ?c4 ?c5 ?_))
              case c1 => exact cell_one_new _ _ _
              case c2 => intro u hu; simp at hu; subst hu; rfl
              case c3 => simp only [maxLen]; omega
              case c4 => omega
              case c5 => simp; omega
              intro v' w3 hown' hgrow _
              have HB3 := Lib.hid ((hb2.alloc (by omega) (.cells #[.string (dgS xs)] 45)).grown hgrow (by simp; omega) (fun g hg => (hown2.lt g hg).1))
              have HO := Lib.hid hown'
              clear hown' hgrow hown hown2 hst hbel hb2 hbt
              go_wp2_with fail
              go_roundw
              case rel => exact ⟨k + 1, by omega, by go_num, by rw [codeVals_succ _ _ hlt, ← HX.out]; exact HO.out, HST.out, HB3.out⟩
              case measure => simp [intOf]; omega
            · obtain ⟨j, hj, ej⟩ : ∃ j, j < k ∧ xs = bk.getD j [] := by
                apply Classical.byContradiction
                intro hh
                exact hni (fun l hl e => hh ⟨l, hl, e⟩)
              have hhs := hasStr_yes hk hj ej
              rw [List.map_take] at hhs
              have HN := Lib.hid (bookB_no (not_book_twice hj hlt (by rw [← HX.out]; exact ej)))
              have ecs := codeStr_yes hv
              have HCS := Lib.hid ecs
              clear ecs hni ej
              go_wp2_with (go_at_call 37; refine (codeOf i1).mono ?_)
              rintro e w2 ⟨rfl, b2⟩
              rw [HCS.out]
              have hown2 := hown.kept (below_grown b2) (by cases u4.ownBlock <;> simp)
              have hst := strs_of_own hown2 hk (by omega)
              go_wp2_with (go_at_call 38; refine (containsStr hst).mono ?_; rintro e w' ⟨rfl, rfl⟩)
              go_ret2
              exact ⟨_, ret_pair HN.out.symm, hbel.trans (b2.mono hbel.size), fun q => by rw [HN.out] at q; cases q⟩
      · obtain rfl : k = bk.length := by omega
        have HF := Lib.hid (bookB_yes ⟨hbt, by omega⟩)
        have hst := strs_of_own hown (Nat.le_refl _) (by omega)
        rw [List.take_length] at hst
        go_wp2_with fail
        go_ret2
        exact ⟨_, ret_pair HF.out.symm, hbel, fun _ => hst⟩

end Go.Proofs.Ytcfnklpbiodhjaa
