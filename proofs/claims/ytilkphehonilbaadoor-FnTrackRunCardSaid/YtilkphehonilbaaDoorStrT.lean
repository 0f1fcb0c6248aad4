/-
  Lists of strings of the call's own; two equal ones, by the laws. (What chapter 3's texts StrO and Strs2 hold too: never together with them.) For at most 1048576 strings.
-/
import Derived.Test.YtilkphehonilbaaDoorTri
import Derived.Test.YtilkphehonilbaaDoorResults
import Derived.BigQuiet
import Derived.Maps.AppendAt
import Derived.Laws.IdiomStrings
namespace Go.Proofs.YtilkphehonilbaaDoor
open Go.RowKit Go.Sort

/-- The value v owns the list of strings ss in a block from base on. -/
def OwnS (w : World) (base : Nat) (v : Value) (ss : List ByteArray) : Prop := w.ownsRow base 9 1 v ss.length (ss.map Value.string)
theorem OwnS.below {w w' : World} {base : Nat} {v : Value} {ss : List ByteArray} (h : OwnS w base v ss) (hb : Below w.heap.size w w') : OwnS w' base v ss :=
  World.ownsRow.kept h (below_grown hb) (by cases v.ownBlock <;> simp)
theorem OwnS.kept {w w' : World} {base : Nat} {v : Value} {ss : List ByteArray} (h : OwnS w base v ss) {row : Option Nat} (hg : w.grownBy w' row) (hne : v.ownBlock = none ∨ v.ownBlock ≠ row) : OwnS w' base v ss :=
  World.ownsRow.kept h hg hne
theorem ownS_empty (w : World) : OwnS (w.alloc (.cells #[] 9)) w.heap.size (.slice (some ⟨w.heap.size, 0, none⟩) 0 0) [] :=
  World.ownsRow_lit w #[] 0 (Nat.le_refl _) (by simp [maxLen]) rfl
theorem info_str : (Tryd.prog.info? 9).map (fun i => (i.zero, i.size, i.bytes)) = some (some (.string ⟨#[]⟩), 1, 16) := by kernel_rfl
/-- A call that hands back a new list of strings, and writes nothing that was there. -/
def MadeStrs (w : World) (ss : List ByteArray) (e : Ending) (w' : World) : Prop := ∃ v, e = .returned v ∧ OwnS w' w.heap.size v ss ∧ Below w.heap.size w w'
/-- Its cells. -/
theorem OwnS.cells {w : World} {base : Nat} {v : Value} {ss : List ByteArray} (h : OwnS w base v ss) :
    ∃ a cap, v = .slice a ss.length cap ∧ ss.length ≤ cap ∧ (ss = [] ∨ ∃ g, a = some ⟨g, 0, none⟩ ∧ base ≤ g ∧ g < w.heap.size ∧ ∀ i, i < ss.length → w.cell? ⟨g, i, none⟩ = some (.string (ss.getD i ⟨#[]⟩))) := by
  rcases h.2 with ⟨rfl, h0⟩ | ⟨g, cap, cur, rfl, hb, hg, hnc, _⟩
  · have : ss = [] := List.eq_nil_of_length_eq_zero h0
    subst this
    exact ⟨none, 0, rfl, Nat.le_refl _, .inl rfl⟩
  · refine ⟨_, cap, rfl, by omega, .inr ⟨g, rfl, hb, (Array.getElem?_eq_some_iff.1 hg).1, fun i hi => ?_⟩⟩
    have := World.ownsRow.cellAt h i (by simpa using hi)
    rw [this]
    simp [hi]
/-- Its block is no iterator. -/
theorem OwnS.not_iter {w : World} {base K pos : Nat} {v : Value} {ss : List ByteArray} {s : ByteArray} (h : OwnS w base v ss) (hk : w.heap[K]? = some (.stringIter s pos)) : v.ownBlock ≠ some K := by
  intro e
  rcases h.2 with ⟨rfl, _⟩ | ⟨g, cap, cur, rfl, hb, hg, _⟩
  · cases e
  · simp only [Value.ownBlock, Option.some.injEq] at e
    subst e
    rw [hk] at hg
    cases hg
theorem OwnS.iterAt {w : World} {base K pos : Nat} {v : Value} {ss : List ByteArray} {s : ByteArray} (h : OwnS w base v ss) (hk : w.heap[K]? = some (.stringIter s pos)) (pos' : Nat) : OwnS (w.iterAt K s pos') base v ss := by
  refine h.kept (row := some K) ?_ (.inr (h.not_iter hk))
  exact ⟨rfl, rfl, rfl, by rw [Lib.iterAt_size]; exact Nat.le_refl _, fun j _ hne => Lib.iterAt_other w K j s pos' (fun e => hne (by rw [e]))⟩

theorem ownS_one (w : World) (s : ByteArray) : OwnS (w.alloc (.cells #[.string s] 9)) w.heap.size (.slice (some ⟨w.heap.size, 0, none⟩) 1 1) [s] :=
  World.ownsRow_lit w #[.string s] 1 (Nat.le_refl _) (by simp [maxLen]) rfl
theorem OwnS.mono {w : World} {base base' : Nat} {v : Value} {xs : List ByteArray} (h : OwnS w base v xs) (hb : base' ≤ base) : OwnS w base' v xs := by
  refine ⟨h.1, ?_⟩
  rcases h.2 with h | ⟨g, cap, cur, rfl, hg, r⟩
  · exact .inl h
  · exact .inr ⟨g, cap, cur, rfl, Nat.le_trans hb hg, r⟩
theorem OwnS.setBelow {w : World} {base : Nat} {v : Value} {xs : List ByteArray} (h : OwnS w base v xs) {a : Addr} (ha : a.block < base) (u : Value) : OwnS (w.setCell a u) base v xs := ownsRow_setCell_below h ha u
theorem str_new (w : World) (s : ByteArray) : ∀ j u, [Value.string s][j]? = some u → (w.alloc (.cells #[.string s] 9)).cell? ((⟨w.heap.size, 0, none⟩ : Addr).add j) = some u := by
  have hn : (w.alloc (.cells #[.string s] 9)).heap[w.heap.size]? = some (.cells #[.string s] 9 (0, 0)) := Go.Deep.blk_alloc_new _ _
  intro j u hu
  cases j with
  | zero =>
    have e : (⟨w.heap.size, 0, none⟩ : Addr).add 0 = ⟨w.heap.size, 0, none⟩ := rfl
    rw [e]
    simp only [World.cell?, hn]
    simpa using hu
  | succ j => simp at hu

set_option maxHeartbeats 1000000 in
theorem sameTexts {w : World} {b1 b2 : Nat} {u v : Value} {ss : List ByteArray} (h : OwnS w b1 u ss) (h' : OwnS w b2 v ss) (hl : ss.length ≤ 1048576) :
    Calls Tryd.prog 16 #[u, v] w fun e w' => e = .returned (.bool true) ∧ Below w.heap.size w w' := by
  obtain ⟨a, cap, rfl, hcap, hc⟩ := h.cells
  obtain ⟨a', cap', rfl, hcap', hc'⟩ := h'.cells
  have hl' : (ss.length : Int) ≤ 1048576 := by omega
  clear h h'
  rcases hc with rfl | ⟨g, rfl, hb, hlt, hcell⟩
  · go_enter Tryd.func16, Tryd.ntmps16
    go_wp2_with fail
    refine wp_loop_rounds 1 ?_
    rw [rounds_succ]
    go_wp2_with fail
    go_ret
    exact ⟨rfl, Below.refl _ _⟩
  rcases hc' with rfl | ⟨g', rfl, hb', hlt', hcell'⟩
  · go_enter Tryd.func16, Tryd.ntmps16
    go_wp2_with fail
    refine wp_loop_rounds 1 ?_
    rw [rounds_succ]
    go_wp2_with fail
    go_ret
    exact ⟨rfl, Below.refl _ _⟩
  have HC := Lib.hid hcell
  have HC' := Lib.hid hcell'
  clear hcell hcell'
  go_enter Tryd.func16, Tryd.ntmps16
  go_wp2_with fail
  go_loopw [5] (fun i wr => ∃ k : Nat, k ≤ ss.length ∧ i = .int .i64 k ∧ Below w.heap.size w wr) (fun i _ => ss.length - (intOf i).toNat)
  case atStart => exact ⟨0, by omega, rfl, Below.refl _ _⟩
  case round =>
    obtain ⟨k, hk, rfl, hbel⟩ := hrel
    by_cases hlt2 : k < ss.length
    · obtain ⟨t, ht⟩ : ∃ t, t = ss.getD k ⟨#[]⟩ := ⟨_, rfl⟩
      have hc1 : wr.cell? ⟨g, k, none⟩ = some (.string t) := by rw [ht]; exact (hbel.cell (p := ⟨g, k, none⟩) hlt).trans (HC.out k hlt2)
      have hc2 : wr.cell? ⟨g', k, none⟩ = some (.string t) := by rw [ht]; exact (hbel.cell (p := ⟨g', k, none⟩) hlt').trans (HC'.out k hlt2)
      have d1 := fun d os => cell_regrown hc1 d os
      have d2 := fun d os => cell_regrown hc2 d os
      have hki : (k : Int) < (ss.length : Int) := by omega
      have hsz := hbel.size
      clear ht hc1 hc2
      go_wp2_with fail
      refine wp_region_quiet_below (by kernel_rfl) (by kernel_rfl) ?_
      repeat (go_big_quiet_step (fail))
      refine wpQuiet_nil ?_
      intro _ hw'
      obtain ⟨⟨dq, osq⟩, hw''⟩ := hw'
      subst hw''
      have BR := (below_regrown wr dq osq).mono hsz
      go_wp2_with fail
      go_roundw
      case rel => exact ⟨k + 1, by omega, by go_num, hbel.trans BR⟩
      case measure => simp [intOf]; omega
    · obtain rfl : k = ss.length := by omega
      go_wp2_with fail
      go_ret
      exact ⟨rfl, hbel⟩

end Go.Proofs.YtilkphehonilbaaDoor
