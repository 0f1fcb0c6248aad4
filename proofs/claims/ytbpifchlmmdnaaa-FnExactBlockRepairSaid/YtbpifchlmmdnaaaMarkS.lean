/-
  A list of strings that is marked, and whose marks are looked at. For at most 1048576 strings.
-/
import Derived.Test.YtbpifchlmmdnaaaMarkT
import Derived.Test.YtbpifchlmmdnaaaStrO
import Derived.Test.YtbpifchlmmdnaaaSlices
namespace Go.Proofs.Ytbpifchlmmdnaaa
open Go.RowKit Go.Sort

/-- The marks k, k + 1 .. of strings. -/
def marksT (k : Int) (n : Nat) : List ByteArray := (List.range n).map fun (i : Nat) => mkT (k + (i : Int))
theorem marksT_length (k : Int) (n : Nat) : (marksT k n).length = n := by simp [marksT]
theorem marksT_getD (k : Int) (n i : Nat) (h : i < n) : (marksT k n).getD i ⟨#[]⟩ = mkT (k + i) := by simp [marksT, h]
/-- A row whose first j cells are written already. -/
def fillS (f g : Nat → ByteArray) (j n : Nat) : List Value := (List.range n).map fun i => .string (if i < j then f i else g i)
theorem fillS_set (f g : Nat → ByteArray) (j n : Nat) : (fillS f g j n).set j (.string (f j)) = fillS f g (j + 1) n := by
  apply List.ext_getElem?
  intro i
  by_cases hi : i < n
  · by_cases e : j = i
    · subst e; simp [fillS, hi]
    · by_cases l : i < j
      · simp [fillS, hi, e, l, show i < j + 1 by omega]
      · simp [fillS, hi, e, l, show ¬ i < j + 1 by omega]
  · rw [List.getElem?_eq_none (by simp [fillS]; omega), List.getElem?_eq_none (by simp [fillS]; omega)]
theorem fillS_none (f : Nat → ByteArray) (xs : List ByteArray) : fillS f (fun i => xs.getD i ⟨#[]⟩) 0 xs.length = xs.map Value.string := by
  apply List.ext_getElem?
  intro i
  by_cases hi : i < xs.length
  · simp [fillS, hi]
  · rw [List.getElem?_eq_none (by simp [fillS]; omega), List.getElem?_eq_none (by simp; omega)]
theorem fillS_all (k : Int) (g : Nat → ByteArray) (n : Nat) : fillS (fun i => mkT (k + i)) g n n = (marksT k n).map Value.string := by
  apply List.ext_getElem?
  intro i
  by_cases hi : i < n
  · simp [fillS, marksT, hi]
  · rw [List.getElem?_eq_none (by simp [fillS]; omega), List.getElem?_eq_none (by simp [marksT]; omega)]
theorem fillS_get (f g : Nat → ByteArray) (j n i : Nat) (h : i < n) : (fillS f g j n)[i]? = some (.string (if i < j then f i else g i)) := by
  simp [fillS, h]

set_option maxHeartbeats 1000000 in
theorem markStrs {w : World} {base : Nat} {v : Value} {xs : List ByteArray} {k : Int} (h : OwnS w base v xs) (hl : xs.length ≤ 1048576) (hk0 : 0 ≤ k) (hk : k ≤ 1048576) :
    Calls Try.prog 39 #[v, .int .i64 k] w fun e w' => e = .returned (.int .i64 (k + xs.length)) ∧ OwnS w' base v (marksT k xs.length) ∧ w.grownBy w' v.ownBlock := by
  have hl' : (xs.length : Int) ≤ 1048576 := by omega
  have hshape : (v = .slice none 0 0 ∧ xs = []) ∨ ∃ g cap, v = .slice (some ⟨g, 0, none⟩) xs.length cap ∧ base ≤ g ∧ g < w.heap.size := by
    rcases h.2 with ⟨rfl, h0⟩ | ⟨g, cap, cur, rfl, hb, hg, _⟩
    · exact .inl ⟨rfl, List.eq_nil_of_length_eq_zero h0⟩
    · exact .inr ⟨g, cap, rfl, hb, (Array.getElem?_eq_some_iff.1 hg).1⟩
  rcases hshape with ⟨rfl, rfl⟩ | ⟨g, cap, rfl, hb, hg⟩
  · go_enter Try.func39, Try.ntmps39
    go_wp2_with fail
    refine wp_loop_rounds 1 ?_
    rw [rounds_succ]
    go_wp2_with fail
    go_ret
    exact ⟨ret_int (by simp), World.ownsRow_nil _ _ _ _, World.grownBy.refl _ _⟩
  · have h0 : w.ownsRow base 9 1 (.slice (some ⟨g, 0, none⟩) xs.length cap) xs.length (fillS (fun i => mkT (k + i)) (fun i => xs.getD i ⟨#[]⟩) 0 xs.length) := by rw [fillS_none]; exact h
    clear h
    go_enter Try.func39, Try.ntmps39
    go_wp2_with fail
    go_loopw [1, 5] (fun q i wr => ∃ j : Nat, j ≤ xs.length ∧ i = .int .i64 j ∧ q = .int .i64 (k + j) ∧ wr.ownsRow base 9 1 (.slice (some ⟨g, 0, none⟩) xs.length cap) xs.length (fillS (fun i => mkT (k + i)) (fun i => xs.getD i ⟨#[]⟩) j xs.length) ∧ w.grownBy wr (some g)) (fun _ i _ => xs.length - (intOf i).toNat)
    case atStart => exact ⟨0, by omega, rfl, by simp, h0, World.grownBy.refl _ _⟩
    case round =>
      obtain ⟨j, hj, rfl, rfl, hown, hgr⟩ := hrel
      by_cases hlt : j < xs.length
      · have MT := Lib.hid (markText (k + j) (by omega) (by omega))
        have hji : (j : Int) < (xs.length : Int) := by omega
        obtain ⟨X, hX⟩ : ∃ X, X = mkT (k + j) := ⟨_, rfl⟩
        rw [← hX] at MT
        have HX := Lib.hid hX
        have HO := Lib.hid hown
        clear hX hown
        go_wp2_with (go_at_call 65; refine (MT.out _).mono ?_)
        rintro e w1 ⟨rfl, b1⟩
        have hg1 : wr.grownBy w1 (some g) := ⟨b1.os, b1.tape, b1.output, b1.size, fun i hi _ => b1.block i hi⟩
        have hown := World.ownsRow.kept HO.out (below_grown b1) (by right; simp [Value.ownBlock])
        have hc : w1.cell? ⟨g, j, none⟩ = some (.string (if j < j then mkT (k + j) else xs.getD j ⟨#[]⟩)) := by rw [World.ownsRow.cellAt hown j (by omega), fillS_get _ _ _ _ _ hlt]
        have hf : w1.frozen? ⟨g, j, none⟩ = false := World.ownsRow.frozenAt hown j
        have hs := World.ownsRow.stored hown j (.string X)
        have HS := Lib.hid (show (w1.setCell ⟨g, j, none⟩ (.string X)).ownsRow base 9 1 (.slice (some ⟨g, 0, none⟩) xs.length cap) xs.length (fillS (fun i => mkT (k + i)) (fun i => xs.getD i ⟨#[]⟩) (j + 1) xs.length) by
          have := hs.1
          rw [HX.out, fillS_set (fun i => mkT (k + i))] at this
          rw [HX.out]
          exact this)
        have HG := Lib.hid (grown_trans (grown_trans hgr hg1) hs.2)
        clear hs hown hg1 b1
        go_wp2_with fail
        go_roundw
        case rel => exact ⟨j + 1, by omega, by go_num, by go_num, HS.out, HG.out⟩
        case measure => simp [intOf]; omega
      · obtain rfl : j = xs.length := by omega
        go_wp2_with fail
        go_ret
        refine ⟨rfl, ?_, hgr⟩
        rw [fillS_all] at hown
        unfold OwnS
        rw [marksT_length]
        exact hown

set_option maxHeartbeats 1000000 in
theorem heldStrs {w : World} {base : Nat} {v : Value} {n : Nat} {k : Int} (h : OwnS w base v (marksT k n)) (hl : n ≤ 1048576) (hk0 : 0 ≤ k) (hk : k ≤ 1048576) :
    Calls Try.prog 40 #[v, .int .i64 k] w fun e w' => e = .returned (.int .i64 (k + n)) ∧ Below w.heap.size w w' := by
  have hl' : (n : Int) ≤ 1048576 := by omega
  obtain ⟨a, cap, rfl, hcap, hc⟩ := h.cells
  clear h
  rw [marksT_length] at hc hcap ⊢
  rcases hc with h0 | ⟨g, rfl, hb, hg, hcell⟩
  · have hn : n = 0 := by rw [← marksT_length k n, h0]; rfl
    subst hn
    go_enter Try.func40, Try.ntmps40
    go_wp2_with fail
    refine wp_loop_rounds 1 ?_
    rw [rounds_succ]
    go_wp2_with fail
    go_ret
    exact ⟨ret_int (by simp), Below.refl _ _⟩
  · have HC := Lib.hid hcell
    clear hcell
    go_enter Try.func40, Try.ntmps40
    go_wp2_with fail
    go_loopw [1, 5] (fun q i wr => ∃ j : Nat, j ≤ n ∧ i = .int .i64 j ∧ q = .int .i64 (k + j) ∧ Below w.heap.size w wr) (fun _ i _ => n - (intOf i).toNat)
    case atStart => exact ⟨0, by omega, rfl, by simp, Below.refl _ _⟩
    case round =>
      obtain ⟨j, hj, rfl, rfl, hbel⟩ := hrel
      by_cases hlt : j < n
      · obtain ⟨X, hX⟩ : ∃ X, X = mkT (k + j) := ⟨_, rfl⟩
        have hc1 : wr.cell? ⟨g, j, none⟩ = some (.string X) := by rw [hX, ← marksT_getD k n j hlt]; exact (hbel.cell (p := ⟨g, j, none⟩) hg).trans (HC.out j hlt)
        have d1 := fun d os => cell_regrown hc1 d os
        have MT := Lib.hid (fun d os => Calls.regrown_of (d := d) (os := os) (markText (k + j) (by omega) (by omega) (grow (redrawn wr d) os)))
        rw [← hX] at MT
        have hji : (j : Int) < (n : Int) := by omega
        have hsz := hbel.size
        clear hX hc1
        go_wp2_with fail
        refine wp_region_quiet_below (by kernel_rfl) (by kernel_rfl) ?_
        repeat (go_big_quiet_step (exact MT.out _ _))
        refine wpQuiet_nil ?_
        intro _ hw'
        obtain ⟨⟨dq, osq⟩, hw''⟩ := hw'
        subst hw''
        have BR := (below_regrown wr dq osq).mono hsz
        go_wp2_with fail
        go_roundw
        case rel => exact ⟨j + 1, by omega, by go_num, by go_num, hbel.trans BR⟩
        case measure => simp [intOf]; omega
      · obtain rfl : j = n := by omega
        go_wp2_with fail
        go_ret
        exact ⟨rfl, hbel⟩

end Go.Proofs.Ytbpifchlmmdnaaa
