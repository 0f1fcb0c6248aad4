/-
  The marking of a list of lists, by the laws' helper: only the list's own rows are written. For lists of at most 1048576 lists, each of at most as many integers.
-/
import Derived.Test.YtcfnklpbiodhjaaLists
namespace Go.Proofs.Ytcfnklpbiodhjaa
open Go.RowKit

/-- Of what was there only blocks from lo up to hi may have been written. -/
structure GrownIn (w w' : World) (lo hi : Nat) : Prop where
  os : w'.os = w.os
  tape : w'.tape = w.tape
  output : w'.output = w.output
  size : w.heap.size ≤ w'.heap.size
  block : ∀ k, k < w.heap.size → k < lo ∨ hi ≤ k → w'.heap[k]? = w.heap[k]?

theorem GrownIn.refl (w : World) (lo hi : Nat) : GrownIn w w lo hi := ⟨rfl, rfl, rfl, Nat.le_refl _, fun _ _ _ => rfl⟩
theorem GrownIn.step {w w1 w2 : World} {lo hi : Nat} {row : Option Nat} (h : GrownIn w w1 lo hi) (g : w1.grownBy w2 row) (hr : ∀ b, row = some b → lo ≤ b ∧ b < hi) : GrownIn w w2 lo hi :=
  ⟨g.os.trans h.os, g.tape.trans h.tape, g.output.trans h.output, Nat.le_trans h.size g.size, fun k hk hout => (g.block k (Nat.lt_of_lt_of_le hk h.size) (fun e => by have := hr k e.symm; omega)).trans (h.block k hk hout)⟩
/-- Seen from a world in which none of those blocks was there yet. -/
theorem GrownIn.below {w0 w w' : World} {lo hi : Nat} (g : GrownIn w w' lo hi) (c : Below w0.heap.size w0 w) (hlo : w0.heap.size ≤ lo) : Below w0.heap.size w0 w' :=
  ⟨g.os.trans c.os, g.tape.trans c.tape, g.output.trans c.output, Nat.le_trans c.size g.size, fun k hk => (g.block k (Nat.lt_of_lt_of_le hk c.size) (.inl (by omega))).trans (c.block k hk)⟩
/-- A list of the call's own that lies in another block stands. -/
theorem OwnI.keptIn {w w' : World} {base lo hi : Nat} {v : Value} {xs : List Int} (h : OwnI w base v xs) (g : GrownIn w w' lo hi) (hv : ∀ b, v.ownBlock = some b → b < lo ∨ hi ≤ b) : OwnI w' base v xs := by
  rcases h.2 with ⟨rfl, h0⟩ | ⟨b, cap, cur, rfl, hb, hg, hr⟩
  · exact ⟨h.1, .inl ⟨rfl, h0⟩⟩
  · exact ⟨h.1, .inr ⟨b, cap, cur, rfl, hb, (g.block b (Array.getElem?_eq_some_iff.1 hg).1 (hv b rfl)).trans hg, hr⟩⟩

/-- What the marking of a list of lists hands back. -/
def MarkedL (w : World) (lo hi : Nat) (k m : Int) (e : Ending) (w' : World) : Prop :=
  ∃ q : Int, e = .returned (.int .i64 q) ∧ k ≤ q ∧ q ≤ m ∧ GrownIn w w' lo hi

set_option maxHeartbeats 1000000 in
theorem markLists {wh w : World} {base : Nat} {v : Value} {xss : List (List Int)} {k : Int} (h : OwnLists wh base v xss) (c : Below wh.heap.size wh w) (hk0 : 0 ≤ k) (hk : k ≤ 1048576) :
    Calls Try.prog 18 #[v, .int .i64 k] w (MarkedL w base wh.heap.size k (k + 1048576 * xss.length)) := by
  obtain ⟨g, rfl, hg, ⟨f, hr, hi, hd⟩, hl, hll⟩ := h
  have hl' : (xss.length : Int) ≤ 1048576 := by omega
  have hr1 := hr.of_block (c.block _ hr.lt)
  have hi1 : ∀ i, i < xss.length → OwnI w (g + 1) (f i) (xss.getD i []) := fun i hik => (hi i hik).below c
  have HLT := Lib.hid (fun i (hik : i < xss.length) (b : Nat) (e : (f i).ownBlock = some b) => show base ≤ b ∧ b < wh.heap.size from ⟨by have := (World.ownsRow.lt (hi i hik) b e).1; omega, (World.ownsRow.lt (hi i hik) b e).2⟩)
  have HNE := Lib.hid (fun i (hik : i < xss.length) => show (f i).ownBlock ≠ some g from fun e => by have := (World.ownsRow.lt (hi i hik) g e).1; omega)
  have HD := Lib.hid hd
  have HLL := Lib.hid hll
  clear hr hi hd hll
  go_enter Try.func18, Try.ntmps18
  go_wp2_with fail
  go_loopw [1, 5] (fun q i wr => ∃ (j : Nat) (n : Int), j ≤ xss.length ∧ i = .int .i64 j ∧ q = .int .i64 n ∧ k ≤ n ∧ n ≤ k + 1048576 * j ∧ wr.rowIs g 24 xss.length f ∧ (∀ i, j ≤ i → i < xss.length → OwnI wr (g + 1) (f i) (xss.getD i [])) ∧ GrownIn w wr base wh.heap.size) (fun _ i _ => xss.length - (intOf i).toNat)
  case atStart => exact ⟨0, k, by omega, rfl, rfl, by omega, by omega, hr1, fun i _ hi => hi1 i hi, GrownIn.refl _ _ _⟩
  case round =>
    obtain ⟨j, n, hj, rfl, rfl, hn0, hn1, hrow, hown, hgr⟩ := hrel
    by_cases hlt : j < xss.length
    · have hc1 : wr.cell? ⟨g, j, none⟩ = some (f j) := hrow.cell hlt
      have hoj := hown j (Nat.le_refl _) hlt
      have hlj := HLL.out j hlt
      have HOWN := Lib.hid hown
      have HROW := Lib.hid hrow
      have hki : (j : Int) < (xss.length : Int) := by omega
      obtain ⟨u, hu⟩ : ∃ u, u = f j := ⟨_, rfl⟩
      rw [← hu] at hc1 hoj
      obtain ⟨ys, hys⟩ : ∃ ys, ys = xss.getD j [] := ⟨_, rfl⟩
      rw [← hys] at hoj hlj
      have HU := Lib.hid hu
      clear hown hrow hu hys
      go_wp2_with (go_at_call 19; refine (markInts hoj hlj (by omega) (by omega)).mono ?_)
      rintro e w2 ⟨rfl, o2, g2⟩
      have HG := Lib.hid g2
      clear g2 o2 hoj
      go_wp2_with fail
      go_roundw
      case rel =>
        refine ⟨j + 1, _, by omega, by go_num, rfl, by omega, by omega, HROW.out.of_block (HG.out.block _ HROW.out.lt (fun e => HNE.out j hlt (by rw [← HU.out]; exact e.symm))), fun i hi hil => ?_, hgr.step HG.out (fun b e => HLT.out j hlt b (by rw [← HU.out]; exact e))⟩
        refine (HOWN.out i (by omega) hil).kept HG.out ?_
        rw [HU.out]
        rcases HD.out j i (by omega) hil with q | q
        · cases e2 : (f i).ownBlock with
          | none => exact .inl rfl
          | some b => rw [q]; exact .inr (by simp)
        · exact .inr (fun e => q e.symm)
      case measure => simp [intOf]; omega
    · obtain rfl : j = xss.length := by omega
      go_wp2_with fail
      go_ret
      exact ⟨n, rfl, hn0, hn1, hgr⟩

end Go.Proofs.Ytcfnklpbiodhjaa
