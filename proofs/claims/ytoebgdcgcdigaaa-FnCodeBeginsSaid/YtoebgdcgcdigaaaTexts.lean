/-
  The texts of codes, the program's and the model's: for lists of at most 1048576 groups.
-/
import Derived.Test.YtoebgdcgcdigaaaStrs
namespace Go.Proofs.Ytoebgdcgcdigaaa
open Go.RowKit

set_option maxHeartbeats 2000000 in
set_option maxRecDepth 100000 in
theorem writeRune (B b : Nat) (bs : List Value) (r : Int) (hr0 : -2147483648 ≤ r) (hr1 : r ≤ 2147483647) (w : World) (h : Lib.IsBuilderF 107 5 B b bs w) (hlen : bs.length + 4 ≤ 140737488355328) (hBw : B ≤ w.heap.size) :
    Calls Try.prog 94 #[.pointer (some ⟨b, 0, none⟩), .int .i32 r] w fun e w' => e = .returned (.tuple #[.int .i64 (Lib.runeCells r).length, .nilIface]) ∧ (Lib.IsBuilderF 107 5 B b (bs ++ Lib.runeCells r) w' ∧ Below B w w' ∧ Lib.OthersKept 5 (some b) w w') := by
  have hk4 := Lib.runeCells_le r
  go_enter Try.func94, Try.ntmps94
  go_wp2_with (go_at_call 107; refine (copyCheck B b bs _ h).mono ?_)
  rintro e w1 ⟨rfl, h1, hb1, hk1⟩
  obtain ⟨hB, v, hbk, hown, hne⟩ := h1
  obtain ⟨ao, cap, rfl⟩ : ∃ ao cap, v = .slice ao bs.length cap := by
    rcases hown.2 with ⟨hv, h0⟩ | ⟨g, cap, cur, fz, hv, _⟩
    · exact ⟨none, 0, by rw [hv, h0]⟩
    · exact ⟨_, _, hv⟩
  have c0 : w1.cell? ⟨b, 0, none⟩ = some (.pointer (some ⟨b, 0, none⟩)) := by rw [Lib.cell_of_heap hbk]; rfl
  have c1 : w1.cell? ⟨b, 1, none⟩ = some (.slice ao bs.length cap) := by rw [Lib.cell_of_heap hbk]; rfl
  go_wp2_with (go_at_call 108; refine (Try.utf8_AppendRune_row B _ bs.length bs r hr0 hr1 _ hown hlen (by have := hb1.size; omega)).mono ?_)
  rintro e w2 ⟨v', rfl, hown', o, hgrow⟩
  have hlt : b < w1.heap.size := by
    rcases Nat.lt_or_ge b w1.heap.size with h' | h'
    · exact h'
    · simp [Array.getElem?_eq_none h'] at hbk
  have hb2 : w2.heap[b]? = some (.cells #[.pointer (some ⟨b, 0, none⟩), .slice ao bs.length cap] 107 (0, 0)) := by
    rw [hgrow.block b (by simp; omega) (fun e => hne e.symm), Lib.alloc_old w1 _ b hlt]
    exact hbk
  have d0 : w2.cell? ⟨b, 0, none⟩ = some (.pointer (some ⟨b, 0, none⟩)) := by rw [Lib.cell_of_heap hb2]; rfl
  have d1 : w2.cell? ⟨b, 1, none⟩ = some (.slice ao bs.length cap) := by rw [Lib.cell_of_heap hb2]; rfl
  have f1 : w2.frozen? ⟨b, 1, none⟩ = false := Lib.frozen_of_heap hb2 1
  obtain ⟨g, cap', rfl⟩ : ∃ g cap', v' = .slice (some ⟨g, 0, none⟩) (bs.length + (Lib.runeCells r).length) cap' := by
    rcases hown'.2 with ⟨_, h0⟩ | ⟨g, cap', cur, fz, hv, _⟩
    · omega
    · exact ⟨g, cap', hv⟩
  go_wp2
  go_ret2
  refine ⟨?_, .inr ?_, ?_, ((hk1.alloc _).grown hgrow (Lib.ownsRowF_kind (hown.alloc _))).setCell ⟨b, 1, none⟩ rfl _⟩
  · have e : ((bs.length : Int) + ((Lib.runeCells r).length : Int) - (bs.length : Int)) = ((Lib.runeCells r).length : Int) := by omega
    simp [e]
  · exact Lib.BuilderAtF.put (T := 107) (e := 5) hB hb2 (bs' := bs ++ Lib.runeCells r) (by simpa using hown') (by decide)
  · exact ((hb1.alloc (by have := hb1.size; omega) _).grown hgrow (by have := hb1.size; simp; omega) (fun k hk => (hown.lt k hk).1)).setCell (p := ⟨b, 1, none⟩) hB _

/-- The text of the first k groups. -/
def txtTo (xs : List Int) : Nat → List UInt8
  | 0 => []
  | k + 1 => txtTo xs k ++ (if k = 0 then [] else [45]) ++ [digit (xs.getD k 0)]
theorem txtTo_length (xs : List Int) (k : Nat) : (txtTo xs k).length ≤ 2 * k := by
  induction k with
  | zero => simp [txtTo]
  | succ k ih => simp only [txtTo, List.length_append]; split <;> simp <;> omega
/-- The text of a code, or of no code. -/
def textOf (xs : List Int) : ByteArray := if groupsB xs 1 5 then ⟨(txtTo xs xs.length).toArray⟩ else ⟨#[]⟩

-- (where the program has 94)
theorem rune_digit {x : Int} (h1 : 1 ≤ x) (h6 : x ≤ 6) : Lib.runeCells (48 + x) = Lib.byteCells [digit x] := by
  simp [Lib.runeCells, Lib.encodeRuneZ_one (show 0 ≤ 48 + x by omega) (show 48 + x ≤ 127 by omega), Lib.byteCells, digit_toNat (show 0 ≤ x by omega) (show x ≤ 9 by omega)]

set_option maxHeartbeats 1000000 in
theorem gText {w : World} {S : ByteArray} {xs : List Int} (h : IsDg S xs) :
    Calls Try.prog 61 #[.string S] w fun e w' => e = .returned (.string ⟨(txtTo xs xs.length).toArray⟩) ∧ Below w.heap.size w w' := by
  have hl : xs.length ≤ 1048576 := h.2.2
  have H := Lib.hid h
  clear h
  have hfresh := (Lib.IsBuilderF.of (Lib.fresh_isBuilder 107 5 w)).alloc (.stringIter S 0)
  have hiter : ((w.alloc (.cells #[.pointer none, .slice none 0 0] 107)).alloc (.stringIter S 0)).heap[w.heap.size + 1]? = some (.stringIter S 0) := by
    have := World.iter_heap (w.alloc (.cells #[.pointer none, .slice none 0 0] 107)) S 0
    have hsz : (w.alloc (.cells #[.pointer none, .slice none 0 0] 107)).heap.size = w.heap.size + 1 := by simp
    rw [hsz] at this
    exact this
  have HI0 := Lib.hid hiter
  clear hiter
  go_enter Try.func61, Try.ntmps61
  go_wp2_with fail
  go_loopw [] (fun wr => ∃ k : Nat, k ≤ xs.length ∧ Lib.IsBuilderF 107 5 w.heap.size w.heap.size (Lib.byteCells (txtTo xs k)) wr ∧ wr.heap[w.heap.size + 1]? = some (.stringIter S k) ∧ Below w.heap.size w wr) (fun wr => xs.length - wr.iterPos (w.heap.size + 1))
  case atStart => exact ⟨0, by omega, hfresh, HI0.out, ((Below.refl _ w).alloc (Nat.le_refl _) _).alloc (by simp) _⟩
  case round =>
    obtain ⟨k, hk, hI, hit, hbel⟩ := hrel
    have hlt1 : w.heap.size + 1 < wr.heap.size := (Array.getElem?_eq_some_iff.1 hit).1
    have HI := Lib.hid hit
    clear hit
    have htl : (Lib.byteCells (txtTo xs k)).length ≤ 2097152 := by have := txtTo_length xs k; rw [Lib.byteCells_length]; omega
    by_cases hlt : k < xs.length
    · obtain ⟨x, hx⟩ : ∃ x, x = xs.getD k 0 := ⟨_, rfl⟩
      have hnx : ∀ ty, (Instr.next (.pointer (some ⟨w.heap.size + 1, 0, none⟩)) true ty).run Try.prog wr = .ok (.tuple #[.bool true, .int .i64 k, .int .i32 (48 + x)]) (wr.iterAt (w.heap.size + 1) S (k + 1)) := by rw [hx]; exact fun ty => IsDg.next H.out hlt HI.out ty
      have hb2 := okGroups_get H.out.2.1 k hlt
      rw [← hx] at hb2
      obtain ⟨hx1, hx6⟩ := hb2
      have HX := Lib.hid hx
      clear hx
      have hI2 := hI.iterAt HI.out (k + 1)
      have HI2 := Lib.hid (Lib.iterAt_heap wr (w.heap.size + 1) S k (k + 1) HI.out)
      have hbw2 := Lib.below_iterAt hbel (k := w.heap.size + 1) (by omega) S (k + 1)
      have hsz2 : w.heap.size ≤ (wr.iterAt (w.heap.size + 1) S (k + 1)).heap.size := by rw [Lib.iterAt_size]; omega
      by_cases h0 : k = 0
      · subst h0
        go_wp2_with (go_at_call 94; refine (writeRune w.heap.size w.heap.size _ _ (by omega) (by omega) _ hI2 (by omega) hsz2).mono ?_)
        rintro e W1 ⟨rfl, h1, b1, k1⟩
        go_wp2_with fail
        go_roundw
        case rel =>
          refine ⟨1, by omega, ?_, k1.iter HI2.out (by omega), hbw2.trans b1⟩
          rw [rune_digit hx1 hx6, HX.out] at h1
          exact h1
        case measure =>
          simp only [World.iterPos, k1.iter HI2.out (by omega), HI.out]
          omega
      · have hk0 : (0 : Int) < (k : Int) := by omega
        go_wp2_with (go_at_call 93; refine (writeByte w.heap.size w.heap.size _ _ _ hI2 (by omega) hsz2).mono ?_)
        rintro e W1 ⟨rfl, h1, b1, k1⟩
        have hlen1 : (Lib.byteCells (txtTo xs k) ++ [Value.int .u8 45]).length + 4 ≤ 140737488355328 := by simp; omega
        have hsz3 : w.heap.size ≤ W1.heap.size := Nat.le_trans hsz2 b1.size
        go_wp2_with (go_at_call 94; refine (writeRune w.heap.size w.heap.size _ _ (by omega) (by omega) _ h1 hlen1 hsz3).mono ?_)
        rintro e W2 ⟨rfl, h2, b2, k2⟩
        have k3 := k1.trans k2
        go_wp2_with fail
        go_roundw
        case rel =>
          refine ⟨k + 1, by omega, ?_, k3.iter HI2.out (by omega), hbw2.trans (b1.trans b2)⟩
          rw [rune_digit hx1 hx6, HX.out] at h2
          simp only [txtTo, if_neg h0, Lib.byteCells_append]
          exact h2
        case measure =>
          simp only [World.iterPos, k3.iter HI2.out (by omega), HI.out]
          omega
    · obtain rfl : k = xs.length := by omega
      have hnx : ∀ ty, (Instr.next (.pointer (some ⟨w.heap.size + 1, 0, none⟩)) true ty).run Try.prog wr = .ok (.tuple #[.bool false]) wr := fun ty => IsDg.stop H.out HI.out ty
      go_wp2_with (go_at_call 95; refine (Try.Builder_String_any_k w.heap.size w.heap.size (txtTo xs xs.length) _ hI (by omega)).mono ?_)
      rintro e W1 ⟨rfl, _, b1, _⟩
      go_wp2_with fail
      go_ret
      exact ⟨rfl, hbel.trans b1⟩

set_option maxHeartbeats 400000 in
theorem implText {w : World} {v : Value} {xs : List Int} (h : Ints w v xs) :
    Calls Try.prog 17 #[v] w fun e w' => e = .returned (.string (textOf xs)) ∧ Below w.heap.size w w' := by
  have hl : xs.length ≤ 1048576 := h.len
  cases hv : groupsB xs 1 5
  · have e : textOf xs = ⟨#[]⟩ := by simp [textOf, hv]
    rw [e]
    clear e
    go_enter Try.func17, Try.ntmps17
    go_wp2_with (go_at_call 56; refine (codeOf h).mono ?_)
    rintro e w1 ⟨rfl, b1⟩
    go_wp2_with fail
    go_ret
    exact ⟨rfl, b1⟩
  · have e : textOf xs = ⟨(txtTo xs xs.length).toArray⟩ := by simp [textOf, hv]
    have hS : IsDg (codeStr xs) xs := by unfold codeStr; rw [if_pos hv]; exact .of hv hl
    have HS := Lib.hid hS
    clear hS
    rw [e]
    clear e
    go_enter Try.func17, Try.ntmps17
    go_wp2_with (go_at_call 56; refine (codeOf h).mono ?_)
    rintro e w1 ⟨rfl, b1⟩
    go_wp2_with (go_at_call 61; refine (gText HS.out).mono ?_)
    rintro e w2 ⟨rfl, b2⟩
    go_wp2_with fail
    go_ret
    exact ⟨rfl, chain b1 b2⟩

end Go.Proofs.Ytoebgdcgcdigaaa
