/-
  What the program's and the model's looks at a list of groups come to: for lists of at most 1048576 integers.
-/
import Derived.Test.YtoebgdcgcdigaaaDigits
import Derived.Test.YtoebgdcgcdigaaaBuilder
import Derived.Test.YtoebgdcgcdigaaaInts
import Derived.Test.YtoebgdcgcdigaaaShelf
namespace Go.Proofs.Ytoebgdcgcdigaaa
open Go.RowKit

set_option maxHeartbeats 400000 in
theorem groupsOf_yes {w : World} {v : Value} {xs : List Int} {m : Int} (h : Ints w v xs) (hok : okGroups xs = true) (hm : (xs.length : Int) ≤ m) :
    Calls Try.prog 90 #[v, .int .i64 m] w fun e w' => e = .returned (.tuple #[.string ⟨(dg xs).toArray⟩, .bool true]) ∧ Below w.heap.size w w' := by
  obtain ⟨a, cap, rfl, hl, hc⟩ := h
  have hl' : (xs.length : Int) ≤ 1048576 := by omega
  have hfresh := Lib.IsBuilderF.of (Lib.fresh_isBuilder 107 5 w)
  rcases hc with rfl | ⟨b, o, rfl, hb, hcell⟩
  · go_enter Try.func90, Try.ntmps90
    go_wp2_with fail
    refine wp_loop_rounds 1 ?_
    rw [rounds_succ]
    go_wp2_with (go_at_call 95; refine (Try.Builder_String_any_k w.heap.size w.heap.size [] _ hfresh (by simp)).mono ?_)
    rintro e W1 ⟨rfl, _, b1, _⟩
    go_wp2_with fail
    go_ret2
    exact ⟨rfl, ((Below.refl _ _).alloc (Nat.le_refl _) _).trans b1⟩
  · have HC := Lib.hid hcell
    have HO := Lib.hid hok
    clear hcell hok
    go_enter Try.func90, Try.ntmps90
    go_wp2_with fail
    go_loopw [15] (fun i wr => ∃ k : Nat, k ≤ xs.length ∧ i = .int .i64 k ∧ Lib.IsBuilderF 107 5 w.heap.size w.heap.size (Lib.byteCells (dg (xs.take k))) wr ∧ Below w.heap.size w wr) (fun i _ => xs.length - (intOf i).toNat)
    case atStart => exact ⟨0, by omega, rfl, hfresh, (Below.refl _ _).alloc (Nat.le_refl _) _⟩
    case round =>
      obtain ⟨k, hk, rfl, hI, hbel⟩ := hrel
      by_cases hlt : k < xs.length
      · obtain ⟨x, hx⟩ : ∃ x, x = xs.getD k 0 := ⟨_, rfl⟩
        have hc1 : wr.cell? ⟨b, o + k, none⟩ = some (.int .i64 x) := by rw [hx]; exact (hbel.cell (p := ⟨b, o + k, none⟩) hb).trans (HC.out k hlt)
        have hr := okGroups_get HO.out k hlt
        rw [← hx] at hr
        obtain ⟨hx1, hx6⟩ := hr
        have HX := Lib.hid hx
        clear hx
        have hIl : (Lib.byteCells (dg (xs.take k))).length ≤ 1048576 := by rw [Lib.byteCells_length, dg_length, List.length_take]; omega
        go_wp2_with (go_at_call 93; refine (writeByte w.heap.size w.heap.size _ _ _ hI (by omega) hbel.size).mono ?_)
        rintro e W1 ⟨rfl, h1, b1, k1⟩
        go_wp2_with fail
        go_roundw
        case rel =>
          refine ⟨k + 1, by omega, by go_num, ?_, hbel.trans b1⟩
          rw [dg_succ _ _ hlt, ← HX.out, Lib.byteCells_append]
          have e : Lib.byteCells [digit x] = [Value.int .u8 (48 + x)] := by simp [Lib.byteCells, digit_toNat (show 0 ≤ x by omega) (show x ≤ 9 by omega)]
          rw [e]
          exact h1
        case measure => simp [intOf]; omega
      · go_wp2_with (go_at_call 95; refine (Try.Builder_String_any_k w.heap.size w.heap.size (dg (xs.take k)) _ hI hbel.size).mono ?_)
        rintro e W1 ⟨rfl, _, b1, _⟩
        go_wp2_with fail
        go_ret2
        obtain rfl : k = xs.length := by omega
        rw [List.take_length]
        exact ⟨rfl, hbel.trans b1⟩

set_option maxHeartbeats 400000 in
theorem groupsOf_no {w : World} {v : Value} {xs : List Int} {m : Int} (h : Ints w v xs) (hno : okGroups xs = false ∨ m < (xs.length : Int)) :
    Calls Try.prog 90 #[v, .int .i64 m] w fun e w' => e = .returned (.tuple #[.string ⟨#[]⟩, .bool false]) ∧ Below w.heap.size w w' := by
  obtain ⟨a, cap, rfl, hl, hc⟩ := h
  have hl' : (xs.length : Int) ≤ 1048576 := by omega
  by_cases hm : m < (xs.length : Int)
  · clear hno
    go_enter Try.func90, Try.ntmps90
    go_wp2_with fail
    go_ret2
    exact ⟨rfl, Below.refl _ _⟩
  have HN := Lib.hid (hno.resolve_right hm)
  clear hno
  have hfresh := Lib.IsBuilderF.of (Lib.fresh_isBuilder 107 5 w)
  rcases hc with rfl | ⟨b, o, rfl, hb, hcell⟩
  · exact absurd HN.out (by simp [okGroups])
  · have HC := Lib.hid hcell
    clear hcell
    go_enter Try.func90, Try.ntmps90
    go_wp2_with fail
    go_loopw [15] (fun i wr => ∃ k : Nat, k ≤ xs.length ∧ i = .int .i64 k ∧ OkTo xs k ∧ Lib.IsBuilderF 107 5 w.heap.size w.heap.size (Lib.byteCells (dg (xs.take k))) wr ∧ Below w.heap.size w wr) (fun i _ => xs.length - (intOf i).toNat)
    case atStart => exact ⟨0, by omega, rfl, OkTo.zero _, hfresh, (Below.refl _ _).alloc (Nat.le_refl _) _⟩
    case round =>
      obtain ⟨k, hk, rfl, hok, hI, hbel⟩ := hrel
      by_cases hlt : k < xs.length
      · obtain ⟨x, hx⟩ : ∃ x, x = xs.getD k 0 := ⟨_, rfl⟩
        have hc1 : wr.cell? ⟨b, o + k, none⟩ = some (.int .i64 x) := by rw [hx]; exact (hbel.cell (p := ⟨b, o + k, none⟩) hb).trans (HC.out k hlt)
        have HX := Lib.hid hx
        clear hx
        have hIl : (Lib.byteCells (dg (xs.take k))).length ≤ 1048576 := by rw [Lib.byteCells_length, dg_length, List.length_take]; omega
        rcases Int.lt_or_le x 1 with hx1 | hx1
        · go_wp2_with fail
          go_ret2
          exact ⟨rfl, hbel⟩
        · rcases Int.lt_or_le 6 x with hx6 | hx6
          · go_wp2_with fail
            go_ret2
            exact ⟨rfl, hbel⟩
          · go_wp2_with (go_at_call 93; refine (writeByte w.heap.size w.heap.size _ _ _ hI (by omega) hbel.size).mono ?_)
            rintro e W1 ⟨rfl, h1, b1, k1⟩
            go_wp2_with fail
            go_roundw
            case rel =>
              refine ⟨k + 1, by omega, by go_num, hok.succ hlt (by rw [← HX.out]; omega) (by rw [← HX.out]; omega), ?_, hbel.trans b1⟩
              rw [dg_succ _ _ hlt, ← HX.out, Lib.byteCells_append]
              have e : Lib.byteCells [digit x] = [Value.int .u8 (48 + x)] := by simp [Lib.byteCells, digit_toNat (show 0 ≤ x by omega) (show x ≤ 9 by omega)]
              rw [e]
              exact h1
            case measure => simp [intOf]; omega
      · obtain rfl : k = xs.length := by omega
        exact absurd hok.all (by rw [HN.out]; simp)

/-- The string of a code, or of no code. -/
def codeStr (xs : List Int) : ByteArray := if groupsB xs 1 5 then ⟨(dg xs).toArray⟩ else ⟨#[]⟩

theorem dg_ne {xs : List Int} (h : 1 ≤ xs.length) : (dg xs).isEmpty = false := by
  cases xs with
  | nil => simp at h
  | cons x r => rfl

set_option maxHeartbeats 400000 in
theorem codeOf {w : World} {v : Value} {xs : List Int} (h : Ints w v xs) :
    Calls Try.prog 56 #[v] w fun e w' => e = .returned (.tuple #[.string (codeStr xs), .bool (groupsB xs 1 5)]) ∧ Below w.heap.size w w' := by
  by_cases hok : okGroups xs = true ∧ (xs.length : Int) ≤ 5
  · obtain ⟨h1, h2⟩ := hok
    by_cases h0 : xs = []
    · subst h0
      go_enter Try.func56, Try.ntmps56
      go_wp2_with (go_at_call 90; refine (groupsOf_yes h h1 h2).mono ?_)
      rintro e W1 ⟨rfl, b1⟩
      go_wp2_with fail
      go_ret2
      exact ⟨rfl, b1⟩
    · have hlen : 1 ≤ xs.length := by cases xs <;> simp_all
      have e1 : groupsB xs 1 5 = true := by simp [groupsB, h1, h2]; omega
      have e2 : codeStr xs = ⟨(dg xs).toArray⟩ := by simp [codeStr, e1]
      have hne := dg_ne hlen
      rw [e1, e2]
      clear e1 e2 h0
      have H1 := Lib.hid h1
      clear h1
      go_enter Try.func56, Try.ntmps56
      go_wp2_with (go_at_call 90; refine (groupsOf_yes h H1.out h2).mono ?_)
      rintro e W1 ⟨rfl, b1⟩
      go_wp2_with fail
      go_ret2
      exact ⟨rfl, b1⟩
  · have e1 : groupsB xs 1 5 = false := by
      cases hh : okGroups xs
      · simp [groupsB, hh]
      · have : ¬ (xs.length : Int) ≤ 5 := fun q => hok ⟨hh, q⟩
        simp [groupsB, this]
    have e2 : codeStr xs = ⟨#[]⟩ := by simp [codeStr, e1]
    have HH := Lib.hid (show okGroups xs = false ∨ (5 : Int) < (xs.length : Int) by
      cases hh : okGroups xs
      · exact .inl rfl
      · exact .inr (by have : ¬ (xs.length : Int) ≤ 5 := fun q => hok ⟨hh, q⟩; omega))
    rw [e1, e2]
    clear hok e1 e2
    go_enter Try.func56, Try.ntmps56
    go_wp2_with (go_at_call 90; refine (groupsOf_no h HH.out).mono ?_)
    rintro e W1 ⟨rfl, b1⟩
    go_wp2_with fail
    go_ret2
    exact ⟨rfl, b1⟩

end Go.Proofs.Ytoebgdcgcdigaaa
