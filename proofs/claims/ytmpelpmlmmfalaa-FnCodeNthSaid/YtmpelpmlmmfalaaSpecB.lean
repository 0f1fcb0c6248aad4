/-
  The model's texts, opposite orders and beginnings of codes: for lists of at most 1048576 integers.
-/
import Derived.Test.YtmpelpmlmmfalaaTexts
namespace Go.Proofs.Ytmpelpmlmmfalaa
open Go.RowKit

set_option maxHeartbeats 400000 in
theorem decSmall {n : Int} (w : World) (h0 : 0 ≤ n) (h9 : n ≤ 9) :
    Calls Try.prog 61 #[.int .i64 n] w fun e w' => e = .returned (.string ⟨#[digit n]⟩) ∧ Below w.heap.size w w' := by
  have hcv : (convert 22 9 (.slice (some ⟨w.heap.size, 0, none⟩) 1 1)).run Try.prog (w.alloc (.cells #[.int .u8 (48 + n)] 5)) = .ok (.string ⟨#[digit n]⟩) (w.alloc (.cells #[.int .u8 (48 + n)] 5)) := by
    refine run_convert_bytes_back (P := Try.prog) _ 22 9 5 ⟨w.heap.size, 0, none⟩ 1 [digit n] Try.underlying22 Try.underlying5 Try.underlying9 ?_
    intro j hj
    have hj0 : j = 0 := by simp at hj; exact hj
    subst hj0
    rw [cell_one_new w (.int .u8 (48 + n)) 5 0 _ rfl]
    show some (Value.int .u8 (48 + n)) = some (Value.int .u8 ((digit n).toNat : Int))
    rw [digit_toNat h0 h9]
  go_enter Try.func61, Try.ntmps61
  go_wp2_with fail
  go_ret
  exact ⟨rfl, (Below.refl _ _).alloc (Nat.le_refl _) _⟩

set_option maxHeartbeats 400000 in
theorem specText {w : World} {v : Value} {xs : List Int} (h : Ints w v xs) :
    Calls Try.prog 33 #[v] w fun e w' => e = .returned (.string (textOf xs)) ∧ Below w.heap.size w w' := by
  have hl : xs.length ≤ 1048576 := h.len
  have hl' : (xs.length : Int) ≤ 1048576 := by omega
  have h2 := h
  obtain ⟨a, cap, rfl, -, hc⟩ := h2
  cases hv : groupsB xs 1 5
  · have e : textOf xs = ⟨#[]⟩ := by simp [textOf, hv]
    rw [e]
    clear e
    have h' := h
    by_cases h0 : xs.length = 0
    · have hx : xs = [] := by cases xs <;> simp_all
      subst hx
      go_enter Try.func33, Try.ntmps33
      go_wp2_with fail
      refine wp_loop_rounds 1 ?_
      rw [rounds_succ]
      go_wp2_with fail
      go_ret
      exact ⟨rfl, Below.refl _ _⟩
    · have hlt : (0 : Int) < (xs.length : Int) := by omega
      have hlt' : 0 < xs.length := by omega
      go_enter Try.func33, Try.ntmps33
      go_wp2_with fail
      refine wp_loop_rounds 1 ?_
      rw [rounds_succ]
      go_wp2_with (go_at_call 29; refine (specCodeValid h).mono ?_; rintro e w' ⟨rfl, rfl⟩)
      go_ret
      exact ⟨rfl, Below.refl _ _⟩
  · have e : textOf xs = ⟨(txtTo xs xs.length).toArray⟩ := by simp [textOf, hv]
    have HG := Lib.hid (groupsB_ok hv)
    rw [e]
    clear e
    rcases hc with rfl | ⟨b, o, rfl, hb, hcell⟩
    · simp [groupsB] at hv
    · have HC := Lib.hid hcell
      clear hcell
      go_enter Try.func33, Try.ntmps33
      go_wp2_with fail
      go_loopw [3, 4] (fun s i wr => ∃ (k : Nat) (T : ByteArray), k ≤ xs.length ∧ i = .int .i64 k ∧ s = .string T ∧ T = ⟨(txtTo xs k).toArray⟩ ∧ Below w.heap.size w wr) (fun _ i _ => xs.length - (intOf i).toNat)
      case atStart => exact ⟨0, _, by omega, rfl, rfl, rfl, Below.refl _ _⟩
      case round =>
        obtain ⟨k, T, hk, rfl, rfl, hT, hbel⟩ := hrel
        have hr := h.below hbel
        have hTl : T.size ≤ 4194304 := by rw [hT]; show (txtTo xs k).toArray.size ≤ _; have := txtTo_length xs k; simp; omega
        have HT := Lib.hid hT
        clear hT
        by_cases hlt : k < xs.length
        · obtain ⟨x, hx⟩ : ∃ x, x = xs.getD k 0 := ⟨_, rfl⟩
          have hlk : (k : Int) < (xs.length : Int) := by omega
          have hc1 : wr.cell? ⟨b, o + k, none⟩ = some (.int .i64 x) := by rw [hx]; exact (hbel.cell (p := ⟨b, o + k, none⟩) hb).trans (HC.out k hlt)
          have hb2 := okGroups_get HG.out.1 k hlt
          rw [← hx] at hb2
          obtain ⟨hx1, hx6⟩ := hb2
          have HX := Lib.hid hx
          clear hx
          by_cases h0 : k = 0
          · subst h0
            have hc0 : wr.cell? ⟨b, o, none⟩ = some (.int .i64 x) := by simpa using hc1
            clear hc1
            go_wp2_with (first | (go_at_call 29; refine (specCodeValid hr).mono ?_; rintro e w' ⟨rfl, rfl⟩) | (go_at_call 61; refine (decSmall _ (by omega) (by omega)).mono ?_))
            rintro e W1 ⟨rfl, b1⟩
            go_wp2_with fail
            go_roundw
            case rel =>
              refine ⟨1, _, by omega, rfl, rfl, ?_, chain hbel b1⟩
              rw [HT.out, HX.out]
              rfl
            case measure => simp [intOf]; omega
          · have hk0 : (0 : Int) < (k : Int) := by omega
            go_wp2_with (first | (go_at_call 29; refine (specCodeValid hr).mono ?_; rintro e w' ⟨rfl, rfl⟩) | (go_at_call 61; refine (decSmall _ (by omega) (by omega)).mono ?_))
            rintro e W1 ⟨rfl, b1⟩
            go_wp2_with fail
            go_roundw
            case rel =>
              refine ⟨k + 1, _, by omega, by go_num, rfl, ?_, chain hbel b1⟩
              rw [HT.out, HX.out]
              simp only [txtTo, if_neg h0]
              rw [show (⟨#[45]⟩ : ByteArray) = ⟨[45].toArray⟩ from rfl, show (⟨#[digit (xs.getD k 0)]⟩ : ByteArray) = ⟨[digit (xs.getD k 0)].toArray⟩ from rfl, ByteArray.mk_append_mk, ByteArray.mk_append_mk]
            case measure => simp [intOf]; omega
        · obtain rfl : k = xs.length := by omega
          have hlk : ¬ (xs.length : Int) < (xs.length : Int) := by omega
          go_wp2_with fail
          go_ret
          exact ⟨ret_str HT.out, hbel⟩

end Go.Proofs.Ytmpelpmlmmfalaa
