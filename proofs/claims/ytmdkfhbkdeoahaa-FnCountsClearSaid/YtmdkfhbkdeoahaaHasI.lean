/-
  Is a number in a list, by the laws: for lists of at most 1048576 integers.
-/
import Derived.Test.YtmdkfhbkdeoahaaSlices
import Derived.Test.YtmdkfhbkdeoahaaKit
namespace Go.Proofs.Ytmdkfhbkdeoahaa
open Go.RowKit

theorem take_has {xs : List Int} {k : Nat} (hk : k < xs.length) {n : Int} (h : n ∉ xs.take k) (hn : xs.getD k 0 ≠ n) : n ∉ xs.take (k + 1) := by
  intro q
  rw [List.take_add_one, List.getElem?_eq_getElem hk] at q
  rcases List.mem_append.1 q with q | q
  · exact h q
  · simp only [Option.toList_some, List.mem_singleton] at q
    rw [List.getD_eq_getElem?_getD, List.getElem?_eq_getElem hk] at hn
    exact hn q.symm

set_option maxHeartbeats 1000000 in
theorem hasInt {w : World} {v : Value} {xs : List Int} (h : Ints w v xs) (n : Int) :
    Calls Try.prog 20 #[v, .int .i64 n] w fun e w' => e = .returned (.bool (decide (n ∈ xs))) ∧ Below w.heap.size w w' := by
  obtain ⟨a, cap, rfl, hl, hc⟩ := h
  have hl' : (xs.length : Int) ≤ 1048576 := by omega
  have HC := Lib.hid hc
  clear hc
  obtain ⟨t, ht⟩ : ∃ t, t = decide (n ∈ xs) := ⟨_, rfl⟩
  rw [← ht]
  have HT := Lib.hid ht
  clear ht
  go_enter Try.func20, Try.ntmps20
  go_wp2_with fail
  go_loopw [5] (fun i wr => ∃ k : Nat, k ≤ xs.length ∧ i = .int .i64 k ∧ n ∉ xs.take k ∧ Below w.heap.size w wr) (fun i _ => xs.length - (intOf i).toNat)
  case atStart => exact ⟨0, by omega, rfl, by simp, Below.refl _ _⟩
  case round =>
    obtain ⟨k, hk, rfl, hno, hbel⟩ := hrel
    have NO := Lib.hid hno
    have BB := Lib.hid hbel
    clear hno hbel
    by_cases hlt : k < xs.length
    · have hki : (k : Int) < (xs.length : Int) := by omega
      rcases HC.out with e | ⟨b, o, rfl, hb, hcell⟩
      · rw [e] at hlt; simp at hlt
      have hx := (BB.out.cell (p := ⟨b, o + k, none⟩) hb).trans (hcell k hlt)
      obtain ⟨x, hxe⟩ : ∃ x, x = xs.getD k 0 := ⟨_, rfl⟩
      rw [← hxe] at hx
      have HX := Lib.hid hxe
      clear hcell hxe HC
      by_cases e : x = n
      · have hm : n ∈ xs := by
          have q := HX.out
          rw [List.getD_eq_getElem?_getD, List.getElem?_eq_getElem hlt] at q
          rw [← e, q]
          exact List.getElem_mem hlt
        have HD := Lib.hid (HT.out.trans (decide_eq_true hm))
        have he : (x == n) = true := by rw [e]; simp
        clear hm e
        go_wp2_with fail
        go_ret
        exact ⟨ret_bool HD.out.symm, BB.out⟩
      · have he : (x == n) = false := by simpa using e
        have HN := Lib.hid (take_has hlt NO.out (by rw [← HX.out]; exact e))
        go_wp2_with fail
        go_roundw
        case rel => exact ⟨k + 1, by omega, by go_num, HN.out, BB.out⟩
        case measure => simp [intOf]; omega
    · obtain rfl : k = xs.length := by omega
      have hd : decide (n ∈ xs) = false := decide_eq_false (by have := NO.out; rwa [List.take_length] at this)
      have HD := Lib.hid (HT.out.trans hd)
      clear hd
      go_wp2_with fail
      go_ret
      exact ⟨ret_bool HD.out.symm, BB.out⟩

end Go.Proofs.Ytmdkfhbkdeoahaa
