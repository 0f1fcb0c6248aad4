/-
  Does one code begin another, by the model and by the program: for lists of at most 1048576 integers.
-/
import Derived.Test.YtmpelpmlmmfalaaSpecB
namespace Go.Proofs.Ytmpelpmlmmfalaa
open Go.RowKit

/-- Do the lists agree on their first k numbers? -/
def AgreeTo (xs ys : List Int) (k : Nat) : Prop := xs.take k = ys.take k
theorem AgreeTo.succ {xs ys : List Int} {k : Nat} (h : AgreeTo xs ys k) (hx : k < xs.length) (hy : k < ys.length) (e : xs.getD k 0 = ys.getD k 0) : AgreeTo xs ys (k + 1) := by
  unfold AgreeTo at *
  rw [take_succ_getD xs k hx, take_succ_getD ys k hy, h, e]
theorem differ {xs ys : List Int} {k : Nat} (_hx : k < xs.length) (_hy : k < ys.length) (e : xs.getD k 0 ≠ ys.getD k 0) : decide (xs = ys) = false := by
  simp only [decide_eq_false_iff_not]
  rintro rfl
  exact e rfl

set_option maxHeartbeats 400000 in
theorem l1Same {w : World} {u v : Value} {xs ys : List Int} (h : Ints w u xs) (h' : Ints w v ys) :
    Calls Try.prog 63 #[u, v] w fun e w' => e = .returned (.bool (decide (xs = ys))) ∧ Below w.heap.size w w' := by
  obtain ⟨a, cap, rfl, hl, hc⟩ := h
  obtain ⟨a', cap', rfl, hl2, hc'⟩ := h'
  have hl' : (xs.length : Int) ≤ 1048576 := by omega
  by_cases hlen : xs.length = ys.length
  · rcases hc with rfl | ⟨b, o, rfl, hb, hcell⟩
    · have hy : ys = [] := by cases ys <;> simp_all
      subst hy
      go_enter Try.func63, Try.ntmps63
      go_wp2_with fail
      refine wp_loop_rounds 1 ?_
      rw [rounds_succ]
      go_wp2_with fail
      go_ret
      exact ⟨rfl, Below.refl _ _⟩
    · rcases hc' with rfl | ⟨b', o', rfl, hb', hcell'⟩
      · have hx : xs = [] := by cases xs <;> simp_all
        subst hx
        go_enter Try.func63, Try.ntmps63
        go_wp2_with fail
        refine wp_loop_rounds 1 ?_
        rw [rounds_succ]
        go_wp2_with fail
        go_ret
        exact ⟨rfl, Below.refl _ _⟩
      · rw [← hlen] at hcell' ⊢
        have HL := Lib.hid hlen
        have HC := Lib.hid hcell
        have HC' := Lib.hid hcell'
        clear hlen hcell hcell' hl2
        go_enter Try.func63, Try.ntmps63
        go_wp2_with fail
        go_loopw [5] (fun i wr => ∃ k : Nat, k ≤ xs.length ∧ i = .int .i64 k ∧ AgreeTo xs ys k ∧ Below w.heap.size w wr) (fun i _ => xs.length - (intOf i).toNat)
        case atStart => exact ⟨0, by omega, rfl, rfl, Below.refl _ _⟩
        case round =>
          obtain ⟨k, hk, rfl, hag, hbel⟩ := hrel
          by_cases hlt : k < xs.length
          · obtain ⟨x, hx⟩ : ∃ x, x = xs.getD k 0 := ⟨_, rfl⟩
            obtain ⟨y, hy⟩ : ∃ y, y = ys.getD k 0 := ⟨_, rfl⟩
            have hc1 : wr.cell? ⟨b, o + k, none⟩ = some (.int .i64 x) := by rw [hx]; exact (hbel.cell (p := ⟨b, o + k, none⟩) hb).trans (HC.out k hlt)
            have hc2 : wr.cell? ⟨b', o' + k, none⟩ = some (.int .i64 y) := by rw [hy]; exact (hbel.cell (p := ⟨b', o' + k, none⟩) hb').trans (HC'.out k hlt)
            have hi : (k : Int) < (xs.length : Int) := by omega
            have HX := Lib.hid hx
            have HY := Lib.hid hy
            clear hx hy
            by_cases e : x = y
            · subst e
              go_wp2_with fail
              go_quiet (fail)
              go_wp2_with fail
              go_roundw
              case rel => exact ⟨k + 1, by omega, by go_num, hag.succ hlt (by rw [← HL.out]; exact hlt) (HX.out.symm.trans HY.out), below_drewN hbel _⟩
              case measure => simp [intOf]; omega
            · have en : (x != y) = true := by simpa using e
              have HN := Lib.hid (differ hlt (by rw [← HL.out]; exact hlt) (by rw [← HX.out, ← HY.out]; exact e))
              clear e
              go_wp2_with fail
              go_quiet (fail)
              go_wp2_with fail
              go_ret
              exact ⟨ret_bool HN.out.symm, below_drewN hbel _⟩
          · obtain rfl : k = xs.length := by omega
            have HE := Lib.hid (show decide (xs = ys) = true by
              unfold AgreeTo at hag
              rw [List.take_length, HL.out, List.take_length] at hag
              simp [hag])
            clear hag
            go_wp2_with fail
            go_ret
            exact ⟨ret_bool HE.out.symm, hbel⟩
  · have en : ((xs.length : Int) != (ys.length : Int)) = true := by simp; omega
    have HN := Lib.hid (show decide (xs = ys) = false by simp only [decide_eq_false_iff_not]; rintro rfl; exact hlen rfl)
    clear hlen
    go_enter Try.func63, Try.ntmps63
    go_wp2_with fail
    go_ret
    exact ⟨ret_bool HN.out.symm, Below.refl _ _⟩

/-- Two codes, of which the first one begins the second one. -/
def beginsB (xs ys : List Int) : Bool := groupsB xs 1 5 && (groupsB ys 1 5 && (decide (xs.length < ys.length) && decide (xs = ys.take xs.length)))

set_option maxHeartbeats 400000 in
theorem specBegins {w : World} {u v : Value} {xs ys : List Int} (h : Ints w u xs) (h' : Ints w v ys) :
    Calls Try.prog 36 #[u, v] w fun e w' => e = .returned (.bool (beginsB xs ys)) ∧ Below w.heap.size w w' := by
  have k1 := h
  have k2 := h'
  obtain ⟨a, cap, rfl, hl, -⟩ := k1
  obtain ⟨a', cap', rfl, hl', -⟩ := k2
  cases hv : groupsB xs 1 5
  · have HE := Lib.hid (show beginsB xs ys = false by simp [beginsB, hv])
    go_enter Try.func36, Try.ntmps36
    go_wp2_with (go_at_call 29; refine (specCodeValid h).mono ?_; rintro e w' ⟨rfl, rfl⟩)
    go_ret
    exact ⟨ret_bool HE.out.symm, Below.refl _ _⟩
  · cases hv' : groupsB ys 1 5
    · have HE := Lib.hid (show beginsB xs ys = false by simp [beginsB, hv'])
      go_enter Try.func36, Try.ntmps36
      go_wp2_with (first | (go_at_call_of 29 (a'); refine (specCodeValid h').mono ?_; rintro e w' ⟨rfl, rfl⟩) | (go_at_call 29; refine (specCodeValid h).mono ?_; rintro e w' ⟨rfl, rfl⟩))
      go_ret
      exact ⟨ret_bool HE.out.symm, Below.refl _ _⟩
    · by_cases hlt : (xs.length : Int) < (ys.length : Int)
      · have HE := Lib.hid (show decide (xs = ys.take xs.length) = beginsB xs ys by simp [beginsB, hv, hv']; intro; omega)
        have ht := h'.take (k := xs.length) (by omega)
        go_enter Try.func36, Try.ntmps36
        go_wp2_with (go_at_call 29; refine (specCodeValid h).mono ?_)
        rintro e w1 ⟨rfl, rfl⟩
        go_wp2_with (go_at_call 29; refine (specCodeValid h').mono ?_)
        rintro e w1 ⟨rfl, rfl⟩
        go_wp2_with (go_at_call 63; refine (l1Same h ht).mono ?_)
        rintro e w2 ⟨rfl, b2⟩
        go_wp2_with fail
        go_ret
        exact ⟨ret_bool HE.out, b2⟩
      · have HE := Lib.hid (show beginsB xs ys = false by simp [beginsB]; intros; omega)
        have hlt' : decide (xs.length < ys.length) = false := by simp; omega
        clear hlt
        go_enter Try.func36, Try.ntmps36
        go_wp2_with (go_at_call 29; refine (specCodeValid h).mono ?_)
        rintro e w1 ⟨rfl, rfl⟩
        go_wp2_with (go_at_call 29; refine (specCodeValid h').mono ?_)
        rintro e w1 ⟨rfl, rfl⟩
        go_wp2_with fail
        go_ret
        exact ⟨ret_bool HE.out.symm, Below.refl _ _⟩

set_option maxHeartbeats 400000 in
theorem gAhead {w : World} {S T : ByteArray} {xs ys : List Int} (h : IsDg S xs) (h' : IsDg T ys) :
    Calls Try.prog 73 #[.string S, .string T] w fun e w' => e = .returned (.bool (decide (xs = ys.take xs.length))) ∧ w = w' := by
  have HE := Lib.hid (show Lib.hasPrefix T.data.toList S.data.toList = decide (xs = ys.take xs.length) by
    obtain ⟨rfl, hx, _⟩ := h
    obtain ⟨rfl, hy, _⟩ := h'
    exact prefix_dg xs ys hx hy)
  go_enter Try.func73, Try.ntmps73
  go_wp2_with (go_at_call 80; refine (Try.strings_HasPrefix _ _ _).mono ?_)
  rintro e w1 ⟨rfl, rfl⟩
  go_wp2_with fail
  go_ret
  exact ⟨ret_bool HE.out, rfl⟩

set_option maxHeartbeats 400000 in
theorem gBegins {w : World} {S T : ByteArray} {xs ys : List Int} (h : IsDg S xs) (h' : IsDg T ys) :
    Calls Try.prog 60 #[.string S, .string T] w fun e w' => e = .returned (.bool (decide (xs.length < ys.length) && decide (xs = ys.take xs.length))) ∧ w = w' := by
  have H := Lib.hid h
  have H' := Lib.hid h'
  have hs := h.size
  have hs' := h'.size
  have hm := h.2.2
  have hm' := h'.2.2
  clear h h'
  by_cases hlt : xs.length < ys.length
  · have e0 : decide (xs.length < ys.length) = true := by simpa using hlt
    have HE := Lib.hid (show decide (xs = ys.take xs.length) = (decide (xs.length < ys.length) && decide (xs = ys.take xs.length)) by rw [e0, Bool.true_and])
    have hl : (S.size : Int) < (T.size : Int) := by omega
    have hl1 : (T.size : Int) ≤ 1048576 := by omega
    clear hs hs' e0 hlt hm hm'
    go_enter Try.func60, Try.ntmps60
    go_wp2_with (go_at_call 73; refine (gAhead H.out H'.out).mono ?_)
    rintro e w1 ⟨rfl, rfl⟩
    go_wp2_with fail
    go_ret
    exact ⟨ret_bool HE.out, rfl⟩
  · have e0 : decide (xs.length < ys.length) = false := by simpa using hlt
    have HE := Lib.hid (show false = (decide (xs.length < ys.length) && decide (xs = ys.take xs.length)) by rw [e0, Bool.false_and])
    have hl : decide (S.size < T.size) = false := by simp; omega
    clear hs hs' e0 hlt hm hm'
    go_enter Try.func60, Try.ntmps60
    go_wp2_with fail
    go_ret
    exact ⟨ret_bool HE.out, rfl⟩

set_option maxHeartbeats 400000 in
theorem implBegins {w : World} {u v : Value} {xs ys : List Int} (h : Ints w u xs) (h' : Ints w v ys) :
    Calls Try.prog 37 #[u, v] w fun e w' => e = .returned (.bool (beginsB xs ys)) ∧ Below w.heap.size w w' := by
  cases hv : groupsB xs 1 5
  · have HE := Lib.hid (show beginsB xs ys = false by simp [beginsB, hv])
    go_enter Try.func37, Try.ntmps37
    go_wp2_with (go_at_call 50; refine (codeOf h).mono ?_)
    rintro e w1 ⟨rfl, b1⟩
    go_wp2_with fail
    go_ret
    exact ⟨ret_bool HE.out.symm, b1⟩
  · have hS : IsDg (codeStr xs) xs := by unfold codeStr; rw [if_pos hv]; exact .of hv h.len
    have HS := Lib.hid hS
    clear hS
    cases hv' : groupsB ys 1 5
    · have HE := Lib.hid (show beginsB xs ys = false by simp [beginsB, hv'])
      go_enter Try.func37, Try.ntmps37
      go_wp2_with (go_at_call 50; refine (codeOf h).mono ?_)
      rintro e w1 ⟨rfl, b1⟩
      have k1 := h'.below b1
      go_wp2_with (go_at_call 50; refine (codeOf k1).mono ?_)
      rintro e w2 ⟨rfl, b2⟩
      go_wp2_with fail
      go_ret
      exact ⟨ret_bool HE.out.symm, chain b1 b2⟩
    · have HE := Lib.hid (show beginsB xs ys = (decide (xs.length < ys.length) && decide (xs = ys.take xs.length)) by simp [beginsB, hv, hv'])
      have hT : IsDg (codeStr ys) ys := by unfold codeStr; rw [if_pos hv']; exact .of hv' h'.len
      have HT := Lib.hid hT
      clear hT
      go_enter Try.func37, Try.ntmps37
      go_wp2_with (go_at_call 50; refine (codeOf h).mono ?_)
      rintro e w1 ⟨rfl, b1⟩
      have k1 := h'.below b1
      go_wp2_with (go_at_call 50; refine (codeOf k1).mono ?_)
      rintro e w2 ⟨rfl, b2⟩
      go_wp2_with (go_at_call 60; refine (gBegins HS.out HT.out).mono ?_)
      rintro e w3 ⟨rfl, rfl⟩
      go_wp2_with fail
      go_ret
      exact ⟨ret_bool HE.out.symm, chain b1 b2⟩

end Go.Proofs.Ytmpelpmlmmfalaa
