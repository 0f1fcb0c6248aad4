/-
  Walks: the model's. For lists of at most 1048576 texts of at most 1048576 bytes each.
-/
import Derived.Test.YtilkphehonilbaaDoorTrkE
import Derived.Test.YtilkphehonilbaaDoorStrT
namespace Go.Proofs.YtilkphehonilbaaDoor
open Go.RowKit Go.Sort

/-- Is a text a step from a track, at one of its first k circuits? -/
def isB (S T : ByteArray) : Nat → Bool
  | 0 => false
  | k + 1 => isB S T k || (spB S k && decide (spS S k = T))
theorem isB_stay {S T : ByteArray} {k : Nat} (h : isB S T k = true) : ∀ n, k ≤ n → isB S T n = true := by
  intro n
  induction n with
  | zero => intro hn; have : k = 0 := by omega
            subst this; exact h
  | succ n ih =>
    intro hn
    by_cases e : k = n + 1
    · rw [← e]; exact h
    · simp only [isB]
      rw [ih (by omega), Bool.true_or]
/-- Does a text go on a walk? -/
def wkOk (xs : List ByteArray) (i : Nat) : Bool := trB (xs.getD i ⟨#[]⟩) && (decide (i = 0) || isB (xs.getD (i - 1) ⟨#[]⟩) (xs.getD i ⟨#[]⟩) (xs.getD (i - 1) ⟨#[]⟩).size)
def wkTo (xs : List ByteArray) : Nat → Bool
  | 0 => true
  | k + 1 => wkTo xs k && wkOk xs k
def walkB (xs : List ByteArray) : Bool := wkTo xs xs.length && decide (0 < xs.length)
theorem wkTo_no {xs : List ByteArray} {k : Nat} (h : wkTo xs k = false) : ∀ n, k ≤ n → wkTo xs n = false := by
  intro n
  induction n with
  | zero => intro hn; have : k = 0 := by omega
            subst this; exact h
  | succ n ih =>
    intro hn
    by_cases e : k = n + 1
    · rw [← e]; exact h
    · simp only [wkTo]
      rw [ih (by omega), Bool.false_and]
theorem walk_no {xs : List ByteArray} {k : Nat} (hk : k < xs.length) (h : wkOk xs k = false) : walkB xs = false := by
  unfold walkB
  rw [wkTo_no (k := k + 1) (by simp only [wkTo]; rw [h, Bool.and_false]) _ hk, Bool.false_and]
theorem wkTo_valid {xs : List ByteArray} {k : Nat} (h : wkTo xs (k + 1) = true) : trB (xs.getD k ⟨#[]⟩) = true := by
  simp only [wkTo, wkOk, Bool.and_eq_true] at h
  exact h.2.1

theorem lists_ne {X T : ByteArray} (h : X ≠ T) : (X.toList == T.toList) = false := by
  rw [beq_eq_false_iff_ne]
  intro e
  rw [ByteArray.toList_eq, ByteArray.toList_eq] at e
  exact h (ByteArray.ext (Array.toList_inj.1 e))

set_option maxHeartbeats 2000000 in
theorem specIs (S T : ByteArray) (ht : trB S = true) (w : World) :
    Calls Tryd.prog 31 #[.string S, .string T] w fun e w' => e = .returned (.bool (isB S T S.size)) ∧ Below w.heap.size w w' := by
  have hS8 := (trB_of ht).1
  have hSi : (S.size : Int) ≤ 8 := by omega
  have ST := Lib.hid (fun (k : Nat) (hk : k < S.size) (w : World) => specStep7 S k ht hk w)
  have SI := Lib.hid (fun (k : Nat) (hk : k < S.size) => sp_in (k := k) ht hk)
  clear ht
  go_enter Tryd.func31, Tryd.ntmps31
  go_wp2_with fail
  go_loopw [5, 6, 7] (fun i _ _ wr => ∃ k : Nat, k ≤ S.size ∧ i = .int .i64 k ∧ Hid (isB S T k = false) ∧ Below w.heap.size w wr) (fun i _ _ _ => S.size - (intOf i).toNat)
  case atStart => exact ⟨0, by omega, rfl, Lib.hid rfl, Below.refl _ _⟩
  case round =>
    obtain ⟨k, hk, rfl, HF, hbel⟩ := hrel
    have BR := Lib.hid hbel
    clear hbel
    by_cases hlt : k < S.size
    · have hki : (k : Int) < (S.size : Int) := by omega
      have S7 := ST.out k hlt
      rw [SI.out k hlt] at S7
      have E1 := Lib.hid (show isB S T (k + 1) = (spB S k && decide (spS S k = T)) by simp only [isB]; rw [HF.out, Bool.false_or])
      obtain ⟨X, hX⟩ : ∃ X, X = spS S k := ⟨_, rfl⟩
      obtain ⟨t, ht⟩ : ∃ t, t = spB S k := ⟨_, rfl⟩
      rw [← hX, ← ht] at S7 E1
      have S7 := Lib.hid S7
      clear hX ht
      cases t with
      | false =>
        go_wp2_with (go_at_call 45; refine (S7.out _).mono ?_; rintro e w5 ⟨rfl, b5⟩)
        have B5 := Lib.hid (BR.out.trans (b5.mono BR.out.size))
        go_roundw
        case rel => exact ⟨k + 1, by omega, by go_num, Lib.hid (by rw [E1.out]; rfl), B5.out⟩
        case measure => simp [intOf]; omega
      | true =>
        by_cases hx : X = T
        · subst hx
          go_wp2_with (go_at_call 45; refine (S7.out _).mono ?_; rintro e w5 ⟨rfl, b5⟩)
          go_ret
          have B5 := BR.out.trans (b5.mono BR.out.size)
          have e1 : isB S X (k + 1) = true := by rw [E1.out]; simp
          exact ⟨by rw [isB_stay e1 _ hlt]; rfl, B5⟩
        · have hne := lists_ne hx
          have E2 := Lib.hid (show isB S T (k + 1) = false by rw [E1.out, decide_eq_false hx]; rfl)
          clear hx
          go_wp2_with (go_at_call 45; refine (S7.out _).mono ?_; rintro e w5 ⟨rfl, b5⟩)
          have B5 := Lib.hid (BR.out.trans (b5.mono BR.out.size))
          go_roundw
          case rel => exact ⟨k + 1, by omega, by go_num, Lib.hid E2.out, B5.out⟩
          case measure => simp [intOf]; omega
    · obtain rfl : k = S.size := by omega
      go_wp2_with fail
      go_ret
      exact ⟨by rw [HF.out]; rfl, BR.out⟩

set_option maxHeartbeats 4000000 in
theorem specWalk {w : World} {base : Nat} {v : Value} {xs : List ByteArray} (h : OwnS w base v xs) (hl : xs.length ≤ 1048576) (hz : ∀ i, i < xs.length → (xs.getD i ⟨#[]⟩).size ≤ 1048576) :
    Calls Tryd.prog 11 #[v] w fun e w' => e = .returned (.bool (walkB xs)) ∧ Below w.heap.size w w' := by
  have hli : (xs.length : Int) ≤ 1048576 := by omega
  have TV := Lib.hid (fun (S : ByteArray) (hS : S.size ≤ 1048576) (w : World) => specTrackValid S hS w)
  have IS := Lib.hid (fun (S T : ByteArray) (ht : trB S = true) (w : World) => specIs S T ht w)
  obtain ⟨a, cap, rfl, hcap, hc⟩ := h.cells
  have HC := Lib.hid hc
  have HZ := Lib.hid hz
  clear h hc hz
  go_enter Tryd.func11, Tryd.ntmps11
  go_wp2_with fail
  go_loopw [3] (fun i wr => ∃ k : Nat, k ≤ xs.length ∧ i = .int .i64 k ∧ Hid (wkTo xs k = true) ∧ Below w.heap.size w wr) (fun i _ => xs.length - (intOf i).toNat)
  case atStart => exact ⟨0, by omega, rfl, Lib.hid rfl, Below.refl _ _⟩
  case round =>
    obtain ⟨k, hk, rfl, HW, hbel⟩ := hrel
    have BR := Lib.hid hbel
    by_cases hlt : k < xs.length
    · have hki : (k : Int) < (xs.length : Int) := by omega
      obtain ⟨g, rfl, hg0, hg, hcell⟩ : ∃ g, a = some ⟨g, 0, none⟩ ∧ base ≤ g ∧ g < w.heap.size ∧ ∀ i, i < xs.length → w.cell? ⟨g, i, none⟩ = some (.string (xs.getD i ⟨#[]⟩)) := by
        rcases HC.out with h | h
        · rw [h] at hlt; simp at hlt
        · exact h
      obtain ⟨T, hT⟩ : ∃ T, T = xs.getD k ⟨#[]⟩ := ⟨_, rfl⟩
      have c0 := (hbel.cell (p := ⟨g, k, none⟩) hg).trans (hcell k hlt)
      rw [← hT] at c0
      have z0 := fun d os => cell_regrown c0 d os
      have hTz : T.size ≤ 1048576 := by rw [hT]; exact HZ.out k hlt
      have G1 := fun (d : Nat) (os : Array Obj) => Calls.regrown_of (TV.out T hTz (grow (redrawn wr d) os))
      obtain ⟨t, ht⟩ : ∃ t, t = trB T := ⟨_, rfl⟩
      rw [← ht] at G1
      have G1 := Lib.hid G1
      cases t with
      | false =>
        have E := Lib.hid (walk_no hlt (show wkOk xs k = false by unfold wkOk; rw [← hT, ← ht, Bool.false_and]))
        clear hT hTz ht hcell c0 hbel
        go_wp2_with fail
        refine wp_region_quiet_below (by kernel_rfl) (by kernel_rfl) ?_
        repeat (go_big_quiet_step (with_reducible exact G1.out _ _))
        refine wpQuiet_nil ?_
        intro _ hw'
        obtain ⟨⟨dq, osq⟩, hw''⟩ := hw'
        subst hw''
        have B6 := Lib.hid (BR.out.trans ((below_regrown _ dq osq).mono BR.out.size))
        clear z0
        go_wp2_with fail
        go_ret
        exact ⟨by rw [E.out]; rfl, B6.out⟩
      | true =>
        by_cases h0 : k = 0
        · subst h0
          have E := Lib.hid (show wkTo xs 1 = true by simp only [wkTo, wkOk]; rw [← hT, ← ht]; rfl)
          clear hT hTz ht hcell c0 hbel
          go_wp2_with fail
          refine wp_region_quiet_below (by kernel_rfl) (by kernel_rfl) ?_
          repeat (go_big_quiet_step (with_reducible exact G1.out _ _))
          refine wpQuiet_nil ?_
          intro _ hw'
          obtain ⟨⟨dq, osq⟩, hw''⟩ := hw'
          subst hw''
          have B6 := Lib.hid (BR.out.trans ((below_regrown _ dq osq).mono BR.out.size))
          clear z0
          go_wp2_with fail
          go_roundw
          case rel => exact ⟨1, by omega, by go_num, Lib.hid E.out, B6.out⟩
          case measure => simp [intOf]; omega
        · obtain ⟨j, hj⟩ : ∃ j, k = j + 1 := ⟨k - 1, by omega⟩
          have hkp : 0 < k := by omega
          have hjl : j < xs.length := by omega
          have hji : (j : Int) < (xs.length : Int) := by omega
          have hw1 : IntKind.i64.wrap ((k : Int) - 1) = (j : Int) := by rw [IntWalk.i64_in _ (by omega)]; omega
          obtain ⟨S, hS⟩ : ∃ S, S = xs.getD j ⟨#[]⟩ := ⟨_, rfl⟩
          have c1 := (hbel.cell (p := ⟨g, j, none⟩) hg).trans (hcell j hjl)
          rw [← hS] at c1
          have z1 := fun d os => cell_regrown c1 d os
          have hSv : trB S = true := by rw [hS]; exact wkTo_valid (by rw [← hj]; exact HW.out)
          have G2 := fun (d : Nat) (os : Array Obj) => Calls.regrown_of (IS.out S T hSv (grow (redrawn wr d) os))
          obtain ⟨s, hs⟩ : ∃ s, s = isB S T S.size := ⟨_, rfl⟩
          rw [← hs] at G2
          have G2 := Lib.hid G2
          have hok : wkOk xs k = s := by
            unfold wkOk
            rw [← hT, ← ht, decide_eq_false h0, show k - 1 = j by omega, ← hS, ← hs]
            rfl
          cases s with
          | false =>
            have E := Lib.hid (walk_no hlt hok)
            clear hT hTz ht hcell c0 c1 hbel hj h0 hS hs hok hSv
            go_wp2_with fail
            refine wp_region_quiet_below (by kernel_rfl) (by kernel_rfl) ?_
            repeat (go_big_quiet_step (first | with_reducible exact G1.out _ _ | with_reducible exact G2.out _ _))
            refine wpQuiet_nil ?_
            intro _ hw'
            obtain ⟨⟨dq, osq⟩, hw''⟩ := hw'
            subst hw''
            have B6 := Lib.hid (BR.out.trans ((below_regrown _ dq osq).mono BR.out.size))
            clear z0 z1
            go_wp2_with fail
            go_ret
            exact ⟨by rw [E.out]; rfl, B6.out⟩
          | true =>
            have E := Lib.hid (show wkTo xs (k + 1) = true by simp only [wkTo]; rw [hok, HW.out]; rfl)
            clear hT hTz ht hcell c0 c1 hbel hj h0 hS hs hok hSv
            go_wp2_with fail
            refine wp_region_quiet_below (by kernel_rfl) (by kernel_rfl) ?_
            repeat (go_big_quiet_step (first | with_reducible exact G1.out _ _ | with_reducible exact G2.out _ _))
            refine wpQuiet_nil ?_
            intro _ hw'
            obtain ⟨⟨dq, osq⟩, hw''⟩ := hw'
            subst hw''
            have B6 := Lib.hid (BR.out.trans ((below_regrown _ dq osq).mono BR.out.size))
            clear z0 z1
            go_wp2_with fail
            go_roundw
            case rel => exact ⟨k + 1, by omega, by go_num, Lib.hid E.out, B6.out⟩
            case measure => simp [intOf]; omega
    · obtain rfl : k = xs.length := by omega
      have E := Lib.hid (show walkB xs = decide (0 < xs.length) by unfold walkB; rw [HW.out, Bool.true_and])
      obtain ⟨t, ht⟩ : ∃ t, t = decide (0 < xs.length) := ⟨_, rfl⟩
      rw [← ht] at E
      clear hbel hlt
      go_wp2_with fail
      go_ret
      exact ⟨by rw [E.out, ht]; rfl, BR.out⟩

end Go.Proofs.YtilkphehonilbaaDoor
