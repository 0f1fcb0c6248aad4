/-
  Bytes that can be left out, by the program and by the model. For texts of at most 1048576 bytes.
-/
import Derived.Test.YtbpifchlmmdnaaaBlockG
import Derived.Test.YtbpifchlmmdnaaaResults
import Derived.Test.YtbpifchlmmdnaaaLawC
import Derived.Maps.AppendAt
import Derived.IntWalk
namespace Go.Proofs.Ytbpifchlmmdnaaa
open Go.RowKit Go.Sort

/-- A text without a byte. -/
def dropAt (S : ByteArray) (i : Nat) : ByteArray := S.extract 0 i ++ S.extract (i + 1) S.size
theorem dropAt_size (S : ByteArray) (i : Nat) : (dropAt S i).size ≤ 2 * S.size := by
  unfold dropAt
  simp only [ByteArray.size_append, ByteArray.size_extract]
  omega
/-- The first k bytes that can be left out. -/
def dropTo (S : ByteArray) : Nat → List Int
  | 0 => []
  | k + 1 => if bkLegal (dropAt S k) then dropTo S k ++ [(k : Int)] else dropTo S k
def dropL (S : ByteArray) : List Int := if S.size ≤ 30 then dropTo S S.size else []
theorem dropTo_length (S : ByteArray) (k : Nat) : (dropTo S k).length ≤ k := by
  induction k with
  | zero => exact Nat.le_refl _
  | succ k ih => simp only [dropTo]; split <;> first | omega | (simp only [List.length_append, List.length_cons, List.length_nil]; omega)
theorem dropTo_yes {S : ByteArray} {k : Nat} (h : bkLegal (dropAt S k) = true) : dropTo S (k + 1) = dropTo S k ++ [(k : Int)] := by simp [dropTo, h]
theorem dropTo_no {S : ByteArray} {k : Nat} (h : bkLegal (dropAt S k) = false) : dropTo S (k + 1) = dropTo S k := by simp [dropTo, h]
theorem dropL_long {S : ByteArray} (h : 30 < (S.size : Int)) : dropL S = [] := by unfold dropL; rw [if_neg (by omega)]
theorem dropL_is {S : ByteArray} (h : (S.size : Int) ≤ 30) : dropL S = dropTo S S.size := by unfold dropL; rw [if_pos (by omega)]
theorem dropL_length (S : ByteArray) : (dropL S).length ≤ 30 := by
  unfold dropL
  split
  · have := dropTo_length S S.size; omega
  · simp

theorem own_slice2 {w : World} {base E : Nat} {v : Value} {n : Nat} {ys : List Value} (h : w.ownsRow base E 1 v n ys) : ∃ a c, v = .slice a n c := by
  rcases h.2 with ⟨rfl, h0⟩ | ⟨g, cap, cur, rfl, _⟩
  · exact ⟨none, 0, by rw [h0]⟩
  · exact ⟨_, _, rfl⟩

/-- Parts of a text, and one behind the other. -/
theorem part_to {S : ByteArray} {k : Nat} (h : k ≤ S.size) (w : World) : (Instr.slice 9 (.string S) none (some (.int .i64 k)) none).run Try.prog w = .ok (.string (S.extract 0 k)) w := by
  rw [run_slice_string_to_if _ _ _ _ _ Try.underlying9, if_pos ⟨by omega, by omega⟩]
  rfl
theorem part_from {S : ByteArray} {k : Nat} (h : k ≤ S.size) (w : World) : (Instr.slice 9 (.string S) (some (.int .i64 k)) none none).run Try.prog w = .ok (.string (S.extract k S.size)) w := by
  rw [run_slice_string_from_if _ _ _ _ _ Try.underlying9, if_pos ⟨by omega, by omega⟩]
  rfl
theorem cat {A B : ByteArray} (h : A.size + B.size ≤ 9223372036854775807) (w : World) : (binOp .add 9 (.string A) (.string B)).run Try.prog w = .ok (.string (A ++ B)) w := by
  have := run_string_add_sum (P := Try.prog) w A B h
  simpa [binOp] using this

set_option maxRecDepth 100000 in
set_option maxHeartbeats 4000000 in
theorem implDrop (S : ByteArray) (hS : S.size ≤ 1048576) (w : World) :
    Calls Try.prog 42 #[.string S] w (MadeInts w (dropL S)) := by
  obtain ⟨i0, hi, hz0, hz1, hz2⟩ := info_parts info_int
  have q0 := below_alloc w (.cells #[] 3)
  have o0 := own_empty w
  obtain ⟨W, hW⟩ : ∃ W, W = w.alloc (.cells #[] 3) := ⟨_, rfl⟩
  rw [← hW] at q0 o0
  have HW := Lib.hid hW
  have Q0 := Lib.hid q0
  have O0 := Lib.hid o0
  clear hW q0 o0
  rcases Nat.lt_or_ge 30 S.size with hbig | hsm
  · have hb : (30 : Int) < (S.size : Int) := by omega
    have N := Lib.hid (dropL_long hb)
    go_enter Try.func42, Try.ntmps42
    go_wp2_with fail
    rw [← HW.out]
    go_ret
    exact ⟨_, rfl, N.out ▸ O0.out, Q0.out⟩
  · have hb : (S.size : Int) ≤ 30 := by omega
    have D := Lib.hid (dropL_is hb)
    clear hsm
    go_enter Try.func42, Try.ntmps42
    go_wp2_with fail
    rw [← HW.out]
    go_loopw [3, 12] (fun v i wr => ∃ k : Nat, k ≤ S.size ∧ i = .int .i64 k ∧ OwnI wr w.heap.size v (dropTo S k) ∧ Below w.heap.size w wr) (fun _ i _ => S.size - (intOf i).toNat)
    case atStart => exact ⟨0, by omega, rfl, O0.out, Q0.out⟩
    case round =>
      obtain ⟨k, hk, rfl, hown, hbel⟩ := hrel
      by_cases hlt : k < S.size
      · have hki : (k : Int) < (S.size : Int) := by omega
        obtain ⟨A, hA⟩ : ∃ A, A = S.extract 0 k := ⟨_, rfl⟩
        obtain ⟨B, hB⟩ : ∃ B, B = S.extract (k + 1) S.size := ⟨_, rfl⟩
        obtain ⟨C, hC⟩ : ∃ C, C = A ++ B := ⟨_, rfl⟩
        have hCd : C = dropAt S k := by rw [hC, hA, hB]; rfl
        have hAs : A.size ≤ 30 := by rw [hA, ByteArray.size_extract]; omega
        have hBs : B.size ≤ 30 := by rw [hB, ByteArray.size_extract]; omega
        have p1 := part_to (S := S) (k := k) (by omega)
        have p2 : ∀ w, (Instr.slice 9 (.string S) (some (.int .i64 ((k : Int) + 1))) none none).run Try.prog w = .ok (.string B) w := by
          intro w
          have := part_from (S := S) (k := k + 1) (by omega) w
          rw [hB]
          exact this
        have p3 := cat (A := A) (B := B) (by omega)
        have p4 : ∀ w, (Op.stringOp .add A B).run Try.prog w = .ok (.string (A ++ B)) w := fun w => run_string_add_sum (P := Try.prog) w A B (by omega)
        rw [← hA] at p1
        rw [← hC] at p3 p4
        have hw1 : IntKind.i64.wrap ((k : Int) + 1) = (k : Int) + 1 := IntWalk.i64_in _ (by omega)
        have hsz : w.heap.size ≤ wr.heap.size := hbel.size
        obtain ⟨t, ht⟩ : ∃ t, t = bkLegal C := ⟨_, rfl⟩
        have CB := Lib.hid (fun d os => Calls.regrown_of (d := d) (os := os) (implLegal C (by have := dropAt_size S k; rw [hCd]; omega) (grow (redrawn wr d) os)))
        rw [← ht] at CB
        have HT := Lib.hid (ht.trans (by rw [hCd] : bkLegal C = bkLegal (dropAt S k)))
        clear hA hB hC hCd hAs hBs ht
        go_wp2_with fail
        refine wp_region_quiet_below (by kernel_rfl) (by kernel_rfl) ?_
        repeat (go_big_quiet_step (exact CB.out _ _))
        refine wpQuiet_nil ?_
        intro _ hw'
        obtain ⟨⟨dq, osq⟩, hw''⟩ := hw'
        subst hw''
        have BR := (below_regrown wr dq osq).mono hsz
        have hbr := hbel.trans BR
        have hor := hown.below (below_regrown wr dq osq)
        obtain ⟨wq, hwq⟩ : ∃ X, X = grow (redrawn wr dq) osq := ⟨_, rfl⟩
        rw [← hwq] at BR hbr hor ⊢
        clear hown hbel BR hwq p1 p2 p3 p4 hw1
        cases t
        · have HO := Lib.hid (show OwnI wq w.heap.size _ (dropTo S (k + 1)) from (dropTo_no HT.out.symm) ▸ hor)
          clear hor
          go_wp2_with fail
          go_roundw
          case rel => exact ⟨k + 1, by omega, by go_num, HO.out, hbr⟩
          case measure => simp [intOf]; omega
        · obtain ⟨m, hm⟩ : ∃ m, m = (dropTo S k).length := ⟨_, rfl⟩
          have hm5 : m ≤ 30 := by have := dropTo_length S k; omega
          have HC := Lib.hid (dropTo_yes HT.out.symm)
          unfold OwnI at hor
          rw [← hm] at hor
          obtain ⟨av, cv, rfl⟩ := own_slice2 hor
          have HM := Lib.hid hm
          clear hm
          have hsq := hbr.size
          go_wp2_with (at_builtin; refine wpList_append_own _ rfl _ _ 44 rfl w.heap.size 3 i0 (.int .i64 0) 1 8 Try.underlying44 hi hz0 hz1 hz2 rfl (by decide) _ _ _ rfl (hor.alloc _) ⟨wq.heap.size, 0, none⟩ 1 1 [.int .i64 k] rfl rfl ?c1 ?c2 ?c3 ?c4 ?c5 ?_)
          case c1 => exact cell_one_new _ _ _
          case c2 => intro u hu; simp at hu; subst hu; rfl
          case c3 => simp only [maxLen]; omega
          case c4 => omega
          case c5 => simp; omega
          intro v' w2 hown' hgrow _
          have HB := Lib.hid ((hbr.alloc (by omega) _).grown hgrow (by simp; omega) (fun g hg => (hor.lt g hg).1))
          have HO := Lib.hid (show OwnI w2 w.heap.size v' (dropTo S (k + 1)) by
            unfold OwnI
            rw [HC.out, List.length_append, List.map_append, ← HM.out]
            exact hown')
          obtain ⟨av', cv', rfl⟩ := own_slice2 hown'
          clear hown' hgrow hor hbr
          go_wp2_with fail
          go_roundw
          case rel => exact ⟨k + 1, by omega, by go_num, HO.out, HB.out⟩
          case measure => simp [intOf]; omega
      · obtain rfl : k = S.size := by omega
        go_wp2_with fail
        go_ret
        exact ⟨_, rfl, D.out ▸ hown, hbel⟩

set_option maxRecDepth 100000 in
set_option maxHeartbeats 4000000 in
theorem specDrop (S : ByteArray) (hS : S.size ≤ 1048576) (w : World) :
    Calls Try.prog 41 #[.string S] w (MadeInts w (dropL S)) := by
  obtain ⟨i0, hi, hz0, hz1, hz2⟩ := info_parts info_int
  have q0 := below_alloc w (.cells #[] 3)
  have o0 := own_empty w
  obtain ⟨W, hW⟩ : ∃ W, W = w.alloc (.cells #[] 3) := ⟨_, rfl⟩
  rw [← hW] at q0 o0
  have HW := Lib.hid hW
  have Q0 := Lib.hid q0
  have O0 := Lib.hid o0
  clear hW q0 o0
  rcases Nat.lt_or_ge 30 S.size with hbig | hsm
  · have hb : (30 : Int) < (S.size : Int) := by omega
    have N := Lib.hid (dropL_long hb)
    have hpos : (0 : Int) < (S.size : Int) := by omega
    go_enter Try.func41, Try.ntmps41
    go_wp2_with fail
    refine wp_loop_rounds 1 ?_
    rw [rounds_succ]
    go_wp2_with fail
    rw [← HW.out]
    go_ret
    exact ⟨_, rfl, N.out ▸ O0.out, Q0.out⟩
  · have hb : (S.size : Int) ≤ 30 := by omega
    have D := Lib.hid (dropL_is hb)
    clear hsm
    go_enter Try.func41, Try.ntmps41
    go_wp2_with fail
    rw [← HW.out]
    go_loopw [3, 4] (fun v i wr => ∃ k : Nat, k ≤ S.size ∧ i = .int .i64 k ∧ OwnI wr w.heap.size v (dropTo S k) ∧ Below w.heap.size w wr) (fun _ i _ => S.size - (intOf i).toNat)
    case atStart => exact ⟨0, by omega, rfl, O0.out, Q0.out⟩
    case round =>
      obtain ⟨k, hk, rfl, hown, hbel⟩ := hrel
      by_cases hlt : k < S.size
      · have hki : (k : Int) < (S.size : Int) := by omega
        obtain ⟨A, hA⟩ : ∃ A, A = S.extract 0 k := ⟨_, rfl⟩
        obtain ⟨B, hB⟩ : ∃ B, B = S.extract (k + 1) S.size := ⟨_, rfl⟩
        obtain ⟨C, hC⟩ : ∃ C, C = A ++ B := ⟨_, rfl⟩
        have hCd : C = dropAt S k := by rw [hC, hA, hB]; rfl
        have hAs : A.size ≤ 30 := by rw [hA, ByteArray.size_extract]; omega
        have hBs : B.size ≤ 30 := by rw [hB, ByteArray.size_extract]; omega
        have p1 := part_to (S := S) (k := k) (by omega)
        have p2 : ∀ w, (Instr.slice 9 (.string S) (some (.int .i64 ((k : Int) + 1))) none none).run Try.prog w = .ok (.string B) w := by
          intro w
          have := part_from (S := S) (k := k + 1) (by omega) w
          rw [hB]
          exact this
        have p3 := cat (A := A) (B := B) (by omega)
        have p4 : ∀ w, (Op.stringOp .add A B).run Try.prog w = .ok (.string (A ++ B)) w := fun w => run_string_add_sum (P := Try.prog) w A B (by omega)
        rw [← hA] at p1
        rw [← hC] at p3 p4
        have hw1 : IntKind.i64.wrap ((k : Int) + 1) = (k : Int) + 1 := IntWalk.i64_in _ (by omega)
        have hsz : w.heap.size ≤ wr.heap.size := hbel.size
        obtain ⟨t, ht⟩ : ∃ t, t = bkLegal C := ⟨_, rfl⟩
        have CB := Lib.hid (fun d os => Calls.regrown_of (d := d) (os := os) (specLegal C (by have := dropAt_size S k; rw [hCd]; omega) (grow (redrawn wr d) os)))
        rw [← ht] at CB
        have HT := Lib.hid (ht.trans (by rw [hCd] : bkLegal C = bkLegal (dropAt S k)))
        clear hA hB hC hCd hAs hBs ht
        go_wp2_with fail
        refine wp_region_quiet_below (by kernel_rfl) (by kernel_rfl) ?_
        repeat (go_big_quiet_step (exact CB.out _ _))
        refine wpQuiet_nil ?_
        intro _ hw'
        obtain ⟨⟨dq, osq⟩, hw''⟩ := hw'
        subst hw''
        have BR := (below_regrown wr dq osq).mono hsz
        have hbr := hbel.trans BR
        have hor := hown.below (below_regrown wr dq osq)
        obtain ⟨wq, hwq⟩ : ∃ X, X = grow (redrawn wr dq) osq := ⟨_, rfl⟩
        rw [← hwq] at BR hbr hor ⊢
        clear hown hbel BR hwq p1 p2 p3 p4 hw1
        cases t
        · have HO := Lib.hid (show OwnI wq w.heap.size _ (dropTo S (k + 1)) from (dropTo_no HT.out.symm) ▸ hor)
          clear hor
          go_wp2_with fail
          go_roundw
          case rel => exact ⟨k + 1, by omega, by go_num, HO.out, hbr⟩
          case measure => simp [intOf]; omega
        · obtain ⟨m, hm⟩ : ∃ m, m = (dropTo S k).length := ⟨_, rfl⟩
          have hm5 : m ≤ 30 := by have := dropTo_length S k; omega
          have HC := Lib.hid (dropTo_yes HT.out.symm)
          unfold OwnI at hor
          rw [← hm] at hor
          obtain ⟨av, cv, rfl⟩ := own_slice2 hor
          have HM := Lib.hid hm
          clear hm
          have hsq := hbr.size
          go_wp2_with (at_builtin; refine wpList_append_own _ rfl _ _ 44 rfl w.heap.size 3 i0 (.int .i64 0) 1 8 Try.underlying44 hi hz0 hz1 hz2 rfl (by decide) _ _ _ rfl (hor.alloc _) ⟨wq.heap.size, 0, none⟩ 1 1 [.int .i64 k] rfl rfl ?c1 ?c2 ?c3 ?c4 ?c5 ?_)
          case c1 => exact cell_one_new _ _ _
          case c2 => intro u hu; simp at hu; subst hu; rfl
          case c3 => simp only [maxLen]; omega
          case c4 => omega
          case c5 => simp; omega
          intro v' w2 hown' hgrow _
          have HB := Lib.hid ((hbr.alloc (by omega) _).grown hgrow (by simp; omega) (fun g hg => (hor.lt g hg).1))
          have HO := Lib.hid (show OwnI w2 w.heap.size v' (dropTo S (k + 1)) by
            unfold OwnI
            rw [HC.out, List.length_append, List.map_append, ← HM.out]
            exact hown')
          obtain ⟨av', cv', rfl⟩ := own_slice2 hown'
          clear hown' hgrow hor hbr
          go_wp2_with fail
          go_roundw
          case rel => exact ⟨k + 1, by omega, by go_num, HO.out, HB.out⟩
          case measure => simp [intOf]; omega
      · obtain rfl : k = S.size := by omega
        go_wp2_with fail
        go_ret
        exact ⟨_, rfl, D.out ▸ hown, hbel⟩

end Go.Proofs.Ytbpifchlmmdnaaa
