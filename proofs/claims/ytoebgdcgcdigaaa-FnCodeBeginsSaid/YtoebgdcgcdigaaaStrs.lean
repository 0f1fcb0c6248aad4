/-
  What the methods of a string of digits return: its beats, its list, its text; for lists of at most 1048576 groups.
-/
import Derived.Test.YtoebgdcgcdigaaaGroups
import Derived.Test.YtoebgdcgcdigaaaLaws
namespace Go.Proofs.Ytoebgdcgcdigaaa
open Go.RowKit

/-- The string S holds the groups xs as digits. -/
def IsDg (S : ByteArray) (xs : List Int) : Prop := S = ⟨(dg xs).toArray⟩ ∧ okGroups xs = true ∧ xs.length ≤ 1048576

theorem IsDg.size {S : ByteArray} {xs : List Int} (h : IsDg S xs) : S.size = xs.length := by
  rw [h.1]
  show (dg xs).toArray.size = _
  simp [dg]

theorem IsDg.next {P : Program} {S : ByteArray} {xs : List Int} (h : IsDg S xs) {k K : Nat} (hk : k < xs.length) {w : World} (hit : w.heap[K]? = some (.stringIter S k)) (ty : TypeId) :
    (Instr.next (.pointer (some ⟨K, 0, none⟩)) true ty).run P w = .ok (.tuple #[.bool true, .int .i64 k, .int .i32 (48 + xs.getD k 0)]) (w.iterAt K S (k + 1)) := by
  have hr := okGroups_get h.2.1 k hk
  have hs := h.size
  have hb : ((S[k]'(by omega)).toNat : Int) = 48 + xs.getD k 0 := by
    have e : S[k]'(by omega) = digit (xs.getD k 0) := by
      obtain ⟨rfl, _⟩ := h
      show (dg xs).toArray[k]'(by simp [dg]; omega) = _
      simp [dg, hk]
    rw [e]
    exact digit_toNat (by omega) (by omega)
  rw [Lib.run_next_ascii_at w K S k ty hit (by omega) (by omega), hb]

theorem IsDg.stop {P : Program} {S : ByteArray} {xs : List Int} (h : IsDg S xs) {K : Nat} {w : World} (hit : w.heap[K]? = some (.stringIter S xs.length)) (ty : TypeId) :
    (Instr.next (.pointer (some ⟨K, 0, none⟩)) true ty).run P w = .ok (.tuple #[.bool false]) w :=
  Lib.run_next_end_at w K S xs.length ty hit (by rw [h.size]; omega)

set_option maxHeartbeats 400000 in
theorem gBeats {w : World} {S : ByteArray} {xs : List Int} (h : IsDg S xs) :
    Calls Try.prog 60 #[.string S] w fun e w' => e = .returned (.int .i64 (sumL xs)) ∧ Below w.heap.size w w' := by
  have hl : xs.length ≤ 1048576 := h.2.2
  have H := Lib.hid h
  clear h
  go_enter Try.func60, Try.ntmps60
  go_wp2_with fail
  go_loopw [3] (fun s wr => ∃ k : Nat, k ≤ xs.length ∧ s = .int .i64 (sumL (xs.take k)) ∧ wr.heap[w.heap.size]? = some (.stringIter S k) ∧ Below w.heap.size w wr) (fun _ wr => xs.length - wr.iterPos w.heap.size)
  case atStart => exact ⟨0, by omega, rfl, World.iter_heap _ _ _, (Below.refl _ _).alloc (Nat.le_refl _) _⟩
  case round =>
    obtain ⟨k, hk, rfl, hit, hbel⟩ := hrel
    have HI := Lib.hid hit
    clear hit
    by_cases hlt : k < xs.length
    · obtain ⟨x, hx⟩ : ∃ x, x = xs.getD k 0 := ⟨_, rfl⟩
      have hnx : ∀ ty, (Instr.next (.pointer (some ⟨w.heap.size, 0, none⟩)) true ty).run Try.prog wr = .ok (.tuple #[.bool true, .int .i64 k, .int .i32 (48 + x)]) (wr.iterAt w.heap.size S (k + 1)) := by rw [hx]; exact fun ty => IsDg.next H.out hlt HI.out ty
      have hb1 := sumL_bounds H.out.2.1 k hk
      have hb2 := okGroups_get H.out.2.1 k hlt
      rw [← hx] at hb2
      have HX := Lib.hid hx
      clear hx
      go_wp2_with fail
      go_roundw
      case rel => exact ⟨k + 1, by omega, by rw [sumL_succ _ _ hlt, ← HX.out]; go_num, Lib.iterAt_heap _ _ _ _ _ HI.out, Lib.below_iterAt hbel (Nat.le_refl _) _ _⟩
      case measure =>
        simp only [World.iterPos, HI.out, Lib.iterAt_heap _ _ _ _ (k + 1) HI.out]
        omega
    · obtain rfl : k = xs.length := by omega
      have hnx : ∀ ty, (Instr.next (.pointer (some ⟨w.heap.size, 0, none⟩)) true ty).run Try.prog wr = .ok (.tuple #[.bool false]) wr := fun ty => IsDg.stop H.out HI.out ty
      go_wp2_with fail
      go_ret
      exact ⟨ret_int (by rw [List.take_length]), hbel⟩

theorem IsDg.of {xs : List Int} {lo hi : Int} (h : groupsB xs lo hi = true) (hl : xs.length ≤ 1048576) : IsDg ⟨(dg xs).toArray⟩ xs := ⟨rfl, (groupsB_ok h).1, hl⟩

set_option maxHeartbeats 400000 in
theorem implBeats {w : World} {v : Value} {xs : List Int} (h : Ints w v xs) :
    Calls Try.prog 16 #[v] w fun e w' => e = .returned (.int .i64 (beatsOf xs)) ∧ Below w.heap.size w w' := by
  have hl : xs.length ≤ 1048576 := h.len
  cases hv : groupsB xs 1 5
  · have e : beatsOf xs = -1 := by simp [beatsOf, hv]
    rw [e]
    clear e
    go_enter Try.func16, Try.ntmps16
    go_wp2_with (go_at_call 56; refine (codeOf h).mono ?_)
    rintro e w1 ⟨rfl, b1⟩
    go_wp2_with fail
    go_ret
    exact ⟨rfl, b1⟩
  · have e : beatsOf xs = sumL xs := by simp [beatsOf, hv]
    have hS : IsDg (codeStr xs) xs := by unfold codeStr; rw [if_pos hv]; exact .of hv hl
    have HS := Lib.hid hS
    clear hS
    rw [e]
    clear e
    go_enter Try.func16, Try.ntmps16
    go_wp2_with (go_at_call 56; refine (codeOf h).mono ?_)
    rintro e w1 ⟨rfl, b1⟩
    go_wp2_with (go_at_call 60; refine (gBeats HS.out).mono ?_)
    rintro e w2 ⟨rfl, b2⟩
    go_wp2_with fail
    go_ret
    exact ⟨rfl, chain b1 b2⟩

theorem own_not_iter {w : World} {base E : Nat} {v : Value} {n : Nat} {ys : List Value} (h : w.ownsRow base E 1 v n ys) {K : Nat} {S : ByteArray} {p : Nat} (hit : w.heap[K]? = some (.stringIter S p)) : v.ownBlock ≠ some K := by
  rcases h.2 with ⟨rfl, _⟩ | ⟨g, cap, cur, rfl, _, hg, _⟩
  · simp [Value.ownBlock]
  · intro e
    simp [Value.ownBlock] at e
    subst e
    rw [hg] at hit
    cases hit

theorem own_iterAt {w : World} {base E : Nat} {v : Value} {n : Nat} {ys : List Value} (h : w.ownsRow base E 1 v n ys) {K : Nat} {S : ByteArray} {p q : Nat} (hit : w.heap[K]? = some (.stringIter S p)) : (w.iterAt K S q).ownsRow base E 1 v n ys :=
  h.kept (row := some K) ⟨rfl, rfl, rfl, by rw [Lib.iterAt_size]; exact Nat.le_refl _, fun k _ hk => Lib.iterAt_other w K k S q (fun e => hk (by rw [e]))⟩ (.inr (own_not_iter h hit))

set_option maxHeartbeats 400000 in
theorem gList {w : World} {S : ByteArray} {xs : List Int} (h : IsDg S xs) :
    Calls Try.prog 62 #[.string S] w (MadeInts w xs) := by
  have hl : xs.length ≤ 1048576 := h.2.2
  have hs : S.size ≤ 1048576 := by rw [h.size]; exact hl
  have H := Lib.hid h
  clear h
  obtain ⟨i0, hi, hz0, hz1, hz2⟩ := info_parts info_int
  have hby : i0.bytes * S.size ≤ 281474976710656 := by rw [hz2]; omega
  have HB := Lib.hid hby
  clear hby
  go_enter Try.func62, Try.ntmps62
  go_wp2_with (at_make; refine wpList_make_own _ rfl _ _ 23 rfl w.heap.size 3 i0 (.int .i64 0) 1 Try.underlying23 hi hz0 hz1 .i64 .i64 _ S.size rfl rfl rfl HB.out (by simp only [maxLen]; omega) (Nat.le_refl _) ?_)
  intro w1 ho1 hg1
  have hsz1 : w.heap.size ≤ w1.heap.size := hg1.size
  have hb1 : Below w.heap.size w w1 := (Below.refl _ _).grown hg1 (Nat.le_refl _) (by intro k hk; cases hk)
  clear hg1
  go_wp2_with fail
  go_loopw [3] (fun v wr => ∃ k : Nat, k ≤ xs.length ∧ wr.ownsRow w.heap.size 3 1 v k ((xs.take k).map (Value.int .i64)) ∧ wr.heap[w1.heap.size]? = some (.stringIter S k) ∧ Below w.heap.size w wr) (fun _ wr => xs.length - wr.iterPos w1.heap.size)
  case atStart => exact ⟨0, by omega, ho1.alloc _, World.iter_heap _ _ _, hb1.alloc hsz1 _⟩
  case round =>
    obtain ⟨k, hk, hown, hit, hbel⟩ := hrel
    have hlt1 : w1.heap.size < wr.heap.size := (Array.getElem?_eq_some_iff.1 hit).1
    have HI := Lib.hid hit
    clear hit
    by_cases hlt : k < xs.length
    · obtain ⟨x, hx⟩ : ∃ x, x = xs.getD k 0 := ⟨_, rfl⟩
      have hnx : ∀ ty, (Instr.next (.pointer (some ⟨w1.heap.size, 0, none⟩)) true ty).run Try.prog wr = .ok (.tuple #[.bool true, .int .i64 k, .int .i32 (48 + x)]) (wr.iterAt w1.heap.size S (k + 1)) := by rw [hx]; exact fun ty => IsDg.next H.out hlt HI.out ty
      have hb2 := okGroups_get H.out.2.1 k hlt
      rw [← hx] at hb2
      have HX := Lib.hid hx
      clear hx
      have ho2 := own_iterAt hown HI.out (q := k + 1)
      have HI2 := Lib.hid (Lib.iterAt_heap wr w1.heap.size S k (k + 1) HI.out)
      have hbel2 := Lib.below_iterAt hbel (k := w1.heap.size) hsz1 S (k + 1)
      have hsz2 : (wr.iterAt w1.heap.size S (k + 1)).heap.size = wr.heap.size := Lib.iterAt_size _ _ _ _
      have HS2 := Lib.hid hsz2
      clear hsz2
      go_wp2_with (at_builtin; refine wpList_append_own _ rfl _ _ 23 rfl w.heap.size 3 i0 (.int .i64 0) 1 8 Try.underlying23 hi hz0 hz1 hz2 rfl (by decide) _ _ _ rfl (ho2.alloc _) ⟨(wr.iterAt w1.heap.size S (k + 1)).heap.size, 0, none⟩ 1 1 [.int .i64 (48 + x - 48)] rfl rfl ?c1 ?c2 ?c3 ?c4 ?c5 ?_)
      case c1 => exact cell_one_new _ _ _
      case c2 => intro u hu; simp at hu; subst hu; rfl
      case c3 => simp only [maxLen]; omega
      case c4 => omega
      case c5 => simp [HS2.out]; omega
      intro v' w2 hown' hgrow _
      have hs3 : w.heap.size ≤ ((wr.iterAt w1.heap.size S (k + 1)).alloc (Obj.cells #[Value.int IntKind.i64 (48 + x - 48)] 3)).heap.size := by simp [HS2.out]; omega
      have HB2 := Lib.hid ((hbel2.alloc (by rw [HS2.out]; omega) _).grown hgrow hs3 (fun g hg => (ho2.lt g hg).1))
      have HI3 := Lib.hid ((hgrow.block w1.heap.size (by simp [HS2.out]; omega) (fun e => own_not_iter ho2 HI2.out e.symm)).trans ((Lib.alloc_old _ _ _ (by rw [HS2.out]; omega)).trans HI2.out))
      have HOW := Lib.hid hown'
      clear hown' hgrow ho2 hbel2 hs3
      go_wp2_with fail
      go_roundw
      case rel =>
        refine ⟨k + 1, by omega, ?_, HI3.out, HB2.out⟩
        have ho := HOW.out
        rw [show 48 + x - 48 = x by omega, HX.out, ← List.map_take] at ho
        rw [take_succ_getD _ _ hlt, List.map_append]
        exact ho
      case measure =>
        simp only [World.iterPos, HI.out, HI3.out]
        omega
    · obtain rfl : k = xs.length := by omega
      have hnx : ∀ ty, (Instr.next (.pointer (some ⟨w1.heap.size, 0, none⟩)) true ty).run Try.prog wr = .ok (.tuple #[.bool false]) wr := fun ty => IsDg.stop H.out HI.out ty
      go_wp2_with fail
      go_ret
      rw [List.take_length] at hown
      exact ⟨_, rfl, hown, hbel⟩

end Go.Proofs.Ytoebgdcgcdigaaa
