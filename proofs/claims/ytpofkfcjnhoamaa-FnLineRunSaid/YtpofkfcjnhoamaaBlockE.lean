/-
  The program's BlockStep, BlockLegal, BlockNormal, BlockNext. For texts of at most 2097152 bytes.
-/
import Derived.Test.YtpofkfcjnhoamaaBlockD
import Derived.Lib.OthersKept
namespace Go.Proofs.Ytpofkfcjnhoamaa
open Go.RowKit Go.Sort

/-- The answer, written out. -/
theorem bkR_is (o : Option Blk) : bkR o = .tuple #[.agg #[.int .i64 (o.getD nb).1, .bool (o.getD nb).2.1, .bool (o.getD nb).2.2], .bool o.isSome] := rfl
theorem implRunE (b : Blk) (S : ByteArray) (hS : S.size ≤ 2097152) (w : World) :
    Calls Try.prog 26 #[bkV b, .string S] w fun e w' => e = .returned (.tuple #[.agg #[.int .i64 ((bkRun b S).getD nb).1, .bool ((bkRun b S).getD nb).2.1, .bool ((bkRun b S).getD nb).2.2], .bool (bkRun b S).isSome]) ∧ Below w.heap.size w w' :=
  implRun b S hS w

set_option maxHeartbeats 2000000 in
theorem implStep (b : Blk) (S : ByteArray) (hS : S.size ≤ 2097152) (w : World) :
    Calls Try.prog 20 #[bkV b, .string S] w fun e w' => e = .returned (bkR (bkOne b S)) ∧ Below w.heap.size w w' := by
  unfold bkV
  obtain ⟨W, hW⟩ : ∃ W, W = (w.alloc (.cells #[.int .i64 b.1, .bool b.2.1, .bool b.2.2] 33)).alloc (.cells #[.int .i64 0, .bool false, .bool false] 33) := ⟨_, rfl⟩
  obtain ⟨-, T2, B0, SZ⟩ := two_tri _ _ _ _ _ _ _ _ _ W hW
  by_cases h1 : S.size = 1
  · have t1 : ((S.size : Int) != 1) = false := by rw [h1]; rfl
    have HR := Lib.hid (implRunE b S hS)
    have E := Lib.hid (show bkOne b S = bkRun b S by rw [bkOne_yes h1, bkRun_one h1])
    obtain ⟨o, ho⟩ : ∃ o, o = bkRun b S := ⟨_, rfl⟩
    rw [← ho] at HR E
    obtain ⟨y, hy⟩ : ∃ y, y = o.getD nb := ⟨_, rfl⟩
    obtain ⟨t, ht⟩ : ∃ t, t = o.isSome := ⟨_, rfl⟩
    rw [← hy, ← ht] at HR
    have HY := Lib.hid hy
    have HTT := Lib.hid ht
    have HW := Lib.hid hW
    have HB := Lib.hid B0
    have HS := Lib.hid SZ
    have HT := Lib.hid T2
    clear hW B0 SZ T2 ho hy ht h1
    go_enter Try.func20, Try.ntmps20
    go_wp2_with (rw [← HW.out]; go_at_call 26; refine (HR.out _).mono ?_)
    rintro e w1 ⟨rfl, b1⟩
    have t1 := HT.out.below b1
    have c0 := t1.cell0
    have c1 := t1.cell1
    have c2 := t1.cell2
    have f0 := t1.frozen 0
    have f1 := t1.frozen 1
    have f2 := t1.frozen 2
    have st := t1.stored (.int .i64 y.1) (.bool y.2.1) (.bool y.2.2)
    have l0 := st.cell0
    have l1 := st.cell1
    have l2 := st.cell2
    clear t1 st
    go_wp2_with fail
    exact bodyPost_ret (v := .tuple #[.agg #[.int .i64 y.1, .bool y.2.1, .bool y.2.2], .bool t]) (by simp [results, Try.results20, go_sem, l0, l1, l2]) rfl ⟨by rw [E.out, HY.out, HTT.out]; rfl, stored_below (HB.out.trans (b1.mono HB.out.size)) (by omega) _ _ _⟩
  · have t1 : ((S.size : Int) != 1) = true := by simp; omega
    have E := Lib.hid (bkOne_no (b := b) h1)
    clear h1
    clear hW B0 SZ T2
    go_enter Try.func20, Try.ntmps20
    go_wp2_with fail
    exact bodyPost_ret (v := .tuple #[.agg #[.int .i64 0, .bool false, .bool false], .bool false]) (by simp [results, Try.results20, go_sem]) rfl ⟨by rw [E.out]; rfl, ((below_self w).alloc (Nat.le_refl _) _).alloc (by simp) _⟩

theorem implStepE (b : Blk) (S : ByteArray) (hS : S.size ≤ 2097152) (w : World) :
    Calls Try.prog 20 #[bkV b, .string S] w fun e w' => e = .returned (.tuple #[.agg #[.int .i64 ((bkOne b S).getD nb).1, .bool ((bkOne b S).getD nb).2.1, .bool ((bkOne b S).getD nb).2.2], .bool (bkOne b S).isSome]) ∧ Below w.heap.size w w' :=
  implStep b S hS w

/-- Does a legal text lead to the normal block? -/
def bkNormal (S : ByteArray) : Bool := (bkRun nb S).isSome && decide ((bkRun nb S).getD nb = nb)

/-- The letters of all events, as a text. -/
def lts : ByteArray := ⟨#[97, 99, 101, 102, 108, 111, 114]⟩
theorem lts_next {k K : Nat} (hk : k < 7) {w : World} (hit : w.heap[K]? = some (.stringIter lts k)) (ty : TypeId) :
    (Instr.next (.pointer (some ⟨K, 0, none⟩)) true ty).run Try.prog w = .ok (.tuple #[.bool true, .int .i64 k, .int .i32 (ltr k)]) (w.iterAt K lts (k + 1)) := by
  have hs : lts.size = 7 := rfl
  have hb : ((lts[k]'(by omega)).toNat : Int) = ltr k := by
    match k, hk with
    | 0, _ | 1, _ | 2, _ | 3, _ | 4, _ | 5, _ | 6, _ => rfl
  have ha : (lts[k]'(by omega)).toNat < 128 := by
    have e : (lts[k]'(by omega)).toNat = (ltB k).toNat := by
      match k, hk with
      | 0, _ | 1, _ | 2, _ | 3, _ | 4, _ | 5, _ | 6, _ => rfl
    rw [e]
    clear hit hb e hs
    match k, hk with
    | 0, _ | 1, _ | 2, _ | 3, _ | 4, _ | 5, _ | 6, _ => decide
  rw [Lib.run_next_ascii_at w K lts k ty hit (by omega) ha, hb]
theorem lts_stop {K : Nat} {w : World} (hit : w.heap[K]? = some (.stringIter lts 7)) (ty : TypeId) :
    (Instr.next (.pointer (some ⟨K, 0, none⟩)) true ty).run Try.prog w = .ok (.tuple #[.bool false]) w :=
  Lib.run_next_end_at w K lts 7 ty hit (by decide)
theorem ltr_convert {k : Nat} (hk : k < 7) (w : World) : (Go.convert 21 9 (.int .i32 (ltr k))).run Try.prog w = .ok (.string (ltS k)) w := by
  have h : k = 0 ∨ k = 1 ∨ k = 2 ∨ k = 3 ∨ k = 4 ∨ k = 5 ∨ k = 6 := by omega
  rcases h with rfl | rfl | rfl | rfl | rfl | rfl | rfl <;> (show (Go.convert _ _ _).run _ _ = _; kernel_rfl)
def nxB (b : Blk) (k : Nat) : ByteArray := ⟨(nxTo b k).toArray⟩
theorem nxB_size (b : Blk) (k : Nat) : (nxB b k).size ≤ k := by
  show (nxTo b k).toArray.size ≤ k
  have := nxTo_length b k
  simpa using this
theorem nxB_yes {b b' : Blk} {k : Nat} (h : bkStep b (ltr k) = some b') : nxB b (k + 1) = nxB b k ++ ltS k := by
  unfold nxB
  rw [nxTo_yes h]
  exact (ByteArray.mk_append_mk _ _).symm
theorem nxB_no {b : Blk} {k : Nat} (h : bkStep b (ltr k) = none) : nxB b (k + 1) = nxB b k := by
  unfold nxB
  rw [nxTo_no h]

set_option maxHeartbeats 2000000 in
theorem implNext (b : Blk) (w : World) :
    Calls Try.prog 84 #[bkV b] w fun e w' => e = .returned (.string (nxS b)) ∧ Below w.heap.size w w' := by
  unfold bkV
  obtain ⟨W1, hW1⟩ : ∃ W, W = w.alloc (.cells #[.int .i64 b.1, .bool b.2.1, .bool b.2.2] 33) := ⟨_, rfl⟩
  have t1 := Tri3.new w (.int .i64 b.1) (.bool b.2.1) (.bool b.2.2) 33
  have b1 := below_alloc w (.cells #[.int .i64 b.1, .bool b.2.1, .bool b.2.2] 33)
  have s1 : W1.heap.size = w.heap.size + 1 := by rw [hW1]; exact Go.Deep.nblk_alloc _ _
  rw [← hW1] at t1 b1
  obtain ⟨W, hW⟩ : ∃ W, W = W1.iter lts 0 := ⟨_, rfl⟩
  have hit : W.heap[w.heap.size + 1]? = some (.stringIter lts 0) := by rw [hW, ← s1]; exact World.iter_heap _ _ _
  have HT := Lib.hid (show Tri3 W w.heap.size (.int .i64 b.1) (.bool b.2.1) (.bool b.2.2) 33 by rw [hW]; exact t1.alloc _)
  have HB := Lib.hid (show Below w.heap.size w W by rw [hW]; exact b1.alloc (by omega) _)
  have HI := Lib.hid hit
  have HS := Lib.hid (show W.heap.size = w.heap.size + 2 by rw [hW]; show (W1.alloc _).heap.size = _; rw [Go.Deep.nblk_alloc, s1])
  have HW := Lib.hid (hW1 ▸ hW)
  clear hW1 hW t1 b1 s1 hit
  go_enter Try.func84, Try.ntmps84
  go_wp2_with fail
  rw [← show W = (w.alloc (.cells #[.int .i64 b.1, .bool b.2.1, .bool b.2.2] 33)).iter ⟨#[97, 99, 101, 102, 108, 111, 114]⟩ 0 from HW.out]
  go_loopw [3] (fun s wr => ∃ k : Nat, k ≤ 7 ∧ s = .string (nxB b k) ∧ wr.heap[w.heap.size + 1]? = some (.stringIter lts k) ∧ Tri3 wr w.heap.size (.int .i64 b.1) (.bool b.2.1) (.bool b.2.2) 33 ∧ Below w.heap.size w wr) (fun _ wr => 7 - wr.iterPos (w.heap.size + 1))
  case atStart => exact ⟨0, by omega, rfl, HI.out, HT.out, HB.out⟩
  case round =>
    obtain ⟨k, hk, rfl, hit, t1, hbel⟩ := hrel
    have hlt1 : w.heap.size + 1 < wr.heap.size := (Array.getElem?_eq_some_iff.1 hit).1
    have HI := Lib.hid hit
    clear hit
    by_cases hlt : k < 7
    · obtain ⟨x, hx⟩ : ∃ x, x = ltr k := ⟨_, rfl⟩
      obtain ⟨q, hq⟩ : ∃ q, q = ltS k := ⟨_, rfl⟩
      obtain ⟨s, hs⟩ : ∃ s, s = nxB b k := ⟨_, rfl⟩
      have hsz := nxB_size b k
      have hqz : q.size = 1 := by rw [hq]; exact ltS_size k
      rw [← hs] at hsz ⊢
      have hsum : s.size + q.size ≤ 9223372036854775807 := by omega
      have hnx : ∀ ty, (Instr.next (.pointer (some ⟨w.heap.size + 1, 0, none⟩)) true ty).run Try.prog wr = .ok (.tuple #[.bool true, .int .i64 k, .int .i32 x]) (wr.iterAt (w.heap.size + 1) lts (k + 1)) := by rw [hx]; exact fun ty => lts_next hlt HI.out ty
      have hcv : ∀ w, (Go.convert 21 9 (.int .i32 x)).run Try.prog w = .ok (.string q) w := by rw [hx, hq]; exact fun w => ltr_convert hlt w
      have HQ := Lib.hid (show bkOne b q = bkStep b (ltr k) by rw [hq]; exact bkOne_ltS b k)
      have SP := Lib.hid (implStepE b q (by omega))
      have Y := Lib.hid (fun b' (h : bkStep b (ltr k) = some b') => nxB_yes h)
      have N := Lib.hid (fun (h : bkStep b (ltr k) = none) => nxB_no h)
      have hadd : ¬ 9223372036854775807 < s.size + q.size := by omega
      obtain ⟨y, hy⟩ : ∃ y, y = (bkOne b q).getD nb := ⟨_, rfl⟩
      obtain ⟨t, ht⟩ : ∃ t, t = (bkOne b q).isSome := ⟨_, rfl⟩
      rw [← hy, ← ht] at SP
      have hit2 := Lib.iterAt_heap wr (w.heap.size + 1) lts k (k + 1) HI.out
      have t2 : Tri3 (wr.iterAt (w.heap.size + 1) lts (k + 1)) w.heap.size (.int .i64 b.1) (.bool b.2.1) (.bool b.2.2) 33 := t1.of (Lib.iterAt_other wr _ _ lts _ (by omega))
      have hb2 := Lib.below_iterAt hbel (k := w.heap.size + 1) (by omega) lts (k + 1)
      have IT := Lib.hid hit2
      have T3 := Lib.hid t2
      have c0 := t2.cell0
      have c1 := t2.cell1
      have c2 := t2.cell2
      have HX := Lib.hid hx
      have HQQ := Lib.hid hq
      have HSS := Lib.hid hs
      have HY := Lib.hid hy
      have HTT := Lib.hid ht
      obtain ⟨WI, hWI⟩ : ∃ X, X = wr.iterAt (w.heap.size + 1) lts (k + 1) := ⟨_, rfl⟩
      rw [← hWI] at hnx IT T3 c0 c1 c2 hb2
      have sI : WI.heap.size = wr.heap.size := by rw [hWI]; exact Lib.iterAt_size _ _ _ _
      clear hx hq hs hy ht hqz hsum hit2 t2 t1 hWI
      go_wp2_with (go_at_call 20; refine (SP.out _).mono ?_)
      rintro e w1 ⟨rfl, b1⟩
      have hb3 := hb2.trans (b1.mono hb2.size)
      have it3 := (b1.block (w.heap.size + 1) (by omega)).trans IT.out
      have t3 := T3.out.below b1
      have hb4 := hb3.alloc hb3.size (.cells #[.int .i64 y.1, .bool y.2.1, .bool y.2.2] 33)
      have t4 := t3.alloc (.cells #[.int .i64 y.1, .bool y.2.1, .bool y.2.2] 33)
      have it4 := (Go.Deep.blk_alloc_lt w1 (.cells #[.int .i64 y.1, .bool y.2.1, .bool y.2.2] 33) _ (Array.getElem?_eq_some_iff.1 it3).1).trans it3
      have B4 := Lib.hid hb4
      have T4 := Lib.hid t4
      have I4 := Lib.hid it4
      clear t3 t4 it3 it4 hb4
      cases t
      · have e : bkStep b (ltr k) = none := by
          rw [← HQ.out]
          cases q0 : bkOne b q
          · rfl
          · have := HTT.out; rw [q0] at this; cases this
        have E := Lib.hid (N.out e)
        clear e
        go_wp2_with fail
        go_roundw
        case rel => exact ⟨k + 1, by omega, by rw [E.out, ← HSS.out], I4.out, T4.out, B4.out⟩
        case measure =>
          simp only [World.iterPos, I4.out, HI.out]
          omega
      · have e : ∃ b', bkStep b (ltr k) = some b' := by
          rw [← HQ.out]
          cases q0 : bkOne b q
          · have := HTT.out; rw [q0] at this; cases this
          · exact ⟨_, rfl⟩
        obtain ⟨b', e⟩ := e
        have E := Lib.hid (Y.out b' e)
        clear e
        go_wp2_with fail
        go_roundw
        case rel => exact ⟨k + 1, by omega, by rw [E.out, ← HSS.out, ← HQQ.out], I4.out, T4.out, B4.out⟩
        case measure =>
          simp only [World.iterPos, I4.out, HI.out]
          omega
    · obtain rfl : k = 7 := by omega
      have hnx : ∀ ty, (Instr.next (.pointer (some ⟨w.heap.size + 1, 0, none⟩)) true ty).run Try.prog wr = .ok (.tuple #[.bool false]) wr := fun ty => lts_stop HI.out ty
      go_wp2_with fail
      go_ret
      exact ⟨rfl, hbel⟩

end Go.Proofs.Ytpofkfcjnhoamaa
