/-
  The program's RegisterValid, RegisterText, RegisterSound, RegisterUntil, RegisterBlock. For lists of at most 1048576 notes.
-/
import Derived.Test.YtodknakemgmhkabRegU
import Derived.Test.YtodknakemgmhkabBlockE
import Derived.Deep.DeepCutAuto
namespace Go.Proofs.Ytodknakemgmhkab
open Go.RowKit

set_option maxHeartbeats 1000000 in
theorem implRegisterValid {w : World} {v : Value} {ns : List Mv} (h : Mvs w v ns) : Calls Try.prog 68 #[v] w fun e w' => e = .returned (.bool (regB ns)) ∧ Below w.heap.size w w' := by
  have R := Lib.hid (implRegisterOf h)
  clear h
  go_enter Try.func68, Try.ntmps68
  go_wp2_with (go_at_call 75; refine R.out.mono ?_; rintro e w1 ⟨p, rfl, ch, b1⟩)
  go_ret
  exact ⟨rfl, b1⟩

/-- The text of a register; none of a list that is none. -/
def regT (ns : List Mv) : ByteArray := nTx (regL ns)

set_option maxHeartbeats 1000000 in
theorem implRegisterText {w : World} {v : Value} {ns : List Mv} (h : Mvs w v ns) : Calls Try.prog 23 #[v] w fun e w' => e = .returned (.string (regT ns)) ∧ Below w.heap.size w w' := by
  have R := Lib.hid (implRegisterOf h)
  have RR := Lib.hid (regL_reg ns)
  clear h
  go_enter Try.func23, Try.ntmps23
  go_wp2_with (go_at_call 75; refine R.out.mono ?_)
  rintro e w1 ⟨p, rfl, ch, b1⟩
  have TX := Lib.hid (implText ch RR.out)
  obtain ⟨a, rfl⟩ := ch.ptr
  clear ch
  go_wp2_with (go_at_call 78; refine TX.out.mono ?_)
  rintro e w2 ⟨rfl, b2⟩
  go_wp2_with fail
  go_ret
  exact ⟨rfl, chain b1 b2⟩

/-- The notes of a sound register; none of a list that is none. -/
def sndL (ns : List Mv) : List Mv := if soundB ns = true then ns else []
theorem sndL_yes {ns : List Mv} (h : soundB ns = true) : sndL ns = ns := by unfold sndL; rw [if_pos h]
theorem sndL_no {ns : List Mv} (h : soundB ns = false) : sndL ns = [] := by unfold sndL; rw [if_neg (by simp [h])]
theorem sndL_reg (ns : List Mv) : regB (sndL ns) = true := by
  cases h : soundB ns
  · rw [sndL_no h]; rfl
  · rw [sndL_yes h]; exact (sound_is h).1

set_option maxHeartbeats 1000000 in
theorem implSoundOf {w : World} {v : Value} {ns : List Mv} (h : Mvs w v ns) : Calls Try.prog 71 #[v] w fun e w' => ∃ p, e = .returned (.tuple #[p, .bool (soundB ns)]) ∧ Chain w' p (sndL ns) ∧ Below w.heap.size w w' := by
  have R := Lib.hid (implRegisterOf h)
  clear h
  cases hr : regB ns
  · have S := Lib.hid (show soundB ns = false by unfold soundB; rw [hr]; rfl)
    have P := Lib.hid hr
    clear hr
    go_enter Try.func71, Try.ntmps71
    go_wp2_with (go_at_call 75; refine R.out.mono ?_)
    rintro e w1 ⟨p, rfl, ch, b1⟩
    rw [P.out]
    obtain ⟨a, rfl⟩ := ch.ptr
    clear ch
    go_wp2_with fail
    go_ret2
    exact ⟨.pointer none, by rw [S.out]; rfl, by rw [sndL_no S.out]; rfl, b1⟩
  · have S := Lib.hid (show soundB ns = bkLegal (nTx ns) by unfold soundB; rw [hr]; rfl)
    have P := Lib.hid hr
    have SZ := Lib.hid (show (nTx ns).size ≤ 2097152 by rw [nTx_size hr]; have := (regB_is hr).1; omega)
    clear hr
    go_enter Try.func71, Try.ntmps71
    go_wp2_with (go_at_call 75; refine R.out.mono ?_)
    rintro e w1 ⟨p, rfl, ch, b1⟩
    rw [P.out]
    rw [regL_yes P.out] at ch
    have TX := Lib.hid (implText ch P.out)
    obtain ⟨a, rfl⟩ := ch.ptr
    have CH := Lib.hid ch
    clear ch
    have LG := Lib.hid (implLegal (nTx ns) SZ.out)
    obtain ⟨t, ht⟩ : ∃ t, t = bkLegal (nTx ns) := ⟨_, rfl⟩
    rw [← ht] at LG S
    clear ht
    cases t
    · go_wp2_with (go_at_call 78; refine TX.out.mono ?_)
      rintro e w2 ⟨rfl, b2⟩
      go_wp2_with (go_at_call 24; refine (LG.out _).mono ?_)
      rintro e w3 ⟨rfl, b3⟩
      go_wp2_with fail
      go_ret2
      exact ⟨.pointer none, by rw [S.out]; rfl, by rw [sndL_no S.out]; rfl, chain (chain b1 b2) b3⟩
    · go_wp2_with (go_at_call 78; refine TX.out.mono ?_)
      rintro e w2 ⟨rfl, b2⟩
      go_wp2_with (go_at_call 24; refine (LG.out _).mono ?_)
      rintro e w3 ⟨rfl, b3⟩
      go_wp2_with fail
      go_ret2
      exact ⟨.pointer a, by rw [S.out]; rfl, by rw [sndL_yes S.out]; exact (CH.out.below b2).below b3, chain (chain b1 b2) b3⟩

set_option maxHeartbeats 1000000 in
theorem implRegisterSound {w : World} {v : Value} {ns : List Mv} (h : Mvs w v ns) : Calls Try.prog 17 #[v] w fun e w' => e = .returned (.bool (soundB ns)) ∧ Below w.heap.size w w' := by
  have R := Lib.hid (implSoundOf h)
  clear h
  go_enter Try.func17, Try.ntmps17
  go_wp2_with (go_at_call 71; refine R.out.mono ?_; rintro e w1 ⟨p, rfl, ch, b1⟩)
  go_ret
  exact ⟨rfl, b1⟩

set_option maxHeartbeats 1000000 in
theorem implRegisterNotes {w : World} {v : Value} {ns : List Mv} (h : Mvs w v ns) : Calls Try.prog 87 #[v] w (MadeNtsB w (regL ns) (regB ns)) := by
  have R := Lib.hid (implRegisterOf h)
  have L := Lib.hid (show (regL ns).length ≤ 1048576 by have := (regB_is (regL_reg ns)).1; omega)
  clear h
  go_enter Try.func87, Try.ntmps87
  go_wp2_with (go_at_call 75; refine R.out.mono ?_)
  rintro e w1 ⟨p, rfl, ch, b1⟩
  have NT := Lib.hid (implNotes ch L.out)
  obtain ⟨a, rfl⟩ := ch.ptr
  clear ch
  go_wp2_with (go_at_call 77; refine NT.out.mono ?_)
  rintro e w2 ⟨u, rfl, o2, b2⟩
  obtain ⟨au, cu, rfl⟩ := Ow.slice o2
  have O := Lib.hid (Ow.mono o2 b1.size)
  clear o2
  go_wp2_with fail
  go_ret2
  exact ⟨_, rfl, O.out, chain b1 b2⟩

/-- The notes of a register up to a minute. -/
def untV (ns : List Mv) (m : Int) : List Mv := untL (regL ns) m
theorem untV_len (ns : List Mv) (m : Int) : (untV ns m).length ≤ 30 := Nat.le_trans (untL_length _ _) (regB_is (regL_reg ns)).1

set_option maxHeartbeats 1000000 in
theorem implRegisterUntil {w : World} {v : Value} {ns : List Mv} (h : Mvs w v ns) (m : Int) : Calls Try.prog 19 #[v, .int .i64 m] w (MadeNtsB w (untV ns m) (regB ns)) := by
  have R := Lib.hid (implRegisterOf h)
  have L := Lib.hid (show (untL (regL ns) m).length ≤ 1048576 by have := untV_len ns m; unfold untV at this; omega)
  clear h
  go_enter Try.func19, Try.ntmps19
  go_wp2_with (go_at_call 75; refine R.out.mono ?_)
  rintro e w1 ⟨p, rfl, ch, b1⟩
  have UT := Lib.hid (implUntil m _ _ _ ch)
  obtain ⟨a, rfl⟩ := ch.ptr
  clear ch
  go_wp2_with (go_at_call 76; refine UT.out.mono ?_)
  rintro e w2 ⟨q, rfl, ch2, b2⟩
  have NT := Lib.hid (implNotes ch2 L.out)
  obtain ⟨a2, rfl⟩ := ch2.ptr
  clear ch2
  go_wp2_with (go_at_call 77; refine NT.out.mono ?_)
  rintro e w3 ⟨u, rfl, o3, b3⟩
  obtain ⟨au, cu, rfl⟩ := Ow.slice o3
  have O := Lib.hid (Ow.mono o3 (chain b1 b2).size)
  clear o3
  go_wp2_with fail
  go_ret2
  exact ⟨_, rfl, O.out, chain (chain b1 b2) b3⟩

/-- The block at a minute. -/
def blkV (ns : List Mv) (m : Int) : Option Blk := if soundB ns = true then bkRun nb (nTx (untL ns m)) else none

set_option maxHeartbeats 2000000 in
theorem implRegisterBlock {w : World} {v : Value} {ns : List Mv} (h : Mvs w v ns) (m : Int) : Calls Try.prog 20 #[v, .int .i64 m] w fun e w' => e = .returned (.tuple #[.agg #[.int .i64 ((blkV ns m).getD nb).1, .bool ((blkV ns m).getD nb).2.1, .bool ((blkV ns m).getD nb).2.2], .bool (blkV ns m).isSome]) ∧ Below w.heap.size w w' := by
  have q := below_alloc w (.cells #[.int .i64 0, .bool false, .bool false] 29)
  have t0 := Tri3.new w (.int .i64 0) (.bool false) (.bool false) 29
  obtain ⟨W, hW⟩ : ∃ W, W = w.alloc (.cells #[.int .i64 0, .bool false, .bool false] 29) := ⟨_, rfl⟩
  rw [← hW] at q t0
  have R := Lib.hid (implSoundOf (Rd.below h q))
  have HW := Lib.hid hW
  have T0 := Lib.hid t0
  clear hW t0 h
  cases hs : soundB ns
  · have S := Lib.hid (show blkV ns m = none by unfold blkV; rw [if_neg (by simp [hs])])
    have P := Lib.hid hs
    clear hs
    go_enter Try.func20, Try.ntmps20
    go_wp2_with (rw [← HW.out]; go_at_call 71; refine R.out.mono ?_)
    rintro e w1 ⟨p, rfl, ch, b1⟩
    rw [P.out]
    obtain ⟨a, rfl⟩ := ch.ptr
    clear ch
    have z := T0.out.below b1
    have z0 := z.cell0
    have z1 := z.cell1
    have z2 := z.cell2
    have y0 := z.frozen 0
    have y1 := z.frozen 1
    have y2 := z.frozen 2
    have st := z.stored (.int .i64 0) (.bool false) (.bool false)
    have BZ := Lib.hid (stored_below (q.trans (b1.mono q.size)) (Nat.le_refl _) (.int .i64 0) (.bool false) (.bool false))
    have l0 := st.cell0
    have l1 := st.cell1
    have l2 := st.cell2
    clear st z
    go_wp2_with fail
    exact bodyPost_ret (v := .tuple #[.agg #[.int .i64 0, .bool false, .bool false], .bool false]) (by simp [results, Try.results20, go_sem, l0, l1, l2]) rfl ⟨by rw [S.out]; rfl, BZ.out⟩
  · have hr := (sound_is hs).1
    have S := Lib.hid (show blkV ns m = bkRun nb (nTx (untL ns m)) by unfold blkV; rw [if_pos hs])
    have P := Lib.hid hs
    have UR := Lib.hid (reg_unt hr m)
    have SZ := Lib.hid (show (nTx (untL ns m)).size ≤ 2097152 by rw [nTx_size (reg_unt hr m)]; have := (regB_is (reg_unt hr m)).1; omega)
    have BR := Lib.hid (implRunE nb (nTx (untL ns m)) SZ.out)
    obtain ⟨y, hy⟩ : ∃ y, y = (bkRun nb (nTx (untL ns m))).getD nb := ⟨_, rfl⟩
    obtain ⟨t, ht⟩ : ∃ t, t = (bkRun nb (nTx (untL ns m))).isSome := ⟨_, rfl⟩
    rw [← hy, ← ht] at BR
    have HY := Lib.hid hy
    have HT := Lib.hid ht
    clear hs hr hy ht
    go_enter Try.func20, Try.ntmps20
    go_wp2_with (rw [← HW.out]; go_at_call 71; refine R.out.mono ?_)
    rintro e w1 ⟨p, rfl, ch, b1⟩
    rw [P.out]
    rw [sndL_yes P.out] at ch
    have UT := Lib.hid (implUntil m _ _ _ ch)
    obtain ⟨a, rfl⟩ := ch.ptr
    clear ch
    go_wp2_with (go_at_call 76; refine UT.out.mono ?_)
    rintro e w2 ⟨p2, rfl, ch2, b2⟩
    have TX := Lib.hid (implText ch2 UR.out)
    obtain ⟨a2, rfl⟩ := ch2.ptr
    clear ch2
    go_wp2_with (go_at_call 78; refine TX.out.mono ?_)
    rintro e w3 ⟨rfl, b3⟩
    have B3 := chain (chain b1 b2) b3
    go_wp2_with (go_at_call 21; refine (BR.out _).mono ?_)
    rintro e w4 ⟨rfl, b4⟩
    have B4 := chain B3 b4
    have z := T0.out.below B4
    have z0 := z.cell0
    have z1 := z.cell1
    have z2 := z.cell2
    have y0 := z.frozen 0
    have y1 := z.frozen 1
    have y2 := z.frozen 2
    have st := z.stored (.int .i64 y.1) (.bool y.2.1) (.bool y.2.2)
    have BZ := Lib.hid (stored_below (q.trans (B4.mono q.size)) (Nat.le_refl _) (.int .i64 y.1) (.bool y.2.1) (.bool y.2.2))
    have l0 := st.cell0
    have l1 := st.cell1
    have l2 := st.cell2
    clear st z
    go_wp2_with fail
    exact bodyPost_ret (v := .tuple #[.agg #[.int .i64 y.1, .bool y.2.1, .bool y.2.2], .bool t]) (by simp [results, Try.results20, go_sem, l0, l1, l2]) rfl ⟨by rw [S.out, ← HY.out, ← HT.out], BZ.out⟩

end Go.Proofs.Ytodknakemgmhkab
