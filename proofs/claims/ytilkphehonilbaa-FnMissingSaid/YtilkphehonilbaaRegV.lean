/-
  The program's RegisterValid, RegisterText, RegisterSound, RegisterUntil, RegisterBlock. For lists of at most 1048576 notes.
-/
import Derived.Test.YtilkphehonilbaaRegU
import Derived.Test.YtilkphehonilbaaBlockE
import Derived.Deep.DeepCutAuto
namespace Go.Proofs.Ytilkphehonilbaa
open Go.RowKit

set_option maxHeartbeats 1000000 in
theorem implRegisterValid {w : World} {v : Value} {ns : List Mv} (h : Mvs w v ns) : Calls Try.prog 17 #[v] w fun e w' => e = .returned (.bool (regB ns)) ∧ Below w.heap.size w w' := by
  have R := Lib.hid (implRegisterOf h)
  clear h
  go_enter Try.func17, Try.ntmps17
  go_wp2_with (go_at_call 22; refine R.out.mono ?_; rintro e w1 ⟨p, rfl, ch, b1⟩)
  go_ret
  exact ⟨rfl, b1⟩

/-- The text of a register; none of a list that is none. -/
def regT (ns : List Mv) : ByteArray := nTx (regL ns)

set_option maxHeartbeats 1000000 in
theorem implRegisterText {w : World} {v : Value} {ns : List Mv} (h : Mvs w v ns) : Calls Try.prog 16 #[v] w fun e w' => e = .returned (.string (regT ns)) ∧ Below w.heap.size w w' := by
  have R := Lib.hid (implRegisterOf h)
  have RR := Lib.hid (regL_reg ns)
  clear h
  go_enter Try.func16, Try.ntmps16
  go_wp2_with (go_at_call 22; refine R.out.mono ?_)
  rintro e w1 ⟨p, rfl, ch, b1⟩
  have TX := Lib.hid (implText ch RR.out)
  obtain ⟨a, rfl⟩ := ch.ptr
  clear ch
  go_wp2_with (go_at_call 29; refine TX.out.mono ?_)
  rintro e w2 ⟨rfl, b2⟩
  go_wp2_with fail
  go_ret
  exact ⟨rfl, chain b1 b2⟩

/-- The notes of a sound register; none of a list that is none. -/
def sndL (ns : List Mv) : List Mv := if soundB ns = true then ns else []
theorem sndL_yes {ns : List Mv} (h : soundB ns = true) : sndL ns = ns := by unfold sndL; rw [if_pos h]
theorem sndL_no {ns : List Mv} (h : soundB ns = false) : sndL ns = [] := by unfold sndL; rw [if_neg (by simp [h])]
theorem sndL_reg (ns : List Mv) : regB (sndL ns) = true := by
  cases h : soundB ns
  · rw [sndL_no h]; rfl
  · rw [sndL_yes h]; exact (sound_is h).1

set_option maxHeartbeats 1000000 in
theorem implSoundOf {w : World} {v : Value} {ns : List Mv} (h : Mvs w v ns) : Calls Try.prog 34 #[v] w fun e w' => ∃ p, e = .returned (.tuple #[p, .bool (soundB ns)]) ∧ Chain w' p (sndL ns) ∧ Below w.heap.size w w' := by
  have R := Lib.hid (implRegisterOf h)
  clear h
  cases hr : regB ns
  · have S := Lib.hid (show soundB ns = false by unfold soundB; rw [hr]; rfl)
    have P := Lib.hid hr
    clear hr
    go_enter Try.func34, Try.ntmps34
    go_wp2_with (go_at_call 22; refine R.out.mono ?_)
    rintro e w1 ⟨p, rfl, ch, b1⟩
    rw [P.out]
    obtain ⟨a, rfl⟩ := ch.ptr
    clear ch
    go_wp2_with fail
    go_ret2
    exact ⟨.pointer none, by rw [S.out]; rfl, by rw [sndL_no S.out]; rfl, b1⟩
  · have S := Lib.hid (show soundB ns = bkLegal (nTx ns) by unfold soundB; rw [hr]; rfl)
    have P := Lib.hid hr
    have SZ := Lib.hid (show (nTx ns).size ≤ 2097152 by rw [nTx_size hr]; have := (regB_is hr).1; omega)
    clear hr
    go_enter Try.func34, Try.ntmps34
    go_wp2_with (go_at_call 22; refine R.out.mono ?_)
    rintro e w1 ⟨p, rfl, ch, b1⟩
    rw [P.out]
    rw [regL_yes P.out] at ch
    have TX := Lib.hid (implText ch P.out)
    obtain ⟨a, rfl⟩ := ch.ptr
    have CH := Lib.hid ch
    clear ch
    have LG := Lib.hid (implLegal (nTx ns) SZ.out)
    obtain ⟨t, ht⟩ : ∃ t, t = bkLegal (nTx ns) := ⟨_, rfl⟩
    rw [← ht] at LG S
    clear ht
    cases t
    · go_wp2_with (go_at_call 29; refine TX.out.mono ?_)
      rintro e w2 ⟨rfl, b2⟩
      go_wp2_with (go_at_call 33; refine (LG.out _).mono ?_)
      rintro e w3 ⟨rfl, b3⟩
      go_wp2_with fail
      go_ret2
      exact ⟨.pointer none, by rw [S.out]; rfl, by rw [sndL_no S.out]; rfl, chain (chain b1 b2) b3⟩
    · go_wp2_with (go_at_call 29; refine TX.out.mono ?_)
      rintro e w2 ⟨rfl, b2⟩
      go_wp2_with (go_at_call 33; refine (LG.out _).mono ?_)
      rintro e w3 ⟨rfl, b3⟩
      go_wp2_with fail
      go_ret2
      exact ⟨.pointer a, by rw [S.out]; rfl, by rw [sndL_yes S.out]; exact (CH.out.below b2).below b3, chain (chain b1 b2) b3⟩

set_option maxHeartbeats 1000000 in
theorem implRegisterSound {w : World} {v : Value} {ns : List Mv} (h : Mvs w v ns) : Calls Try.prog 18 #[v] w fun e w' => e = .returned (.bool (soundB ns)) ∧ Below w.heap.size w w' := by
  have R := Lib.hid (implSoundOf h)
  clear h
  go_enter Try.func18, Try.ntmps18
  go_wp2_with (go_at_call 34; refine R.out.mono ?_; rintro e w1 ⟨p, rfl, ch, b1⟩)
  go_ret
  exact ⟨rfl, b1⟩

/-- The notes of a register up to a minute. -/
def untV (ns : List Mv) (m : Int) : List Mv := untL (regL ns) m
theorem untV_len (ns : List Mv) (m : Int) : (untV ns m).length ≤ 30 := Nat.le_trans (untL_length _ _) (regB_is (regL_reg ns)).1

/-- The block at a minute. -/
def blkV (ns : List Mv) (m : Int) : Option Blk := if soundB ns = true then bkRun nb (nTx (untL ns m)) else none

end Go.Proofs.Ytilkphehonilbaa
