/-
  Plain facts of registers for the promises of chapter 5.
-/
import Derived.Test.YtodknakemgmhkabNoteT
import Derived.Test.YtodknakemgmhkabLegalP
namespace Go.Proofs.Ytodknakemgmhkab
open Go.RowKit Go.Sort

theorem nTx_join (A B : List Mv) : nTx (A ++ B) = nTx A ++ nTx B := by
  induction A with
  | nil => rw [List.nil_append, nTx_nil]; exact (ByteArray.empty_append).symm
  | cons x r ih => rw [List.cons_append, nTx_cons, nTx_cons, ih, ByteArray.append_assoc]
theorem legal_left {A B : ByteArray} (h : bkLegal (A ++ B) = true) : bkLegal A = true := by
  obtain ⟨x, hx⟩ := legal_state h (k := A.size) (by rw [ByteArray.size_append]; omega)
  rw [bkTo_left _ (Nat.le_refl _)] at hx
  have h30 : ((A ++ B).size : Int) ≤ 30 := by
    by_cases q : 30 < ((A ++ B).size : Int)
    · unfold bkLegal at h; rw [bkRun_long q] at h; cases h
    · omega
  rw [ByteArray.size_append] at h30
  unfold bkLegal
  rw [bkRun_is (by decide) (by omega), hx]
  rfl
theorem sound_left {A B : List Mv} (h : soundB (A ++ B) = true) : soundB A = true := by
  obtain ⟨h1, h2⟩ := sound_is h
  rw [nTx_join] at h2
  unfold soundB
  rw [(reg_joined h1).1, legal_left h2]
  rfl
theorem unt_rest (ns : List Mv) (m : Int) : ns = untL ns m ++ ns.drop (untL ns m).length := by
  have hp : untL ns m <+: ns := List.takeWhile_prefix _
  have e := List.prefix_iff_eq_take.1 hp
  conv => lhs; rw [← List.take_append_drop (untL ns m).length ns]
  rw [← e]
theorem sound_unt {ns : List Mv} (h : soundB ns = true) (m : Int) : soundB (untL ns m) = true := by
  rw [unt_rest ns m] at h
  exact sound_left h
theorem unt_all {ns : List Mv} (h : regB ns = true) : untL ns 2000 = ns := by
  have := untL_is (ns := ns) (m := 2000) (Nat.le_refl _) (fun i hi => (reg_note h hi).2.1) (fun q => absurd q (by omega))
  rw [this, List.take_length]

end Go.Proofs.Ytodknakemgmhkab
