/-
  The words at the head of the translation, sign by sign, and what follows from them. No condition.
-/
import Derived.Test.YtlcmkocbpnekhaaGreatDoorChecked
import Derived.JoinedOf
import Derived.KernelRfl
namespace Go.Proofs.YtlcmkocbpnekhaaGreatDoor

def signs : List Nat := [104, 97, 114, 110, 101, 115, 115, 32, 101, 52, 97, 50, 100, 49, 102, 97, 53, 97, 56, 57, 51, 55, 53, 99, 51, 100, 97, 57, 101, 55, 51, 55, 98, 48, 55, 56, 102, 57, 50, 98, 
  52, 53, 55, 56, 97, 52, 55, 101, 56, 51, 53, 50, 49, 98, 54, 101, 57, 48, 55, 101, 100, 49, 53, 52, 54, 57, 101, 56, 56, 101, 99, 50, 32, 99, 117, 116, 32, 97, 116, 32, 
  108, 111, 111, 112, 46, 101, 120, 97, 109, 112, 108, 101, 47, 98, 108, 111, 99, 107, 98, 111, 120, 101, 115, 47, 108, 97, 119, 115, 46, 70, 110, 83, 105, 110, 103, 108, 101, 82, 97, 110, 
  107]
theorem head_is : Tryz.checked.prog.initOrder = String.ofList (signs.map Char.ofNat) := by kernel_rfl
theorem head_list : Tryz.checked.prog.initOrder.toList = signs.map Char.ofNat := by rw [head_is, String.toList_ofList]
def heads : List (List Nat) := [[99, 117, 116],
  [97, 116],
  [108, 111, 111, 112, 46, 101, 120, 97, 109, 112, 108, 101, 47, 98, 108, 111, 99, 107, 98, 111, 120, 101, 115, 47, 108, 97, 119, 115, 46, 70, 110, 83, 105, 110, 103, 108, 101, 82, 97, 110, 107]]
theorem words_are : behindMainWord (wordsSigns Tryz.checked.prog.initOrder.toList) = heads.map (fun x => x.map Char.ofNat) := by
  rw [head_list]
  kernel_rfl
theorem may_enter : Tryz.checked.prog.mayEnter = true := by kernel_rfl
theorem lifts_final : Tryz.checked.prog.liftsFinal = false := by
  unfold Program.liftsFinal Program.headLifts
  rw [words_are]
  kernel_rfl
theorem make_is : Tryz.checked.prog.make = some .cut := by kernel_rfl
end Go.Proofs.YtlcmkocbpnekhaaGreatDoor
