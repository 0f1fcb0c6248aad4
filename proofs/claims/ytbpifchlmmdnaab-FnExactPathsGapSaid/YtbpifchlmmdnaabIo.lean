/-
  The words at the head of the translation, sign by sign, and what follows from them. No condition.
-/
import Derived.Test.YtbpifchlmmdnaabChecked
import Derived.JoinedOf
import Derived.KernelRfl
namespace Go.Proofs.Ytbpifchlmmdnaab

def signs : List Nat := [104, 97, 114, 110, 101, 115, 115, 32, 53, 102, 100, 55, 97, 56, 55, 49, 50, 100, 54, 99, 102, 97, 56, 52, 52, 54, 98, 50, 97, 97, 49, 55, 51, 53, 97, 55, 48, 49, 52, 100, 
  53, 48, 53, 99, 56, 56, 100, 102, 54, 97, 97, 101, 56, 48, 100, 101, 50, 99, 48, 56, 55, 55, 52, 50, 97, 51, 56, 57, 97, 50, 102, 48, 32, 99, 117, 116, 32, 97, 116, 32, 
  108, 111, 111, 112, 46, 101, 120, 97, 109, 112, 108, 101, 47, 98, 108, 111, 99, 107, 98, 111, 120, 101, 115, 47, 108, 97, 119, 115, 46, 70, 110, 71, 97, 112, 32, 108, 111, 111, 112, 46, 
  101, 120, 97, 109, 112, 108, 101, 47, 98, 108, 111, 99, 107, 98, 111, 120, 101, 115, 47, 108, 97, 119, 115, 46, 70, 110, 69, 120, 97, 99, 116, 80, 97, 116, 104, 115, 79, 114, 100, 101, 
  114, 32, 108, 111, 111, 112, 46, 101, 120, 97, 109, 112, 108, 101, 47, 98, 108, 111, 99, 107, 98, 111, 120, 101, 115, 47, 108, 97, 119, 115, 46, 70, 110, 69, 120, 97, 99, 116, 80, 97, 
  116, 104, 115, 71, 97, 112, 32, 108, 111, 111, 112, 46, 101, 120, 97, 109, 112, 108, 101, 47, 98, 108, 111, 99, 107, 98, 111, 120, 101, 115, 47, 108, 97, 119, 115, 46, 70, 110, 69, 120, 
  97, 99, 116, 80, 97, 116, 104, 115, 65, 100, 100]
theorem head_is : Try.checked.prog.initOrder = String.ofList (signs.map Char.ofNat) := by kernel_rfl
theorem head_list : Try.checked.prog.initOrder.toList = signs.map Char.ofNat := by rw [head_is, String.toList_ofList]
def heads : List (List Nat) := [[99, 117, 116],
  [97, 116],
  [108, 111, 111, 112, 46, 101, 120, 97, 109, 112, 108, 101, 47, 98, 108, 111, 99, 107, 98, 111, 120, 101, 115, 47, 108, 97, 119, 115, 46, 70, 110, 71, 97, 112],
  [108, 111, 111, 112, 46, 101, 120, 97, 109, 112, 108, 101, 47, 98, 108, 111, 99, 107, 98, 111, 120, 101, 115, 47, 108, 97, 119, 115, 46, 70, 110, 69, 120, 97, 99, 116, 80, 97, 116, 104, 115, 79, 114, 100, 101, 114],
  [108, 111, 111, 112, 46, 101, 120, 97, 109, 112, 108, 101, 47, 98, 108, 111, 99, 107, 98, 111, 120, 101, 115, 47, 108, 97, 119, 115, 46, 70, 110, 69, 120, 97, 99, 116, 80, 97, 116, 104, 115, 71, 97, 112],
  [108, 111, 111, 112, 46, 101, 120, 97, 109, 112, 108, 101, 47, 98, 108, 111, 99, 107, 98, 111, 120, 101, 115, 47, 108, 97, 119, 115, 46, 70, 110, 69, 120, 97, 99, 116, 80, 97, 116, 104, 115, 65, 100, 100]]
theorem words_are : behindMainWord (wordsSigns Try.checked.prog.initOrder.toList) = heads.map (fun x => x.map Char.ofNat) := by
  rw [head_list]
  kernel_rfl
theorem may_enter : Try.checked.prog.mayEnter = true := by kernel_rfl
theorem lifts_final : Try.checked.prog.liftsFinal = false := by
  unfold Program.liftsFinal Program.headLifts
  rw [words_are]
  kernel_rfl
theorem make_is : Try.checked.prog.make = some .cut := by kernel_rfl
end Go.Proofs.Ytbpifchlmmdnaab
