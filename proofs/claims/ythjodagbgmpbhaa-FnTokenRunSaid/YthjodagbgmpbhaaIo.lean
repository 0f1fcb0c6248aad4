/-
  The words at the head of the translation, sign by sign, and what follows from them. No condition.
-/
import Derived.Test.YthjodagbgmpbhaaChecked
import Derived.JoinedOf
import Derived.KernelRfl
namespace Go.Proofs.Ythjodagbgmpbhaa

def signs : List Nat := [104, 97, 114, 110, 101, 115, 115, 32, 98, 53, 51, 56, 54, 55, 55, 48, 49, 100, 48, 101, 55, 50, 99, 51, 56, 101, 54, 55, 100, 57, 57, 98, 98, 98, 56, 50, 48, 56, 98, 53, 
  99, 102, 97, 99, 101, 57, 98, 51, 102, 101, 102, 48, 97, 56, 98, 56, 102, 48, 50, 102, 98, 99, 57, 57, 49, 54, 97, 57, 100, 57, 52, 97, 32, 99, 117, 116, 32, 97, 116, 32, 
  108, 111, 111, 112, 46, 101, 120, 97, 109, 112, 108, 101, 47, 98, 108, 111, 99, 107, 98, 111, 120, 101, 115, 47, 108, 97, 119, 115, 46, 70, 110, 84, 111, 107, 101, 110, 83, 116, 101, 112, 
  32, 108, 111, 111, 112, 46, 101, 120, 97, 109, 112, 108, 101, 47, 98, 108, 111, 99, 107, 98, 111, 120, 101, 115, 47, 108, 97, 119, 115, 46, 70, 110, 84, 111, 107, 101, 110, 82, 117, 110, 
  32, 108, 111, 111, 112, 46, 101, 120, 97, 109, 112, 108, 101, 47, 98, 108, 111, 99, 107, 98, 111, 120, 101, 115, 47, 108, 97, 119, 115, 46, 70, 110, 84, 111, 107, 101, 110, 77, 97, 110, 
  121]
theorem head_is : Try.checked.prog.initOrder = String.ofList (signs.map Char.ofNat) := by kernel_rfl
theorem head_list : Try.checked.prog.initOrder.toList = signs.map Char.ofNat := by rw [head_is, String.toList_ofList]
def heads : List (List Nat) := [[99, 117, 116],
  [97, 116],
  [108, 111, 111, 112, 46, 101, 120, 97, 109, 112, 108, 101, 47, 98, 108, 111, 99, 107, 98, 111, 120, 101, 115, 47, 108, 97, 119, 115, 46, 70, 110, 84, 111, 107, 101, 110, 83, 116, 101, 112],
  [108, 111, 111, 112, 46, 101, 120, 97, 109, 112, 108, 101, 47, 98, 108, 111, 99, 107, 98, 111, 120, 101, 115, 47, 108, 97, 119, 115, 46, 70, 110, 84, 111, 107, 101, 110, 82, 117, 110],
  [108, 111, 111, 112, 46, 101, 120, 97, 109, 112, 108, 101, 47, 98, 108, 111, 99, 107, 98, 111, 120, 101, 115, 47, 108, 97, 119, 115, 46, 70, 110, 84, 111, 107, 101, 110, 77, 97, 110, 121]]
theorem words_are : behindMainWord (wordsSigns Try.checked.prog.initOrder.toList) = heads.map (fun x => x.map Char.ofNat) := by
  rw [head_list]
  kernel_rfl
theorem may_enter : Try.checked.prog.mayEnter = true := by kernel_rfl
theorem lifts_final : Try.checked.prog.liftsFinal = false := by
  unfold Program.liftsFinal Program.headLifts
  rw [words_are]
  kernel_rfl
theorem make_is : Try.checked.prog.make = some .cut := by kernel_rfl
end Go.Proofs.Ythjodagbgmpbhaa
