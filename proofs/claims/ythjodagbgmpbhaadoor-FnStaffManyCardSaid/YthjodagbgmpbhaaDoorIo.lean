/-
  The words at the head of the translation, sign by sign, and what follows from them. No condition.
-/
import Derived.Test.YthjodagbgmpbhaaDoorChecked
import Derived.JoinedOf
import Derived.KernelRfl
namespace Go.Proofs.YthjodagbgmpbhaaDoor

def signs : List Nat := [104, 97, 114, 110, 101, 115, 115, 32, 50, 97, 55, 54, 50, 99, 50, 52, 100, 100, 54, 51, 48, 55, 50, 50, 57, 53, 54, 102, 50, 99, 57, 102, 49, 56, 55, 101, 51, 100, 50, 55, 
  57, 56, 48, 51, 98, 97, 56, 51, 100, 48, 52, 99, 56, 49, 49, 56, 54, 99, 102, 101, 48, 48, 50, 51, 56, 99, 98, 53, 50, 97, 97, 52, 32, 99, 117, 116, 32, 97, 116, 32, 
  108, 111, 111, 112, 46, 101, 120, 97, 109, 112, 108, 101, 47, 98, 108, 111, 99, 107, 98, 111, 120, 101, 115, 47, 108, 97, 119, 115, 46, 70, 110, 67, 104, 97, 110, 103, 101, 115, 32, 108, 
  111, 111, 112, 46, 101, 120, 97, 109, 112, 108, 101, 47, 98, 108, 111, 99, 107, 98, 111, 120, 101, 115, 47, 108, 97, 119, 115, 46, 70, 110, 83, 116, 97, 102, 102, 75, 105, 110, 100, 115, 
  32, 108, 111, 111, 112, 46, 101, 120, 97, 109, 112, 108, 101, 47, 98, 108, 111, 99, 107, 98, 111, 120, 101, 115, 47, 108, 97, 119, 115, 46, 70, 110, 83, 116, 97, 102, 102, 77, 97, 110, 
  121]
theorem head_is : Tryd.checked.prog.initOrder = String.ofList (signs.map Char.ofNat) := by kernel_rfl
theorem head_list : Tryd.checked.prog.initOrder.toList = signs.map Char.ofNat := by rw [head_is, String.toList_ofList]
def heads : List (List Nat) := [[99, 117, 116],
  [97, 116],
  [108, 111, 111, 112, 46, 101, 120, 97, 109, 112, 108, 101, 47, 98, 108, 111, 99, 107, 98, 111, 120, 101, 115, 47, 108, 97, 119, 115, 46, 70, 110, 67, 104, 97, 110, 103, 101, 115],
  [108, 111, 111, 112, 46, 101, 120, 97, 109, 112, 108, 101, 47, 98, 108, 111, 99, 107, 98, 111, 120, 101, 115, 47, 108, 97, 119, 115, 46, 70, 110, 83, 116, 97, 102, 102, 75, 105, 110, 100, 115],
  [108, 111, 111, 112, 46, 101, 120, 97, 109, 112, 108, 101, 47, 98, 108, 111, 99, 107, 98, 111, 120, 101, 115, 47, 108, 97, 119, 115, 46, 70, 110, 83, 116, 97, 102, 102, 77, 97, 110, 121]]
theorem words_are : behindMainWord (wordsSigns Tryd.checked.prog.initOrder.toList) = heads.map (fun x => x.map Char.ofNat) := by
  rw [head_list]
  kernel_rfl
theorem may_enter : Tryd.checked.prog.mayEnter = true := by kernel_rfl
theorem lifts_final : Tryd.checked.prog.liftsFinal = false := by
  unfold Program.liftsFinal Program.headLifts
  rw [words_are]
  kernel_rfl
theorem make_is : Tryd.checked.prog.make = some .cut := by kernel_rfl
end Go.Proofs.YthjodagbgmpbhaaDoor
