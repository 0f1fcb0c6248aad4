/-
  The words at the head of the translation, sign by sign, and what follows from them. No condition.
-/
import Derived.Test.YtilkphehonilbaaChecked
import Derived.JoinedOf
import Derived.KernelRfl
namespace Go.Proofs.Ytilkphehonilbaa

def signs : List Nat := [104, 97, 114, 110, 101, 115, 115, 32, 49, 102, 56, 51, 50, 101, 49, 100, 99, 57, 51, 54, 100, 54, 97, 51, 97, 53, 53, 101, 50, 56, 55, 97, 99, 97, 51, 52, 98, 97, 56, 54, 
  97, 52, 100, 97, 49, 50, 57, 99, 52, 48, 99, 52, 100, 55, 102, 99, 101, 99, 50, 52, 56, 97, 53, 99, 54, 53, 99, 99, 55, 53, 99, 55, 32, 99, 117, 116, 32, 97, 116, 32, 
  108, 111, 111, 112, 46, 101, 120, 97, 109, 112, 108, 101, 47, 98, 108, 111, 99, 107, 98, 111, 120, 101, 115, 47, 108, 97, 119, 115, 46, 70, 110, 77, 105, 115, 115, 105, 110, 103, 32, 108, 
  111, 111, 112, 46, 101, 120, 97, 109, 112, 108, 101, 47, 98, 108, 111, 99, 107, 98, 111, 120, 101, 115, 47, 108, 97, 119, 115, 46, 70, 110, 82, 101, 103, 105, 115, 116, 101, 114, 70, 105, 
  120]
theorem head_is : Try.checked.prog.initOrder = String.ofList (signs.map Char.ofNat) := by kernel_rfl
theorem head_list : Try.checked.prog.initOrder.toList = signs.map Char.ofNat := by rw [head_is, String.toList_ofList]
def heads : List (List Nat) := [[99, 117, 116],
  [97, 116],
  [108, 111, 111, 112, 46, 101, 120, 97, 109, 112, 108, 101, 47, 98, 108, 111, 99, 107, 98, 111, 120, 101, 115, 47, 108, 97, 119, 115, 46, 70, 110, 77, 105, 115, 115, 105, 110, 103],
  [108, 111, 111, 112, 46, 101, 120, 97, 109, 112, 108, 101, 47, 98, 108, 111, 99, 107, 98, 111, 120, 101, 115, 47, 108, 97, 119, 115, 46, 70, 110, 82, 101, 103, 105, 115, 116, 101, 114, 70, 105, 120]]
theorem words_are : behindMainWord (wordsSigns Try.checked.prog.initOrder.toList) = heads.map (fun x => x.map Char.ofNat) := by
  rw [head_list]
  kernel_rfl
theorem may_enter : Try.checked.prog.mayEnter = true := by kernel_rfl
theorem lifts_final : Try.checked.prog.liftsFinal = false := by
  unfold Program.liftsFinal Program.headLifts
  rw [words_are]
  kernel_rfl
theorem make_is : Try.checked.prog.make = some .cut := by kernel_rfl
end Go.Proofs.Ytilkphehonilbaa
