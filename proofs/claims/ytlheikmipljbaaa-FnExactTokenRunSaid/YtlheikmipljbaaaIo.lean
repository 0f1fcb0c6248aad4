/-
  The words at the head of the translation, sign by sign, and what follows from them. No condition.
-/
import Derived.Test.YtlheikmipljbaaaChecked
import Derived.JoinedOf
import Derived.KernelRfl
namespace Go.Proofs.Ytlheikmipljbaaa

def signs : List Nat := [104, 97, 114, 110, 101, 115, 115, 32, 57, 48, 99, 53, 97, 56, 52, 55, 102, 99, 101, 97, 53, 100, 102, 98, 52, 48, 50, 49, 53, 98, 55, 55, 98, 54, 48, 49, 100, 49, 101, 50, 
  57, 99, 52, 56, 51, 50, 49, 49, 54, 54, 50, 53, 54, 50, 52, 51, 53, 56, 55, 99, 50, 53, 52, 56, 98, 98, 97, 50, 54, 102, 52, 51, 32, 99, 117, 116, 32, 97, 116, 32, 
  108, 111, 111, 112, 46, 101, 120, 97, 109, 112, 108, 101, 47, 98, 108, 111, 99, 107, 98, 111, 120, 101, 115, 47, 108, 97, 119, 115, 46, 70, 110, 69, 120, 97, 99, 116, 84, 111, 107, 101, 
  110, 86, 97, 108, 105, 100, 32, 108, 111, 111, 112, 46, 101, 120, 97, 109, 112, 108, 101, 47, 98, 108, 111, 99, 107, 98, 111, 120, 101, 115, 47, 108, 97, 119, 115, 46, 70, 110, 69, 120, 
  97, 99, 116, 84, 111, 107, 101, 110, 83, 116, 101, 112, 32, 108, 111, 111, 112, 46, 101, 120, 97, 109, 112, 108, 101, 47, 98, 108, 111, 99, 107, 98, 111, 120, 101, 115, 47, 108, 97, 119, 
  115, 46, 70, 110, 69, 120, 97, 99, 116, 84, 111, 107, 101, 110, 82, 117, 110, 32, 108, 111, 111, 112, 46, 101, 120, 97, 109, 112, 108, 101, 47, 98, 108, 111, 99, 107, 98, 111, 120, 101, 
  115, 47, 108, 97, 119, 115, 46, 70, 110, 69, 120, 97, 99, 116, 84, 111, 107, 101, 110, 77, 97, 110, 121]
theorem head_is : Try.checked.prog.initOrder = String.ofList (signs.map Char.ofNat) := by kernel_rfl
theorem head_list : Try.checked.prog.initOrder.toList = signs.map Char.ofNat := by rw [head_is, String.toList_ofList]
def heads : List (List Nat) := [[99, 117, 116],
  [97, 116],
  [108, 111, 111, 112, 46, 101, 120, 97, 109, 112, 108, 101, 47, 98, 108, 111, 99, 107, 98, 111, 120, 101, 115, 47, 108, 97, 119, 115, 46, 70, 110, 69, 120, 97, 99, 116, 84, 111, 107, 101, 110, 86, 97, 108, 105, 100],
  [108, 111, 111, 112, 46, 101, 120, 97, 109, 112, 108, 101, 47, 98, 108, 111, 99, 107, 98, 111, 120, 101, 115, 47, 108, 97, 119, 115, 46, 70, 110, 69, 120, 97, 99, 116, 84, 111, 107, 101, 110, 83, 116, 101, 112],
  [108, 111, 111, 112, 46, 101, 120, 97, 109, 112, 108, 101, 47, 98, 108, 111, 99, 107, 98, 111, 120, 101, 115, 47, 108, 97, 119, 115, 46, 70, 110, 69, 120, 97, 99, 116, 84, 111, 107, 101, 110, 82, 117, 110],
  [108, 111, 111, 112, 46, 101, 120, 97, 109, 112, 108, 101, 47, 98, 108, 111, 99, 107, 98, 111, 120, 101, 115, 47, 108, 97, 119, 115, 46, 70, 110, 69, 120, 97, 99, 116, 84, 111, 107, 101, 110, 77, 97, 110, 121]]
theorem words_are : behindMainWord (wordsSigns Try.checked.prog.initOrder.toList) = heads.map (fun x => x.map Char.ofNat) := by
  rw [head_list]
  kernel_rfl
theorem may_enter : Try.checked.prog.mayEnter = true := by kernel_rfl
theorem lifts_final : Try.checked.prog.liftsFinal = false := by
  unfold Program.liftsFinal Program.headLifts
  rw [words_are]
  kernel_rfl
theorem make_is : Try.checked.prog.make = some .cut := by kernel_rfl
end Go.Proofs.Ytlheikmipljbaaa
