/-
  The words at the head of the translation, sign by sign, and what follows from them. No condition.
-/
import Derived.Test.YtlcmkocbpnekhaaDoorChecked
import Derived.JoinedOf
import Derived.KernelRfl
namespace Go.Proofs.YtlcmkocbpnekhaaDoor

def signs : List Nat := [104, 97, 114, 110, 101, 115, 115, 32, 52, 98, 53, 54, 49, 99, 97, 52, 98, 50, 54, 56, 53, 55, 54, 50, 56, 54, 51, 56, 100, 52, 55, 97, 51, 51, 49, 98, 98, 54, 51, 98, 
  97, 54, 101, 99, 54, 51, 97, 54, 53, 48, 98, 51, 54, 51, 56, 55, 102, 97, 48, 99, 54, 52, 97, 48, 51, 100, 48, 101, 52, 100, 52, 54, 32, 99, 117, 116, 32, 97, 116, 32, 
  108, 111, 111, 112, 46, 101, 120, 97, 109, 112, 108, 101, 47, 98, 108, 111, 99, 107, 98, 111, 120, 101, 115, 47, 108, 97, 119, 115, 46, 70, 110, 83, 105, 110, 103, 108, 101, 84, 111, 107, 
  101, 110, 115]
theorem head_is : Tryd.checked.prog.initOrder = String.ofList (signs.map Char.ofNat) := by kernel_rfl
theorem head_list : Tryd.checked.prog.initOrder.toList = signs.map Char.ofNat := by rw [head_is, String.toList_ofList]
def heads : List (List Nat) := [[99, 117, 116],
  [97, 116],
  [108, 111, 111, 112, 46, 101, 120, 97, 109, 112, 108, 101, 47, 98, 108, 111, 99, 107, 98, 111, 120, 101, 115, 47, 108, 97, 119, 115, 46, 70, 110, 83, 105, 110, 103, 108, 101, 84, 111, 107, 101, 110, 115]]
theorem words_are : behindMainWord (wordsSigns Tryd.checked.prog.initOrder.toList) = heads.map (fun x => x.map Char.ofNat) := by
  rw [head_list]
  kernel_rfl
theorem may_enter : Tryd.checked.prog.mayEnter = true := by kernel_rfl
theorem lifts_final : Tryd.checked.prog.liftsFinal = false := by
  unfold Program.liftsFinal Program.headLifts
  rw [words_are]
  kernel_rfl
theorem make_is : Tryd.checked.prog.make = some .cut := by kernel_rfl
end Go.Proofs.YtlcmkocbpnekhaaDoor
