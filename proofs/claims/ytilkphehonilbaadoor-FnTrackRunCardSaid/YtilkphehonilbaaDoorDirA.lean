/-
  Has a text only two letters; are these directions: the model's and the program's. For texts of at most 9223372036854775807 bytes.
-/
import Derived.Test.YtilkphehonilbaaDoorTokQ
import Derived.Test.YtilkphehonilbaaDoorTri
import Derived.Test.YtilkphehonilbaaDoorShelf
import Derived.Shelf.Strings.SlTrimAscii
import Derived.IntWalk
import Derived.Deep.DeepCutAuto
import Derived.Deep.RegionWith
namespace Go.Proofs.YtilkphehonilbaaDoor
open Go.RowKit Go.Sort

theorem trim_below (S C : ByteArray) (w : World) (hS : S.size ≤ 9223372036854775807) (hC : C.size < 4294967281) (hA : ∀ (j : Nat) b, C.data.toList[j]? = some b → b.toNat < 128) :
    Calls Tryd.prog 58 #[.string S, .string C] w fun e w' => e = .returned (.string ⟨(Lib.trimS S.data.toList C.data.toList).toArray⟩) ∧ Below w.heap.size w w' :=
  Any.strings_Trim_laid Tryd.lays160 (by kernel_rfl) S C w hS hC hA

set_option maxHeartbeats 400000 in
theorem consistsOf (S : ByteArray) (x y : UInt8) (hx : x.toNat < 128) (hy : y.toNat < 128) (hS : S.size ≤ 9223372036854775807) (w : World) :
    Calls Tryd.prog 51 #[.string S, .string ⟨#[x, y]⟩] w fun e w' => e = .returned (.bool (onlyB x.toNat y.toNat S)) ∧ Below w.heap.size w w' := by
  have TR := Lib.hid (trim_below S ⟨#[x, y]⟩ w hS (by show 2 < 4294967281; omega) (by
    intro j b hb
    have hm : b ∈ [x, y] := List.mem_of_getElem? hb
    simp only [List.mem_cons, List.not_mem_nil, or_false] at hm
    rcases hm with rfl | rfl <;> assumption))
  have O : decide (Lib.trimS S.data.toList [x, y] = []) = onlyB x.toNat y.toNat S := trim_only x y S
  obtain ⟨l, hl⟩ : ∃ l, l = Lib.trimS S.data.toList [x, y] := ⟨_, rfl⟩
  have hl' : Lib.trimS S.data.toList (ByteArray.mk #[x, y]).data.toList = l := hl.symm
  rw [hl'] at TR
  rw [← hl] at O
  have OO := Lib.hid (show l.isEmpty = onlyB x.toNat y.toNat S by rw [← O]; cases l <;> simp)
  clear O hl hl'
  go_enter Tryd.func51, Tryd.ntmps51
  go_wp2_with (go_at_call 58; refine TR.out.mono ?_)
  rintro e w1 ⟨rfl, b1⟩
  go_wp2_with fail
  go_ret
  exact ⟨ret_bool OO.out, b1⟩

end Go.Proofs.YtilkphehonilbaaDoor
