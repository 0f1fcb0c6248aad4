/-
  Has a text only two letters; are these directions: the model's and the program's. For texts of at most 9223372036854775807 bytes.
-/
import Derived.Test.YtlcmkocbpnekhaaGreatDoorTokQ
import Derived.Test.YtlcmkocbpnekhaaGreatDoorTri
import Derived.Test.YtlcmkocbpnekhaaGreatDoorShelf
import Derived.Shelf.Strings.SlTrimAscii
import Derived.IntWalk
import Derived.Deep.DeepCutAuto
import Derived.Deep.RegionWith
namespace Go.Proofs.YtlcmkocbpnekhaaGreatDoor
open Go.RowKit Go.Sort

theorem trim_below (S C : ByteArray) (w : World) (hS : S.size ≤ 9223372036854775807) (hC : C.size < 4294967281) (hA : ∀ (j : Nat) b, C.data.toList[j]? = some b → b.toNat < 128) :
    Calls Tryz.prog 46 #[.string S, .string C] w fun e w' => e = .returned (.string ⟨(Lib.trimS S.data.toList C.data.toList).toArray⟩) ∧ Below w.heap.size w w' :=
  Any.strings_Trim_laid Tryz.lays160 (by kernel_rfl) S C w hS hC hA

set_option maxHeartbeats 400000 in
theorem consistsOf (S : ByteArray) (x y : UInt8) (hx : x.toNat < 128) (hy : y.toNat < 128) (hS : S.size ≤ 9223372036854775807) (w : World) :
    Calls Tryz.prog 38 #[.string S, .string ⟨#[x, y]⟩] w fun e w' => e = .returned (.bool (onlyB x.toNat y.toNat S)) ∧ Below w.heap.size w w' := by
  have TR := Lib.hid (trim_below S ⟨#[x, y]⟩ w hS (by show 2 < 4294967281; omega) (by
    intro j b hb
    have hm : b ∈ [x, y] := List.mem_of_getElem? hb
    simp only [List.mem_cons, List.not_mem_nil, or_false] at hm
    rcases hm with rfl | rfl <;> assumption))
  have O : decide (Lib.trimS S.data.toList [x, y] = []) = onlyB x.toNat y.toNat S := trim_only x y S
  obtain ⟨l, hl⟩ : ∃ l, l = Lib.trimS S.data.toList [x, y] := ⟨_, rfl⟩
  have hl' : Lib.trimS S.data.toList (ByteArray.mk #[x, y]).data.toList = l := hl.symm
  rw [hl'] at TR
  rw [← hl] at O
  have OO := Lib.hid (show l.isEmpty = onlyB x.toNat y.toNat S by rw [← O]; cases l <;> simp)
  clear O hl hl'
  go_enter Tryz.func38, Tryz.ntmps38
  go_wp2_with (go_at_call 46; refine TR.out.mono ?_)
  rintro e w1 ⟨rfl, b1⟩
  go_wp2_with fail
  go_ret
  exact ⟨ret_bool OO.out, b1⟩

set_option maxHeartbeats 400000 in
theorem implDirections (S : ByteArray) (hS : S.size ≤ 9223372036854775807) (w : World) :
    Calls Tryz.prog 22 #[.string S] w fun e w' => e = .returned (.bool (dirB S)) ∧ Below w.heap.size w w' := by
  have CO := Lib.hid (consistsOf S 85 68 (by decide) (by decide) hS)
  rcases Nat.lt_or_ge 30 S.size with hbig | hsm
  · have hb : (30 : Int) < (S.size : Int) := by omega
    have E := Lib.hid (show dirB S = false by unfold dirB; rw [decide_eq_false (by omega)]; rfl)
    clear hbig
    go_enter Tryz.func22, Tryz.ntmps22
    go_wp2_with fail
    go_ret
    exact ⟨ret_bool E.out.symm, below_self _⟩
  · have hb : (S.size : Int) ≤ 30 := by omega
    have E := Lib.hid (show dirB S = onlyB 85 68 S by unfold dirB; rw [decide_eq_true (by omega)]; rfl)
    have CO' := Lib.hid (fun (w : World) => (show Calls Tryz.prog 38 #[.string S, .string ⟨#[85, 68]⟩] w fun e w' => e = .returned (.bool (onlyB 85 68 S)) ∧ Below w.heap.size w w' from CO.out w))
    obtain ⟨t, ht⟩ : ∃ t, t = onlyB 85 68 S := ⟨_, rfl⟩
    rw [← ht] at E CO'
    clear hsm CO ht
    go_enter Tryz.func22, Tryz.ntmps22
    go_wp2_with (go_at_call 38; refine (CO'.out _).mono ?_; rintro e w1 ⟨rfl, b1⟩)
    go_ret
    exact ⟨ret_bool E.out.symm, b1⟩

set_option maxHeartbeats 800000 in
theorem specDirections (S : ByteArray) (hS : S.size ≤ 9223372036854775806) (w : World) :
    Calls Tryz.prog 37 #[.string S] w fun e w' => e = .returned (.bool (dirB S)) ∧ Below w.heap.size w w' := by
  have hSI : (S.size : Int) ≤ 9223372036854775806 := by omega
  go_enter Tryz.func37, Tryz.ntmps37
  go_wp2_with fail
  go_loopw [3] (fun i wr => ∃ k : Nat, k ≤ S.size ∧ i = .int .i64 k ∧ (∀ j, j < k → bt S j = 85 ∨ bt S j = 68) ∧ Below w.heap.size w wr) (fun i _ => S.size - (intOf i).toNat)
  case atStart => exact ⟨0, by omega, rfl, fun j hj => by omega, below_self _⟩
  case round =>
    obtain ⟨k, hk, rfl, hud, hbel⟩ := hrel
    have UD := Lib.hid hud
    clear hud
    by_cases hlt : k < S.size
    · have hki : (k : Int) < (S.size : Int) := by omega
      have hix : ∀ (w : World), (Instr.index 9 (.string S) (.int .i64 k)).run Tryz.prog w = .ok (.int .u8 (bt S k)) w := by
        intro w
        rw [run_index_string _ _ _ _ _ Tryz.underlying9, dif_pos ⟨by omega, hki⟩, ← bt_get hlt]
        rfl
      obtain ⟨c, hc⟩ : ∃ c, c = bt S k := ⟨_, rfl⟩
      rw [← hc] at hix
      have HC := Lib.hid hc
      clear hc
      by_cases h1 : c = 85
      · subst h1
        go_wp2_with fail
        go_roundw
        case rel => exact ⟨k + 1, by omega, by go_num, fun j hj => by
            by_cases e : j = k
            · subst e; exact .inl HC.out.symm
            · exact UD.out j (by omega), hbel⟩
        case measure => simp [intOf]; omega
      · by_cases h2 : c = 68
        · subst h2
          go_wp2_with fail
          go_roundw
          case rel => exact ⟨k + 1, by omega, by go_num, fun j hj => by
              by_cases e : j = k
              · subst e; exact .inr HC.out.symm
              · exact UD.out j (by omega), hbel⟩
          case measure => simp [intOf]; omega
        · have N := Lib.hid (show dirB S = false by
            unfold dirB
            rw [onlyB_no hlt (by rw [← HC.out]; omega), Bool.and_false])
          have t1 : (c != 85) = true := by simp [h1]
          have t2 : (c != 68) = true := by simp [h2]
          clear h1 h2
          go_wp2_with fail
          go_ret
          exact ⟨ret_bool N.out.symm, hbel⟩
    · obtain rfl : k = S.size := by omega
      have E := Lib.hid (show dirB S = decide ((S.size : Int) ≤ 30) by
        unfold dirB
        rw [onlyB_yes UD.out, Bool.and_true]
        exact decide_eq_decide.2 ⟨fun h => by omega, fun h => by omega⟩)
      go_wp2_with fail
      go_ret
      exact ⟨ret_bool E.out.symm, hbel⟩

end Go.Proofs.YtlcmkocbpnekhaaGreatDoor
