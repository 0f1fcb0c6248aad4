/-
  The model's registers: valid, text, sound, up to a minute, the block at a minute. For lists of at most 1048576 notes.
-/
import Derived.Test.YtilkphehonilbaaRegV
import Derived.Test.YtilkphehonilbaaBlockN
import Derived.Test.YtilkphehonilbaaRepS
import Derived.Test.YtilkphehonilbaaIn
import Derived.Deep.RegionLaw
import Derived.Deep.AppendSrc
import Derived.ArgAppend
namespace Go.Proofs.Ytilkphehonilbaa
open Go.RowKit Go.Sort

theorem str_eq {s t : ByteArray} (h : s = t) : (s.toList == t.toList) = true := by rw [h]; exact beq_self_eq_true _

set_option maxHeartbeats 1000000 in
theorem specLetter (s : ByteArray) (w : World) : Calls Try.prog 38 #[.string s] w fun e w' => e = .returned (.bool (evB s)) ∧ w = w' := by
  go_enter Try.func38, Try.ntmps38
  go_wp2_with fail
  go_loop [4] (fun i => ∃ k : Nat, k ≤ 7 ∧ i = .int .i64 k ∧ Hid (∀ j, j < k → s ≠ ltS j)) (fun i => 7 - (intOf i).toNat)
  case atStart => exact ⟨0, by omega, rfl, Lib.hid (fun j hj => absurd hj (by omega))⟩
  case round =>
    obtain ⟨k, hk, rfl, HN⟩ := hrel
    by_cases hlt : k < 7
    · have hki : (k : Int) < 7 := by omega
      have hsl := fun w => lts_part hlt w
      by_cases e : ltS k = s
      · have t1 := str_eq e
        have E := Lib.hid (evB_yes hlt e.symm)
        clear e
        go_wp2_with fail
        go_ret
        exact ⟨ret_bool E.out.symm, rfl⟩
      · have t1 := str_ne e
        have N := Lib.hid (show ∀ j, j < k + 1 → s ≠ ltS j from fun j hj => by
          by_cases q : j = k
          · subst q; exact fun x => e x.symm
          · exact HN.out j (by omega))
        clear e
        go_wp2_with fail
        go_round
        case rel => exact ⟨k + 1, by omega, by go_num, N⟩
        case measure => simp [intOf]; omega
    · obtain rfl : k = 7 := by omega
      have E := Lib.hid (evB_no HN.out)
      go_wp2_with fail
      go_ret
      exact ⟨ret_bool E.out.symm, rfl⟩

set_option maxHeartbeats 2000000 in
theorem specRegisterValid {w : World} {v : Value} {ns : List Mv} (h : Mvs w v ns) : Calls Try.prog 25 #[v] w fun e w' => e = .returned (.bool (regB ns)) ∧ Below w.heap.size w w' := by
  obtain ⟨a, cap, rfl⟩ := Rd.slice h
  have hl := Rd.len h
  have hl' : (ns.length : Int) ≤ 1048576 := by omega
  have AT := Lib.hid (fun (i : Nat) (hi : i < ns.length) => Mvs.at h hi)
  clear h
  go_enter Try.func25, Try.ntmps25
  go_wp2_with fail
  go_loopw [3, 4] (fun m i wr => ∃ k : Nat, k ≤ ns.length ∧ i = .int .i64 k ∧ m = .int .i64 (lastM ns k) ∧ Hid (∀ j, j < k → fwdAt ns j = true) ∧ w = wr) (fun _ i _ => ns.length - (intOf i).toNat)
  case atStart => exact ⟨0, by omega, rfl, rfl, Lib.hid (fun j hj => absurd hj (by omega)), rfl⟩
  case round =>
    obtain ⟨k, hk, rfl, rfl, HA, rfl⟩ := hrel
    by_cases hlt : k < ns.length
    · obtain ⟨b, o, rfl, hb, hcell⟩ := AT.out k hlt
      obtain ⟨c0, c1⟩ := hcell k hlt
      have hki : (k : Int) < (ns.length : Int) := by omega
      have NO := Lib.hid (fun (e : fwdAt ns k = false) => regB_no hlt e)
      have EX := Lib.hid (show lastM ns (k + 1) = (ns.getD k noMv).1 from rfl)
      have FW := Lib.hid (show fwdAt ns k = (decide (lastM ns k ≤ (ns.getD k noMv).1 ∧ (ns.getD k noMv).1 ≤ 2000) && evB (ns.getD k noMv).2) from rfl)
      obtain ⟨x, hx⟩ : ∃ x, x = ns.getD k noMv := ⟨_, rfl⟩
      rw [← hx] at c0 c1 EX FW
      obtain ⟨L, hL⟩ : ∃ L, L = lastM ns k := ⟨_, rfl⟩
      rw [← hL] at FW ⊢
      have IN := Lib.hid (fun (X : World) => in_is x.1 L 2000 X)
      have LT := Lib.hid (fun (X : World) => specLetter x.2 X)
      obtain ⟨t1, ht1⟩ : ∃ t, t = decide (L ≤ x.1 ∧ x.1 ≤ 2000) := ⟨_, rfl⟩
      obtain ⟨t2, ht2⟩ : ∃ t, t = evB x.2 := ⟨_, rfl⟩
      rw [← ht1] at IN FW
      rw [← ht2] at LT FW
      clear hx hL ht1 ht2 hcell
      cases t1
      · have R := Lib.hid (NO.out (by rw [FW.out]; rfl))
        go_wp2_with (go_at_call 37; refine (IN.out _).mono ?_; rintro e w' ⟨rfl, rfl⟩)
        go_ret
        exact ⟨ret_bool R.out.symm, below_self _⟩
      · cases t2
        · have R := Lib.hid (NO.out (by rw [FW.out]; rfl))
          go_wp2_with (first | (go_at_call 37; refine (IN.out _).mono ?_; rintro e w' ⟨rfl, rfl⟩) | (go_at_call 38; refine (LT.out _).mono ?_; rintro e w' ⟨rfl, rfl⟩))
          go_ret
          exact ⟨ret_bool R.out.symm, below_self _⟩
        · have R := Lib.hid (show ∀ j, j < k + 1 → fwdAt ns j = true from fun j hj => by
            by_cases q : j = k
            · rw [q, FW.out]; rfl
            · exact HA.out j (by omega))
          go_wp2_with (first | (go_at_call 37; refine (IN.out _).mono ?_; rintro e w' ⟨rfl, rfl⟩) | (go_at_call 38; refine (LT.out _).mono ?_; rintro e w' ⟨rfl, rfl⟩))
          go_roundw
          case rel => exact ⟨k + 1, by omega, by go_num, by rw [EX.out], R, trivial⟩
          case measure => simp [intOf]; omega
    · obtain rfl : k = ns.length := by omega
      have R := Lib.hid (regB_yes HA.out)
      go_wp2_with fail
      go_ret
      exact ⟨ret_bool (by rw [R.out]; simp; omega), below_self _⟩

set_option maxHeartbeats 2000000 in
theorem specText {w : World} {v : Value} {ns : List Mv} (h : Mvs w v ns) (hr : regB ns = true) : Calls Try.prog 31 #[v] w fun e w' => e = .returned (.string (nTx ns)) ∧ w = w' := by
  obtain ⟨a, cap, rfl⟩ := Rd.slice h
  have hl := (regB_is hr).1
  have hl' : (ns.length : Int) ≤ 30 := by omega
  have AT := Lib.hid (fun (i : Nat) (hi : i < ns.length) => Mvs.at h hi)
  have SZ := Lib.hid (fun j (hj : j ≤ ns.length) => reg_size hr hj)
  have SX := Lib.hid (fun i (hi : i < ns.length) => evB_size (reg_note hr hi).2.2)
  clear h hr
  go_enter Try.func31, Try.ntmps31
  go_wp2_with fail
  go_loop [3, 4] (fun s i => ∃ k : Nat, k ≤ ns.length ∧ i = .int .i64 k ∧ s = .string (ntx ns k)) (fun _ i => ns.length - (intOf i).toNat)
  case atStart => exact ⟨0, by omega, rfl, rfl⟩
  case round =>
    obtain ⟨k, hk, rfl, rfl⟩ := hrel
    by_cases hlt : k < ns.length
    · obtain ⟨b, o, rfl, hb, hcell⟩ := AT.out k hlt
      obtain ⟨c0, c1⟩ := hcell k hlt
      have hki : (k : Int) < (ns.length : Int) := by omega
      have h1 := SX.out k hlt
      have h2 := SZ.out k hk
      have EX := Lib.hid (show ntx ns (k + 1) = ntx ns k ++ (ns.getD k noMv).2 from rfl)
      obtain ⟨x, hx⟩ : ∃ x, x = (ns.getD k noMv).2 := ⟨_, rfl⟩
      obtain ⟨S, hS⟩ : ∃ S, S = ntx ns k := ⟨_, rfl⟩
      rw [← hx] at c1 EX h1
      rw [← hS] at EX h2 ⊢
      have hbig : ¬ 9223372036854775807 < S.size + x.size := by omega
      clear hx hS hcell c0
      go_wp2_with fail
      go_round
      case rel => exact ⟨k + 1, by omega, by go_num, by rw [EX.out]⟩
      case measure => simp [intOf]; omega
    · obtain rfl : k = ns.length := by omega
      go_wp2_with fail
      go_ret
      exact ⟨rfl, rfl⟩

end Go.Proofs.Ytilkphehonilbaa
