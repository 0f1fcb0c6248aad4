/-
  What the program's PathsValid returns: 'pathsB', for every number of sections and all lists of at most 1048576 paths.
-/
import Derived.Test.YtoebgdcgcdigaabPathsV
namespace Go.Proofs.Ytoebgdcgcdigaab
open Go.RowKit Go.Sort

set_option maxHeartbeats 4000000 in
theorem implPaths {w : World} {v : Value} {n : Int} {ps : List (List Int × List Int)} (h : Paths w v ps) :
    Calls Try.prog 27 #[.int .i64 n, v] w fun e w' => e = .returned (.bool (pathsB n ps)) ∧ Below w.heap.size w w' := by
  have hh := h
  obtain ⟨a, cap, rfl, hl, -⟩ := h
  have hl' : (ps.length : Int) ≤ 1048576 := by omega
  by_cases hn : 1 ≤ n ∧ n ≤ 5
  · obtain ⟨hn1, hn5⟩ := hn
    by_cases h8 : ps.length ≤ 8
    · have h8' : decide ((8 : Int) < (ps.length : Int)) = false := by simp; omega
      have HH := Lib.hid (fun (i : Nat) (hi : i < ps.length) => paths_at hh hi)
      clear hh
      go_enter Try.func27, Try.ntmps27
      go_wp2_with (go_at_call 44; refine (sections_yes _ hn1 hn5).mono ?_; rintro e w' ⟨rfl, rfl⟩)
      go_loopw [17] (fun i wr => ∃ k : Nat, k ≤ ps.length ∧ i = .int .i64 k ∧ RowsOk n ps k ∧ Below w.heap.size w wr) (fun i _ => ps.length - (intOf i).toNat)
      case atStart => exact ⟨0, by omega, rfl, RowsOk.zero _ _, Below.refl _ _⟩
      case round =>
        obtain ⟨k, hk, rfl, hrows, hbel⟩ := hrel
        by_cases hlt : k < ps.length
        · obtain ⟨b, o, rfl, hb, hat⟩ := HH.out k hlt
          have hki : (k : Int) < (ps.length : Int) := by omega
          have AT := Lib.hid hat
          have RW := Lib.hid hrows
          have SV := Lib.hid (isOver (n := n) ((hat k hlt).below hbel))
          clear hat hrows
          cases hpb : pathB n (ps.getD k noPath)
          · have HN := Lib.hid (pathsB_path hlt hpb)
            rw [hpb] at SV
            clear hpb
            go_wp2_with (go_at_call 47; refine SV.out.mono ?_; rintro e w' ⟨rfl, rfl⟩)
            go_ret
            exact ⟨ret_bool HN.out.symm, hbel⟩
          · have HP := Lib.hid hpb
            rw [hpb] at SV
            clear hpb
            go_wp2_with (go_at_call 47; refine SV.out.mono ?_; rintro e w' ⟨rfl, rfl⟩)
            go_loopw [27] (fun q ws => ∃ j : Nat, j ≤ k ∧ q = .int .i64 j ∧ (∀ j', j' < j → clashOf n (ps.getD k noPath) (ps.getD j' noPath) = []) ∧ Below w.heap.size w ws) (fun q _ => k - (intOf q).toNat)
            case atStart => exact ⟨0, by omega, rfl, fun j hj => by omega, hbel⟩
            case round =>
              obtain ⟨j, hj, rfl, hno, hbj⟩ := hrel
              by_cases hjk : j < k
              · have hjl : (j : Int) < (ps.length : Int) := by omega
                have hjk' : (j : Int) < (k : Int) := by omega
                have hpj : pathB n (ps.getD j noPath) = true := (rowB_is (RW.out j hjk)).1
                have hcb : clashB n (ps.getD k noPath) (ps.getD j noPath) = true := by unfold clashB; rw [HP.out, hpj]; rfl
                have NO := Lib.hid hno
                have CL := Lib.hid (fun (X : World) (c : Below wr.heap.size wr X) => clashes (n := n) (((AT.out k hlt).below hbj).below c) (((AT.out j (by omega)).below hbj).below c) hcb)
                obtain ⟨cl, hcl⟩ : ∃ cl, cl = clashTo (ps.getD k noPath) (ps.getD j noPath) (ps.getD k noPath).1.length := ⟨_, rfl⟩
                rw [← hcl] at CL
                have HCL := Lib.hid ((clashOf_yes hcb).trans hcl.symm)
                have hcl5 : cl.length ≤ 5 := by rw [← HCL.out]; exact clashOf_length _ _ _
                have dr : Below wr.heap.size wr wr.drew := (Below.refl _ _).drew
                clear hcl hno hpj hcb
                by_cases hz : cl = []
                · have HS := Lib.hid (show ∀ j', j' < j + 1 → clashOf n (ps.getD k noPath) (ps.getD j' noPath) = [] from fun j' q => by
                    by_cases e : j' = j
                    · subst e; rw [HCL.out]; exact hz
                    · exact NO.out j' (by omega))
                  subst hz
                  go_wp2_with fail
                  go_region_with (go_at_call 48; refine (CL.out _ dr).mono ?_; rintro e w2 ⟨vc, rfl, oc, b2⟩; obtain ⟨ac, cc, rfl⟩ := own_slice2 oc; have c2 := dr.trans (b2.mono dr.size); clear oc b2)
                  all_goals go_wp2_with fail
                  all_goals go_roundw
                  all_goals first
                    | exact ⟨j + 1, by omega, by go_num, HS.out, hbj.trans (c2.mono hbj.size)⟩
                    | (simp [intOf]; omega)
                · have hz2 : (0 : Int) < (cl.length : Int) := by
                    have : cl.length ≠ 0 := fun e => hz (List.eq_nil_of_length_eq_zero e)
                    omega
                  have hd : decide ((0 : Int) < (cl.length : Int)) = true := decide_eq_true hz2
                  have HN := Lib.hid (pathsB_clash (n := n) hlt hjk (by rw [HCL.out]; exact hz))
                  clear hz
                  go_wp2_with fail
                  go_region_with (go_at_call 48; refine (CL.out _ dr).mono ?_; rintro e w2 ⟨vc, rfl, oc, b2⟩; obtain ⟨ac, cc, rfl⟩ := own_slice2 oc; have c2 := dr.trans (b2.mono dr.size); clear oc b2)
                  all_goals go_wp2_with fail
                  all_goals go_ret
                  all_goals exact ⟨ret_bool HN.out.symm, hbj.trans (c2.mono hbj.size)⟩
              · obtain rfl : j = k := by omega
                have HS := Lib.hid (RW.out.succ (rowB_yes HP.out hno))
                clear hno
                go_wp2_with fail
                go_roundw
                case rel => exact ⟨j + 1, by omega, by go_num, HS.out, hbj⟩
                case measure => simp [intOf]; omega
        · obtain rfl : k = ps.length := by omega
          have HF := Lib.hid (pathsB_yes hn1 hn5 h8 hrows)
          clear hrows
          go_wp2_with fail
          go_ret
          exact ⟨ret_bool HF.out.symm, hbel⟩
    · have h8' : decide ((8 : Int) < (ps.length : Int)) = true := decide_eq_true (by omega)
      have HN := Lib.hid (pathsB_long (n := n) (ps := ps) (by omega))
      clear h8 hh
      go_enter Try.func27, Try.ntmps27
      go_wp2_with (go_at_call 44; refine (sections_yes _ hn1 hn5).mono ?_; rintro e w' ⟨rfl, rfl⟩)
      go_ret
      exact ⟨ret_bool HN.out.symm, Below.refl _ _⟩
  · have hn' : n < 1 ∨ 5 < n := by omega
    have HN := Lib.hid (pathsB_n (ps := ps) hn')
    have H := Lib.hid hn'
    clear hn hn' hh
    go_enter Try.func27, Try.ntmps27
    go_wp2_with (go_at_call 44; refine (sections_no _ H.out).mono ?_; rintro e w' ⟨rfl, rfl⟩)
    go_ret
    exact ⟨ret_bool HN.out.symm, Below.refl _ _⟩

end Go.Proofs.Ytoebgdcgcdigaab
