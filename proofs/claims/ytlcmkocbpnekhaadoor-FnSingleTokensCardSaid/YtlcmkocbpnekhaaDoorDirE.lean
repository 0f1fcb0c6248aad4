/-
  Where the staff is: the model's and the program's StaffRun. For texts of at most 9223372036854775806 bytes.
-/
import Derived.Test.YtlcmkocbpnekhaaDoorDirA
namespace Go.Proofs.YtlcmkocbpnekhaaDoor
open Go.RowKit Go.Sort

set_option maxHeartbeats 400000 in
theorem implEndT (c : Int) (w : World) :
    Calls Tryd.prog 38 #[.int .u8 c] w fun e w' => e = .returned (.int .i64 (endOf c)) ∧ w = w' := by
  by_cases h : c = 85
  · subst h
    go_enter Tryd.func38, Tryd.ntmps38
    go_wp2_with fail
    go_ret
    exact ⟨rfl, rfl⟩
  · have E := Lib.hid (endOf_no h)
    have t : (c == 85) = false := by simp [h]
    clear h
    go_enter Tryd.func38, Tryd.ntmps38
    go_wp2_with fail
    go_ret
    exact ⟨ret_int E.out.symm, rfl⟩

set_option maxHeartbeats 400000 in
theorem implOther (a : Int) (ha : a = 0 ∨ a = 1) (w : World) :
    Calls Tryd.prog 39 #[.int .i64 a] w fun e w' => e = .returned (.int .i64 (1 - a)) ∧ w = w' := by
  rcases ha with rfl | rfl
  · go_enter Tryd.func39, Tryd.ntmps39
    go_wp2_with fail
    go_ret
    exact ⟨rfl, rfl⟩
  · go_enter Tryd.func39, Tryd.ntmps39
    go_wp2_with fail
    go_ret
    exact ⟨rfl, rfl⟩

set_option maxHeartbeats 400000 in
theorem implIsEnd (a : Int) (w : World) :
    Calls Tryd.prog 37 #[.int .i64 a] w fun e w' => e = .returned (.bool (decide (0 ≤ a ∧ a ≤ 1))) ∧ w = w' := by
  by_cases h : a = 0
  · subst h
    go_enter Tryd.func37, Tryd.ntmps37
    go_wp2_with fail
    go_ret
    exact ⟨rfl, rfl⟩
  · by_cases h1 : a = 1
    · subst h1
      go_enter Tryd.func37, Tryd.ntmps37
      go_wp2_with fail
      go_ret
      exact ⟨rfl, rfl⟩
    · have E := Lib.hid (show decide (0 ≤ a ∧ a ≤ 1) = false from decide_eq_false (by omega))
      have t : (a == 0) = false := by simp [h]
      have t1 : (a == 1) = false := by simp [h1]
      clear h h1
      go_enter Tryd.func37, Tryd.ntmps37
      go_wp2_with fail
      go_ret
      exact ⟨ret_bool E.out.symm, rfl⟩

theorem end_two {a : Int} (h : decide (0 ≤ a ∧ a ≤ 1) = true) : a = 0 ∨ a = 1 := by have := of_decide_eq_true h; omega
theorem stStep_no {a d c : Int} (h : endOf d ≠ a) : stStep a d c = none := by unfold stStep; rw [if_neg (fun q => h q.1)]
theorem stStep_bad {a d c : Int} (h : ¬ (c = 83 ∨ c = 84)) : stStep a d c = none := by unfold stStep; rw [if_neg (fun q => h q.2)]
theorem stStep_S {a d : Int} (h : endOf d = a) : stStep a d 83 = some (1 - a) := by unfold stStep; rw [if_pos ⟨h, .inl rfl⟩, if_pos rfl]
theorem stStep_T {a d : Int} (h : endOf d = a) : stStep a d 84 = some a := by unfold stStep; rw [if_pos ⟨h, .inr rfl⟩, if_neg (by decide)]
/-- What StaffRun hands back. -/
def stfV (o : Option Int) : Value := .tuple #[.int .i64 (o.getD 0), .bool o.isSome]
theorem index_is {S : ByteArray} {k : Nat} (h : k < S.size) (w : World) : (Instr.index 9 (.string S) (.int .i64 k)).run Tryd.prog w = .ok (.int .u8 (bt S k)) w := by
  rw [run_index_string _ _ _ _ _ Tryd.underlying9, dif_pos ⟨by omega, by omega⟩, ← bt_get h]
  rfl

set_option maxHeartbeats 2000000 in
theorem implStaffRun (a : Int) (D K : ByteArray) (hD : D.size ≤ 9223372036854775806) (hK : K.size ≤ 9223372036854775807) (w : World) :
    Calls Tryd.prog 22 #[.int .i64 a, .string D, .string K] w fun e w' => e = .returned (stfV (stRun a D K)) ∧ Below w.heap.size w w' := by
  have IN := Lib.hid (implIsEnd a)
  have V := Lib.hid (implDirections D (by omega))
  obtain ⟨z, hz⟩ : ∃ z, z = decide (0 ≤ a ∧ a ≤ 1) := ⟨_, rfl⟩
  obtain ⟨d, hd⟩ : ∃ d, d = dirB D := ⟨_, rfl⟩
  rw [← hz] at IN
  rw [← hd] at V
  have CO := Lib.hid (fun (w : World) => (show Calls Tryd.prog 35 #[.string K, .string ⟨#[83, 84]⟩] w fun e w' => e = .returned (.bool (onlyB 83 84 K)) ∧ Below w.heap.size w w' from consistsOf K 83 84 (by decide) (by decide) hK w))
  obtain ⟨g, hg⟩ : ∃ g, g = onlyB 83 84 K := ⟨_, rfl⟩
  rw [← hg] at CO
  by_cases hno : z = false ∨ d = false ∨ K.size ≠ D.size
  · have N := Lib.hid (show stRun a D K = none from stRun_no (by
      rintro ⟨q1, q2, q3⟩
      rcases hno with h | h | h
      · rw [hz] at h; have := of_decide_eq_false h; omega
      · rw [hd, q2] at h; cases h
      · exact h q3))
    clear hz hd hg
    cases z
    · clear hno
      go_enter Tryd.func22, Tryd.ntmps22
      go_wp2_with (go_at_call 37; refine (IN.out _).mono ?_; rintro e w1 ⟨rfl, rfl⟩)
      go_ret2
      exact ⟨by rw [N.out]; rfl, below_self _⟩
    · cases d
      · clear hno
        go_enter Tryd.func22, Tryd.ntmps22
        go_wp2_with (first | (go_at_call 37; refine (IN.out _).mono ?_; rintro e w1 ⟨rfl, rfl⟩) | (go_at_call 20; refine (V.out _).mono ?_; rintro e w2 ⟨rfl, b2⟩))
        go_ret2
        exact ⟨by rw [N.out]; rfl, b2⟩
      · have t : ((K.size : Int) != (D.size : Int)) = true := by
          rcases hno with h | h | h
          · cases h
          · cases h
          · simp only [bne_iff_ne]; omega
        clear hno
        go_enter Tryd.func22, Tryd.ntmps22
        go_wp2_with (first | (go_at_call 37; refine (IN.out _).mono ?_; rintro e w1 ⟨rfl, rfl⟩) | (go_at_call 20; refine (V.out _).mono ?_; rintro e w2 ⟨rfl, b2⟩))
        go_ret2
        exact ⟨by rw [N.out]; rfl, b2⟩
  · have hz1 : z = true := by
      cases z
      · exact absurd (.inl rfl) hno
      · rfl
    have hd1 : d = true := by
      cases d
      · exact absurd (.inr (.inl rfl)) hno
      · rfl
    have hk : K.size = D.size := Decidable.byContradiction fun h => hno (.inr (.inr h))
    subst hz1
    subst hd1
    have ha := end_two hz.symm
    have R := Lib.hid (stRun_is (K := K) ha hd.symm hk)
    have NN := Lib.hid (fun (k : Nat) (h1 : k ≤ D.size) (h2 : stTo a D K k = none) => stRun_none h1 h2)
    have hs30 : (D.size : Int) ≤ 30 := by have := (dirB_of hd.symm).1; omega
    have A := Lib.hid ha
    have t : ((K.size : Int) != (D.size : Int)) = false := by rw [hk]; simp
    have HK := Lib.hid hk
    clear hno hz hd ha hk
    cases g
    · have N := Lib.hid (show stRun a D K = none by
        have q : ¬ ∀ j, j < K.size → bt K j = 83 ∨ bt K j = 84 := of_decide_eq_false hg.symm
        obtain ⟨j, hj⟩ := Classical.not_forall.1 q
        have hj1 : j < K.size := Classical.byContradiction fun h => hj fun h' => absurd h' h
        have hj2 : ¬ (bt K j = 83 ∨ bt K j = 84) := fun h => hj fun _ => h
        rw [R.out]
        exact stTo_bad (by have := HK.out; omega) hj2)
      clear hg
      go_enter Tryd.func22, Tryd.ntmps22
      go_wp2_with (first | (go_at_call 37; refine (IN.out _).mono ?_; rintro e w1 ⟨rfl, rfl⟩) | (go_at_call 20; refine (V.out _).mono ?_; rintro e w2 ⟨rfl, b2⟩) | (go_at_call 35; refine (CO.out _).mono ?_; rintro e w3 ⟨rfl, b3⟩))
      go_ret2
      exact ⟨by rw [N.out]; rfl, chain b2 b3⟩
    have KO := Lib.hid (show ∀ j, j < K.size → bt K j = 83 ∨ bt K j = 84 from onlyB_of hg.symm)
    clear hg
    go_enter Tryd.func22, Tryd.ntmps22
    go_wp2_with (first | (go_at_call 37; refine (IN.out _).mono ?_; rintro e w1 ⟨rfl, rfl⟩) | (go_at_call 20; refine (V.out _).mono ?_; rintro e w2 ⟨rfl, b2⟩) | (go_at_call 35; refine (CO.out _).mono ?_; rintro e w3 ⟨rfl, b3⟩))
    have B2 := Lib.hid (chain b2 b3)
    clear b2 b3 t
    go_loopw [0, 31] (fun v i wr => ∃ (k : Nat) (x : Int), k ≤ D.size ∧ i = .int .i64 k ∧ v = .int .i64 x ∧ stTo a D K k = some x ∧ (x = 0 ∨ x = 1) ∧ Below w.heap.size w wr) (fun _ i _ => D.size - (intOf i).toNat)
    case atStart => exact ⟨0, a, by omega, rfl, rfl, rfl, A.out, B2.out⟩
    case round =>
      obtain ⟨k, x, hk, rfl, rfl, hto, hx, hbel⟩ := hrel
      have SU := Lib.hid (stTo_succ hto)
      have TO := Lib.hid hto
      have HX := Lib.hid hx
      clear hto hx
      by_cases hlt : k < D.size
      · have hki : (k : Int) < (D.size : Int) := by omega
        have hix := index_is hlt
        have hiy := index_is (S := K) (k := k) (by have := HK.out; omega)
        have hkk : (k : Int) < (K.size : Int) := by have := HK.out; omega
        obtain ⟨c, hc⟩ : ∃ c, c = bt D k := ⟨_, rfl⟩
        obtain ⟨p, hp⟩ : ∃ p, p = bt K k := ⟨_, rfl⟩
        rw [← hc] at hix SU
        rw [← hp] at hiy SU
        have EN := Lib.hid (implEndT c)
        obtain ⟨en, hen⟩ : ∃ en, en = endOf c := ⟨_, rfl⟩
        rw [← hen] at EN
        by_cases h1 : en = x
        · subst h1
          have t1 : (en != en) = false := by simp
          by_cases h2 : p = 83
          · subst h2
            have hx2 : 0 ≤ en ∧ en ≤ 1 := by have := HX.out; omega
            obtain ⟨x0, x1⟩ := hx2
            have S2 := Lib.hid (SU.out.trans (stStep_S hen.symm))
            have OT := Lib.hid (implOther en HX.out)
            clear hc hp hen SU
            go_wp2_with (first | (go_at_call 38; refine (EN.out _).mono ?_; rintro e w3 ⟨rfl, rfl⟩) | (go_at_call 39; refine (OT.out _).mono ?_; rintro e w4 ⟨rfl, rfl⟩))
            go_roundw
            case rel => exact ⟨k + 1, _, by omega, by go_num, rfl, S2.out, by have := HX.out; omega, hbel⟩
            case measure => simp [intOf]; omega
          · have h3 : p = 84 := by
              have := KO.out k (by have := HK.out; omega)
              omega
            subst h3
            have t2 : ((84 : Int) == 83) = false := rfl
            have S2 := Lib.hid (SU.out.trans (stStep_T hen.symm))
            clear hc hp hen SU h2
            go_wp2_with (first | (go_at_call 38; refine (EN.out _).mono ?_; rintro e w3 ⟨rfl, rfl⟩))
            go_roundw
            case rel => exact ⟨k + 1, _, by omega, by go_num, rfl, S2.out, HX.out, hbel⟩
            case measure => simp [intOf]; omega
        · have N := Lib.hid (NN.out (k + 1) hlt (SU.out.trans (stStep_no (by rw [← hen]; exact h1))))
          have t1 : (en != x) = true := by simp [h1]
          clear hc hp hen SU h1
          go_wp2_with (go_at_call 38; refine (EN.out _).mono ?_; rintro e w3 ⟨rfl, rfl⟩)
          go_ret2
          exact ⟨by rw [N.out]; rfl, hbel⟩
      · obtain rfl : k = D.size := by omega
        go_wp2_with fail
        go_ret2
        exact ⟨by rw [R.out, TO.out]; rfl, hbel⟩

end Go.Proofs.YtlcmkocbpnekhaaDoor
