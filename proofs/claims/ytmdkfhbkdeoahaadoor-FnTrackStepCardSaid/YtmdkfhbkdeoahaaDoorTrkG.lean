/-
  The number of blocks, and the opposite order: the model's and the program's TrackBlocks and TrackTurn. For texts of at most 1048576 bytes.
-/
import Derived.Test.YtmdkfhbkdeoahaaDoorTrkF
namespace Go.Proofs.YtmdkfhbkdeoahaaDoor
open Go.RowKit Go.Sort

theorem blT_no {S : ByteArray} (h : trB S = false) : blT S = -1 := by unfold blT; rw [h]; rfl
theorem blT_yes {S : ByteArray} (h : trB S = true) : blT S = (blC (oc S) S.size : Int) := by unfold blT; rw [h]; rfl
/-- What TrackTurn hands back. -/
def tuS (S : ByteArray) : ByteArray := if trB S then trS S.size (rv S.size (oc S)) else ⟨#[]⟩
theorem tuS_no {S : ByteArray} (h : trB S = false) : tuS S = ⟨#[]⟩ := by unfold tuS; rw [h]; rfl
theorem tuS_yes {S : ByteArray} (h : trB S = true) : tuS S = trS S.size (rv S.size (oc S)) := by unfold tuS; rw [h]; rfl

set_option maxHeartbeats 1000000 in
theorem implTrackBlocks (S : ByteArray) (hS : S.size ≤ 1048576) (w : World) :
    Calls Tryd.prog 14 #[.string S] w fun e w' => e = .returned (.int .i64 (blT S)) ∧ Below w.heap.size w w' := by
  have T := trackOf_is S hS w
  obtain ⟨t, ht⟩ : ∃ t, t = trB S := ⟨_, rfl⟩
  cases t
  · rw [tkO_no ht.symm, ← ht] at T
    unfold tkc at T
    have T := Lib.hid T
    have E := Lib.hid (blT_no ht.symm)
    clear ht
    go_enter Tryd.func14, Tryd.ntmps14
    go_wp2_with (go_at_call 41; refine T.out.mono ?_; rintro e w1 ⟨rfl, b1⟩)
    go_ret
    exact ⟨ret_int E.out.symm, b1.alloc b1.size _⟩
  rw [tkO_yes ht.symm, ← ht] at T
  have E := Lib.hid (blT_yes ht.symm)
  have CH := blocks_is S.size (oc S) (trB_of ht.symm).1 (oc_lt2 ht.symm).1
  unfold tkc at T CH
  have T := Lib.hid T
  have CH := Lib.hid CH
  clear ht
  go_enter Tryd.func14, Tryd.ntmps14
  go_upto_region 2 with (go_at_call 41; refine T.out.mono ?_; rintro e w1 ⟨rfl, b1⟩)
  have p := Pair.new w1 (.int .u64 (oc S : Nat)) (.int .i64 S.size) 56
  have q := b1.alloc b1.size (.cells #[.int .u64 (oc S : Nat), .int .i64 S.size] 56)
  obtain ⟨W, hW⟩ : ∃ W, W = w1.alloc (.cells #[.int .u64 (oc S : Nat), .int .i64 S.size] 56) := ⟨_, rfl⟩
  rw [← hW] at p q ⊢
  have z0 := p.cell0
  have z1 := p.cell1
  clear hW
  go_wp2_with (go_at_call 49; refine (CH.out _).mono ?_; rintro e w2 ⟨rfl, b2⟩)
  go_ret
  exact ⟨ret_int E.out.symm, chain q b2⟩

set_option maxHeartbeats 2000000 in
theorem implTrackTurn (S : ByteArray) (hS : S.size ≤ 1048576) (w : World) :
    Calls Tryd.prog 24 #[.string S] w fun e w' => e = .returned (.tuple #[.string (tuS S), .bool (trB S)]) ∧ Below w.heap.size w w' := by
  have T := trackOf_is S hS w
  obtain ⟨t, ht⟩ : ∃ t, t = trB S := ⟨_, rfl⟩
  cases t
  · rw [tkO_no ht.symm, ← ht] at T
    unfold tkc at T
    have T := Lib.hid T
    have E := Lib.hid (And.intro (tuS_no ht.symm) ht.symm)
    clear ht
    go_enter Tryd.func24, Tryd.ntmps24
    go_wp2_with (go_at_call 41; refine T.out.mono ?_; rintro e w1 ⟨rfl, b1⟩)
    go_ret2
    exact ⟨by rw [E.out.1, E.out.2]; rfl, b1.alloc b1.size _⟩
  rw [tkO_yes ht.symm, ← ht] at T
  have E := Lib.hid (And.intro (tuS_yes ht.symm) ht.symm)
  have hn := (trB_of ht.symm).1
  have CH := turned_is S.size (oc S) hn (oc_lt2 ht.symm).1
  have TX := text_is S.size (rv S.size (oc S)) hn.2 (Nat.lt_of_lt_of_le (rv_lt _ _) (show 2 ^ S.size ≤ 2 ^ 8 from Nat.pow_le_pow_right (by omega) hn.2))
  unfold tkc at T CH TX
  have T := Lib.hid T
  have CH := Lib.hid CH
  have TX := Lib.hid TX
  clear ht hn
  go_enter Tryd.func24, Tryd.ntmps24
  go_upto_region 2 with (go_at_call 41; refine T.out.mono ?_; rintro e w1 ⟨rfl, b1⟩)
  have p := Pair.new w1 (.int .u64 (oc S : Nat)) (.int .i64 S.size) 56
  have q := b1.alloc b1.size (.cells #[.int .u64 (oc S : Nat), .int .i64 S.size] 56)
  obtain ⟨W, hW⟩ : ∃ W, W = w1.alloc (.cells #[.int .u64 (oc S : Nat), .int .i64 S.size] 56) := ⟨_, rfl⟩
  rw [← hW] at p q ⊢
  have z0 := p.cell0
  have z1 := p.cell1
  clear hW
  go_wp2_with (first
    | (go_at_call 54; refine (CH.out _).mono ?_; rintro e w2 ⟨rfl, b2⟩)
    | (go_at_call 45; refine (TX.out _).mono ?_; rintro e w3 ⟨rfl, b3⟩))
  go_ret2
  exact ⟨by rw [E.out.1, E.out.2]; rfl, chain q (chain b2 b3)⟩

/-! ### By the model -/
theorem blC_is {o k : Nat} : blC o (k + 1) = blC o k + (if o.testBit k && (decide (k = 0) || !o.testBit (k - 1)) then 1 else 0) := rfl
theorem blC_free {o k : Nat} (h : o.testBit k = false) : blC o (k + 1) = blC o k := by rw [blC_is, h]; rfl
theorem blC_first {o : Nat} (h : o.testBit 0 = true) : blC o 1 = blC o 0 + 1 := by rw [blC_is, h]; rfl
theorem blC_new {o j : Nat} (h : o.testBit (j + 1) = true) (h2 : o.testBit j = false) : blC o (j + 2) = blC o (j + 1) + 1 := by rw [blC_is, h]; simp [h2]
theorem blC_on {o j : Nat} (h : o.testBit (j + 1) = true) (h2 : o.testBit j = true) : blC o (j + 2) = blC o (j + 1) := by rw [blC_is, h]; simp [h2]

set_option maxHeartbeats 2000000 in
theorem specTrackBlocks (S : ByteArray) (hS : S.size ≤ 1048576) (w : World) :
    Calls Tryd.prog 26 #[.string S] w fun e w' => e = .returned (.int .i64 (blT S)) ∧ Below w.heap.size w w' := by
  have V := specTrackValid S hS w
  obtain ⟨t, ht⟩ : ∃ t, t = trB S := ⟨_, rfl⟩
  rw [← ht] at V
  have V := Lib.hid V
  cases t
  · have E := Lib.hid (blT_no ht.symm)
    clear ht
    go_enter Tryd.func26, Tryd.ntmps26
    go_wp2_with (go_at_call 46; refine V.out.mono ?_; rintro e w1 ⟨rfl, b1⟩)
    go_ret
    exact ⟨ret_int E.out.symm, b1⟩
  have E := Lib.hid (blT_yes ht.symm)
  have h8 := (trB_of ht.symm).1.2
  have h8' : (S.size : Int) ≤ 8 := by omega
  have AT := Lib.hid (fun (i : Nat) (hi : i < S.size) => oc_at ht.symm hi)
  obtain ⟨o, ho⟩ : ∃ o, o = oc S := ⟨_, rfl⟩
  simp only [← ho] at E AT
  clear ht ho
  go_enter Tryd.func26, Tryd.ntmps26
  go_wp2_with (go_at_call 46; refine V.out.mono ?_; rintro e w1 ⟨rfl, b1⟩)
  have B1 := Lib.hid b1
  clear b1
  go_loop [3, 4] (fun n i => ∃ k : Nat, k ≤ S.size ∧ i = .int .i64 k ∧ n = .int .i64 (blC o k : Nat)) (fun _ i => S.size - (intOf i).toNat)
  case atStart => exact ⟨0, by omega, rfl, rfl⟩
  case round =>
    obtain ⟨k, hk, rfl, rfl⟩ := hrel
    have hb := blC_le o k
    have hbi : (blC o k : Int) ≤ 8 := by omega
    by_cases hlt : k < S.size
    · have hki : (k : Int) < (S.size : Int) := by omega
      have hix := index_is hlt
      rw [AT.out k hlt] at hix
      have FR := @blC_free o k
      obtain ⟨t, htt⟩ : ∃ t, t = o.testBit k := ⟨_, rfl⟩
      rw [← htt] at hix FR
      cases t
      · simp only [Bool.false_eq_true, ↓reduceIte] at hix
        have F := Lib.hid (FR rfl)
        clear FR htt
        go_wp2_with fail
        go_round
        case rel => exact ⟨k + 1, by omega, by go_num, by rw [F.out]⟩
        case measure => simp [intOf]; omega
      · simp only [↓reduceIte] at hix
        by_cases h0 : k = 0
        · have t0 : ((k : Int) == 0) = true := by rw [h0]; rfl
          have F := Lib.hid (show blC o (k + 1) = blC o k + 1 by subst h0; exact blC_first htt.symm)
          clear FR htt h0
          go_wp2_with fail
          go_round
          case rel => exact ⟨k + 1, by omega, by go_num, by rw [F.out]; go_num⟩
          case measure => simp [intOf]; omega
        · obtain ⟨j, rfl⟩ : ∃ j, k = j + 1 := ⟨k - 1, by omega⟩
          have hiy := index_is (S := S) (k := j) (by omega)
          rw [AT.out j (by omega)] at hiy
          have hix : ∀ w : World, (Instr.index 9 (.string S) (.int .i64 ((j : Int) + 1))).run Tryd.prog w = .ok (.int .u8 49) w := hix
          have NW := @blC_new o j htt.symm
          have ON := @blC_on o j htt.symm
          have hjj : (j : Int) < (S.size : Int) := by omega
          obtain ⟨s, hs⟩ : ∃ s, s = o.testBit j := ⟨_, rfl⟩
          rw [← hs] at hiy NW ON
          clear h0 htt FR hs
          cases s
          · simp only [Bool.false_eq_true, ↓reduceIte] at hiy
            have F := Lib.hid (NW rfl)
            clear NW ON
            go_wp2_with fail
            go_round
            case rel => exact ⟨j + 2, by omega, by go_num, by rw [F.out]; go_num⟩
            case measure => simp [intOf]; omega
          · simp only [↓reduceIte] at hiy
            have F := Lib.hid (ON rfl)
            clear NW ON
            go_wp2_with fail
            go_round
            case rel => exact ⟨j + 2, by omega, by go_num, by rw [F.out]⟩
            case measure => simp [intOf]; omega
    · obtain rfl : k = S.size := by omega
      go_wp2_with fail
      go_ret
      exact ⟨ret_int E.out.symm, B1.out⟩

theorem trS_one {k o : Nat} (h : o.testBit k = true) : trS k o ++ ⟨#[49]⟩ = trS (k + 1) o := by
  unfold trS
  rw [trL_one h]
  apply ByteArray.ext
  simp
theorem trS_nil {k o : Nat} (h : o.testBit k = false) : trS k o ++ ⟨#[48]⟩ = trS (k + 1) o := by
  unfold trS
  rw [trL_zero h]
  apply ByteArray.ext
  simp
/-- One letter of a text. -/
theorem letter {S : ByteArray} {i : Nat} (hi : i < S.size) {b : UInt8} (h : bt S i = (b.toNat : Int)) : S.extract i (i + 1) = ⟨#[b]⟩ := by
  have hs : (S.extract i (i + 1)).size = 1 := by rw [ByteArray.size_extract]; omega
  refine text_eq hs ?_
  intro j hj
  rw [hs] at hj
  obtain rfl : j = 0 := by omega
  have h2 : 0 < (S.extract i (i + 1)).size := by omega
  rw [← bt_get h2, ByteArray.getElem_extract]
  simp only [Nat.add_zero]
  rw [bt_get hi, h]
  rfl

end Go.Proofs.YtmdkfhbkdeoahaaDoor
