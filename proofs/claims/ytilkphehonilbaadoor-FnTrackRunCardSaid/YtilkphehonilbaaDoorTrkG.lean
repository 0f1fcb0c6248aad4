/-
  The number of blocks, and the opposite order: the model's and the program's TrackBlocks and TrackTurn. For texts of at most 1048576 bytes.
-/
import Derived.Test.YtilkphehonilbaaDoorTrkF
namespace Go.Proofs.YtilkphehonilbaaDoor
open Go.RowKit Go.Sort

theorem blT_no {S : ByteArray} (h : trB S = false) : blT S = -1 := by unfold blT; rw [h]; rfl
theorem blT_yes {S : ByteArray} (h : trB S = true) : blT S = (blC (oc S) S.size : Int) := by unfold blT; rw [h]; rfl
/-- What TrackTurn hands back. -/
def tuS (S : ByteArray) : ByteArray := if trB S then trS S.size (rv S.size (oc S)) else ⟨#[]⟩
theorem tuS_no {S : ByteArray} (h : trB S = false) : tuS S = ⟨#[]⟩ := by unfold tuS; rw [h]; rfl
theorem tuS_yes {S : ByteArray} (h : trB S = true) : tuS S = trS S.size (rv S.size (oc S)) := by unfold tuS; rw [h]; rfl

set_option maxHeartbeats 1000000 in
theorem implTrackBlocks (S : ByteArray) (hS : S.size ≤ 1048576) (w : World) :
    Calls Tryd.prog 18 #[.string S] w fun e w' => e = .returned (.int .i64 (blT S)) ∧ Below w.heap.size w w' := by
  have T := trackOf_is S hS w
  obtain ⟨t, ht⟩ : ∃ t, t = trB S := ⟨_, rfl⟩
  cases t
  · rw [tkO_no ht.symm, ← ht] at T
    unfold tkc at T
    have T := Lib.hid T
    have E := Lib.hid (blT_no ht.symm)
    clear ht
    go_enter Tryd.func18, Tryd.ntmps18
    go_wp2_with (go_at_call 32; refine T.out.mono ?_; rintro e w1 ⟨rfl, b1⟩)
    go_ret
    exact ⟨ret_int E.out.symm, b1.alloc b1.size _⟩
  rw [tkO_yes ht.symm, ← ht] at T
  have E := Lib.hid (blT_yes ht.symm)
  have CH := blocks_is S.size (oc S) (trB_of ht.symm).1 (oc_lt2 ht.symm).1
  unfold tkc at T CH
  have T := Lib.hid T
  have CH := Lib.hid CH
  clear ht
  go_enter Tryd.func18, Tryd.ntmps18
  go_upto_region 2 with (go_at_call 32; refine T.out.mono ?_; rintro e w1 ⟨rfl, b1⟩)
  have p := Pair.new w1 (.int .u64 (oc S : Nat)) (.int .i64 S.size) 54
  have q := b1.alloc b1.size (.cells #[.int .u64 (oc S : Nat), .int .i64 S.size] 54)
  obtain ⟨W, hW⟩ : ∃ W, W = w1.alloc (.cells #[.int .u64 (oc S : Nat), .int .i64 S.size] 54) := ⟨_, rfl⟩
  rw [← hW] at p q ⊢
  have z0 := p.cell0
  have z1 := p.cell1
  clear hW
  go_wp2_with (go_at_call 40; refine (CH.out _).mono ?_; rintro e w2 ⟨rfl, b2⟩)
  go_ret
  exact ⟨ret_int E.out.symm, chain q b2⟩

set_option maxHeartbeats 2000000 in
theorem implTrackTurn (S : ByteArray) (hS : S.size ≤ 1048576) (w : World) :
    Calls Tryd.prog 12 #[.string S] w fun e w' => e = .returned (.tuple #[.string (tuS S), .bool (trB S)]) ∧ Below w.heap.size w w' := by
  have T := trackOf_is S hS w
  obtain ⟨t, ht⟩ : ∃ t, t = trB S := ⟨_, rfl⟩
  cases t
  · rw [tkO_no ht.symm, ← ht] at T
    unfold tkc at T
    have T := Lib.hid T
    have E := Lib.hid (And.intro (tuS_no ht.symm) ht.symm)
    clear ht
    go_enter Tryd.func12, Tryd.ntmps12
    go_wp2_with (go_at_call 32; refine T.out.mono ?_; rintro e w1 ⟨rfl, b1⟩)
    go_ret2
    exact ⟨by rw [E.out.1, E.out.2]; rfl, b1.alloc b1.size _⟩
  rw [tkO_yes ht.symm, ← ht] at T
  have E := Lib.hid (And.intro (tuS_yes ht.symm) ht.symm)
  have hn := (trB_of ht.symm).1
  have CH := turned_is S.size (oc S) hn (oc_lt2 ht.symm).1
  have TX := text_is S.size (rv S.size (oc S)) hn.2 (Nat.lt_of_lt_of_le (rv_lt _ _) (show 2 ^ S.size ≤ 2 ^ 8 from Nat.pow_le_pow_right (by omega) hn.2))
  unfold tkc at T CH TX
  have T := Lib.hid T
  have CH := Lib.hid CH
  have TX := Lib.hid TX
  clear ht hn
  go_enter Tryd.func12, Tryd.ntmps12
  go_upto_region 2 with (go_at_call 32; refine T.out.mono ?_; rintro e w1 ⟨rfl, b1⟩)
  have p := Pair.new w1 (.int .u64 (oc S : Nat)) (.int .i64 S.size) 54
  have q := b1.alloc b1.size (.cells #[.int .u64 (oc S : Nat), .int .i64 S.size] 54)
  obtain ⟨W, hW⟩ : ∃ W, W = w1.alloc (.cells #[.int .u64 (oc S : Nat), .int .i64 S.size] 54) := ⟨_, rfl⟩
  rw [← hW] at p q ⊢
  have z0 := p.cell0
  have z1 := p.cell1
  clear hW
  go_wp2_with (first
    | (go_at_call 33; refine (CH.out _).mono ?_; rintro e w2 ⟨rfl, b2⟩)
    | (go_at_call 34; refine (TX.out _).mono ?_; rintro e w3 ⟨rfl, b3⟩))
  go_ret2
  exact ⟨by rw [E.out.1, E.out.2]; rfl, chain q (chain b2 b3)⟩

/-! ### By the model -/
theorem blC_is {o k : Nat} : blC o (k + 1) = blC o k + (if o.testBit k && (decide (k = 0) || !o.testBit (k - 1)) then 1 else 0) := rfl
theorem blC_free {o k : Nat} (h : o.testBit k = false) : blC o (k + 1) = blC o k := by rw [blC_is, h]; rfl
theorem blC_first {o : Nat} (h : o.testBit 0 = true) : blC o 1 = blC o 0 + 1 := by rw [blC_is, h]; rfl
theorem blC_new {o j : Nat} (h : o.testBit (j + 1) = true) (h2 : o.testBit j = false) : blC o (j + 2) = blC o (j + 1) + 1 := by rw [blC_is, h]; simp [h2]
theorem blC_on {o j : Nat} (h : o.testBit (j + 1) = true) (h2 : o.testBit j = true) : blC o (j + 2) = blC o (j + 1) := by rw [blC_is, h]; simp [h2]

theorem trS_one {k o : Nat} (h : o.testBit k = true) : trS k o ++ ⟨#[49]⟩ = trS (k + 1) o := by
  unfold trS
  rw [trL_one h]
  apply ByteArray.ext
  simp
theorem trS_nil {k o : Nat} (h : o.testBit k = false) : trS k o ++ ⟨#[48]⟩ = trS (k + 1) o := by
  unfold trS
  rw [trL_zero h]
  apply ByteArray.ext
  simp
/-- One letter of a text. -/
theorem letter {S : ByteArray} {i : Nat} (hi : i < S.size) {b : UInt8} (h : bt S i = (b.toNat : Int)) : S.extract i (i + 1) = ⟨#[b]⟩ := by
  have hs : (S.extract i (i + 1)).size = 1 := by rw [ByteArray.size_extract]; omega
  refine text_eq hs ?_
  intro j hj
  rw [hs] at hj
  obtain rfl : j = 0 := by omega
  have h2 : 0 < (S.extract i (i + 1)).size := by omega
  rw [← bt_get h2, ByteArray.getElem_extract]
  simp only [Nat.add_zero]
  rw [bt_get hi, h]
  rfl

end Go.Proofs.YtilkphehonilbaaDoor
