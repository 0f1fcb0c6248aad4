/-
  The blocks of the program's track, and the track in the opposite order: math/bits.OnesCount and Reverse for numbers below 256. For texts of at most 1048576 bytes.
-/
import Derived.Test.YtilkphehonilbaaDoorTrkE
import Derived.Deep.RegionHeld3
namespace Go.Proofs.YtilkphehonilbaaDoor
open Go.RowKit Go.Sort

/-! ### OnesCount -/
abbrev oA (x : Int) : Int := IntKind.u64.wrap (bits .and .u64 (x / 2) 6148914691236517205 + bits .and .u64 x 6148914691236517205)
abbrev oB (x : Int) : Int := IntKind.u64.wrap (bits .and .u64 (x / 4) 3689348814741910323 + bits .and .u64 x 3689348814741910323)
abbrev oC (x : Int) : Int := bits .and .u64 (IntKind.u64.wrap (x / 16 + x)) 1085102592571150095
abbrev oD (x : Int) : Int := IntKind.u64.wrap (x + x / 256)
abbrev oE (x : Int) : Int := IntKind.u64.wrap (x + x / 65536)
abbrev oF (x : Int) : Int := IntKind.u64.wrap (x + x / 4294967296)
abbrev oG (x : Int) : Int := bits .and .i64 (wrap64 x) 127
theorem ones_all : ∀ o : Fin 256, oG (oF (oE (oD (oC (oB (oA (o.val : Int))))))) = (blC 0 0 : Int) + ((List.range 8).countP fun i => o.val.testBit i : Nat) := by decide +kernel
/-- How many bits are set. -/
def pop (o : Nat) : Nat := (List.range 8).countP fun i => o.testBit i
theorem ones_is {o : Nat} (ho : o < 256) : oG (oF (oE (oD (oC (oB (oA (o : Int))))))) = (pop o : Int) := by
  have := ones_all ⟨o, ho⟩
  simpa [blC, pop] using this

set_option maxHeartbeats 4000000 in
theorem ones64 (o : Nat) (ho : o < 256) (w : World) :
    Calls Tryd.prog 63 #[.int .u64 o] w fun e w' => e = .returned (.int .i64 (pop o)) ∧ w = w' := by
  have E := Lib.hid (ones_is ho)
  clear ho
  go_enter Tryd.func63, Tryd.ntmps63
  go_wp2_with fail
  go_ret
  exact ⟨ret_int E.out, rfl⟩

set_option maxHeartbeats 1000000 in
theorem ones (o : Nat) (ho : o < 256) (w : World) :
    Calls Tryd.prog 55 #[.int .u64 o] w fun e w' => e = .returned (.int .i64 (pop o)) ∧ w = w' := by
  have O := Lib.hid (ones64 o ho)
  go_enter Tryd.func55, Tryd.ntmps55
  go_wp2_with (go_at_call 63; refine (O.out _).mono ?_; rintro e w1 ⟨rfl, rfl⟩)
  go_ret
  exact ⟨rfl, rfl⟩

/-! ### Reverse -/
abbrev rA (x : Int) : Int := bits .or .u64 (bits .and .u64 (x / 2) 6148914691236517205) (IntKind.u64.wrap (bits .and .u64 x 6148914691236517205 * 2))
abbrev rB (x : Int) : Int := bits .or .u64 (bits .and .u64 (x / 4) 3689348814741910323) (IntKind.u64.wrap (bits .and .u64 x 3689348814741910323 * 4))
abbrev rC (x : Int) : Int := bits .or .u64 (bits .and .u64 (x / 16) 1085102592571150095) (IntKind.u64.wrap (bits .and .u64 x 1085102592571150095 * 16))
abbrev rD (x : Int) : Int := bits .or .u64 (bits .and .u64 (x / 256) 71777214294589695) (IntKind.u64.wrap (bits .and .u64 x 71777214294589695 * 256))
abbrev rE (x : Int) : Int := bits .or .u64 (bits .and .u64 (x / 65536) 281470681808895) (IntKind.u64.wrap (bits .and .u64 x 281470681808895 * 65536))
abbrev rF (x : Int) : Int := bits .or .u64 (x / 4294967296) (IntKind.u64.wrap (x * 4294967296))
theorem rev_three : ∀ o : Fin 256, rC (rB (rA (o.val : Int))) = (rv 8 o.val : Int) := by decide +kernel
theorem rev_bytes : ∀ o : Fin 256, rF (rE (rD (o.val : Int))) = ((o.val * 72057594037927936 : Nat) : Int) := by decide +kernel
theorem rev_lt : ∀ o : Fin 256, rv 8 o.val < 256 := by decide +kernel

set_option maxHeartbeats 4000000 in
theorem revBytes (o : Nat) (ho : o < 256) (w : World) :
    Calls Tryd.prog 74 #[.int .u64 o] w fun e w' => e = .returned (.int .u64 (o * 72057594037927936 : Nat)) ∧ w = w' := by
  have E := Lib.hid (show rF (rE (rD (o : Int))) = ((o * 72057594037927936 : Nat) : Int) from rev_bytes ⟨o, ho⟩)
  clear ho
  go_enter Tryd.func74, Tryd.ntmps74
  go_wp2_with fail
  go_ret
  exact ⟨congrArg Ending.returned (congrArg (Value.int .u64) E.out), rfl⟩

set_option maxHeartbeats 4000000 in
theorem rev64 (o : Nat) (ho : o < 256) (w : World) :
    Calls Tryd.prog 60 #[.int .u64 o] w fun e w' => e = .returned (.int .u64 (rv 8 o * 72057594037927936 : Nat)) ∧ w = w' := by
  have E : rC (rB (rA (o : Int))) = ((rv 8 o : Nat) : Int) := rev_three ⟨o, ho⟩
  have RB := revBytes (rv 8 o) (rev_lt ⟨o, ho⟩)
  rw [← E] at RB
  have RB := Lib.hid RB
  clear ho E
  go_enter Tryd.func60, Tryd.ntmps60
  go_wp2_with (go_at_call 74; refine (RB.out _).mono ?_; rintro e w1 ⟨rfl, rfl⟩)
  go_ret
  exact ⟨rfl, rfl⟩

set_option maxHeartbeats 1000000 in
theorem reverse (o : Nat) (ho : o < 256) (w : World) :
    Calls Tryd.prog 52 #[.int .u64 o] w fun e w' => e = .returned (.int .u64 (rv 8 o * 72057594037927936 : Nat)) ∧ w = w' := by
  have O := Lib.hid (rev64 o ho)
  go_enter Tryd.func52, Tryd.ntmps52
  go_wp2_with (go_at_call 60; refine (O.out _).mono ?_; rintro e w1 ⟨rfl, rfl⟩)
  go_ret
  exact ⟨rfl, rfl⟩

/-! ### The number of blocks -/
abbrev andNot1 (o : Int) : Int := bits .andNot .u64 o (IntKind.u64.wrap (o * 2))
theorem blocks_all : ∀ o : Fin 256, ∃ x : Fin 256, andNot1 (o.val : Int) = (x.val : Int) ∧ pop x.val = blC o.val 8 := by decide +kernel

theorem blocks_nat {o : Nat} (ho : o < 256) : ∃ x : Nat, x < 256 ∧ andNot1 (o : Int) = (x : Int) ∧ pop x = blC o 8 := by
  obtain ⟨x, hx, hp⟩ := blocks_all ⟨o, ho⟩
  exact ⟨x.val, x.isLt, hx, hp⟩

set_option maxHeartbeats 1000000 in
theorem blocks_is (n o : Nat) (hn : 1 ≤ n ∧ n ≤ 8) (ho : o < 2 ^ n) (w : World) :
    Calls Tryd.prog 40 #[tkc n o] w fun e w' => e = .returned (.int .i64 (blC o n)) ∧ Below w.heap.size w w' := by
  have ho2 : o < 256 := Nat.lt_of_lt_of_le ho (show 2 ^ n ≤ 2 ^ 8 from Nat.pow_le_pow_right (by omega) hn.2)
  have hb : blC o 8 = blC o n := by
    have := blC_more ho (8 - n)
    rw [show n + (8 - n) = 8 by omega] at this
    exact this
  obtain ⟨x, hlt, hx, hp⟩ := blocks_nat ho2
  have O := Lib.hid (ones x hlt)
  have HP := Lib.hid (hp.trans hb)
  unfold andNot1 at hx
  unfold tkc
  clear hp hb ho2 ho hlt
  go_enter Tryd.func40, Tryd.ntmps40
  go_wp2_with (go_at_call 55; refine (O.out _).mono ?_; rintro e w1 ⟨rfl, rfl⟩)
  go_ret
  exact ⟨by rw [HP.out]; rfl, below_alloc w _⟩

/-! ### The opposite order -/
theorem turn_all : ∀ n : Fin 9, ∀ o : Fin 256, n.val = 0 ∨ 2 ^ n.val ≤ o.val ∨ rv 8 o.val * 72057594037927936 / 2 ^ (64 - n.val) = rv n.val o.val := by decide +kernel
theorem turn_is {n o : Nat} (hn : 1 ≤ n ∧ n ≤ 8) (ho : o < 2 ^ n) : ((rv 8 o : Nat) : Int) * 72057594037927936 / 2 ^ (64 - n) = ((rv n o : Nat) : Int) := by
  have ho2 : o < 256 := Nat.lt_of_lt_of_le ho (show 2 ^ n ≤ 2 ^ 8 from Nat.pow_le_pow_right (by omega) hn.2)
  have h : n = 0 ∨ 2 ^ n ≤ o ∨ rv 8 o * 72057594037927936 / 2 ^ (64 - n) = rv n o := turn_all ⟨n, by omega⟩ ⟨o, ho2⟩
  rcases h with h | h | h
  · omega
  · omega
  · rw [← h, Int.natCast_ediv, Int.natCast_mul, Int.natCast_pow]
    rfl

set_option maxHeartbeats 4000000 in
theorem turned_is (n o : Nat) (hn : 1 ≤ n ∧ n ≤ 8) (ho : o < 2 ^ n) (w : World) :
    Calls Tryd.prog 33 #[tkc n o] w fun e w' => e = .returned (tkc n (rv n o)) ∧ Below w.heap.size w w' := by
  have ho2 : o < 256 := Nat.lt_of_lt_of_le ho (show 2 ^ n ≤ 2 ^ 8 from Nat.pow_le_pow_right (by omega) hn.2)
  have RV := reverse o ho2
  have TI := turn_is hn ho
  have hwr : IntKind.i64.wrap (64 - (n : Int)) = ((64 - n : Nat) : Int) := by
    rw [show (64 : Int) - (n : Int) = ((64 - n : Nat) : Int) by omega]
    exact IntWalk.i64_in _ (by omega)
  obtain ⟨m, hm⟩ : ∃ m, m = 64 - n := ⟨_, rfl⟩
  rw [← hm] at TI hwr
  have hmi : (m : Int) ≤ 63 := by omega
  obtain ⟨x, hx⟩ : ∃ x : Nat, x = rv 8 o * 72057594037927936 := ⟨_, rfl⟩
  have TI : (x : Int) / 2 ^ m = ((rv n o : Nat) : Int) := by rw [hx, ← TI, Int.natCast_mul]; rfl
  rw [← hx] at RV
  have RV := Lib.hid RV
  clear hm hx
  have h1 : 1 ≤ (n : Int) := by omega
  have h8 : (n : Int) ≤ 8 := by omega
  unfold tkc
  obtain ⟨W, hW⟩ : ∃ W, W = (w.alloc (.cells #[.int .u64 o, .int .i64 n] 54)).alloc (.cells #[.int .u64 0, .int .i64 0] 54) := ⟨_, rfl⟩
  obtain ⟨p1, p2, q, hs⟩ := two_pair w _ _ _ _ _ _ W hW
  have HW := Lib.hid hW
  have P2 := Lib.hid p2
  have Q := Lib.hid q
  have k0 := p1.cell0
  have k1 := p1.cell1
  have k2 := p2.cell0
  have k3 := p2.cell1
  have k4 := p2.frozen 0
  have k5 := p2.frozen 1
  clear hW p1 p2 q hs ho2
  go_enter Tryd.func33, Tryd.ntmps33
  go_upto_region 1 with fail
  rw [← HW.out]
  go_region_held3 (fun X => X.cell? ⟨w.heap.size, 0, none⟩ = some (.int .u64 o) ∧ X.cell? ⟨w.heap.size, 1, none⟩ = some (.int .i64 n))
    (first | exact ⟨k0, k1⟩ | go_keep)
    (first | (go_at_call 52; refine (RV.out _).mono ?_; rintro e w1 ⟨rfl, rfl⟩) | fail)
  go_wp2_with fail
  have z := pair_stored P2.out (.int .u64 (rv n o : Nat)) (.int .i64 n)
  have z0 := z.cell0
  have z1 := z.cell1
  have qq := (pair_below Q.out (show w.heap.size ≤ w.heap.size + 1 by omega) (.int .u64 (rv n o : Nat)) (.int .i64 n)).drew
  exact bodyPost_ret (v := .agg #[.int .u64 (rv n o : Nat), .int .i64 n]) (by simp [results, Tryd.results33, go_sem, z0, z1]) rfl ⟨rfl, qq⟩

end Go.Proofs.YtilkphehonilbaaDoor
