/-
  The methods of the program's tracks: has, last, changed, canChange. For at most 8 circuits.
-/
import Derived.Test.YtilkphehonilbaaDoorDirA
import Derived.Test.YtilkphehonilbaaDoorTrkP
import Derived.Test.YtilkphehonilbaaDoorPairT
import Derived.Test.YtilkphehonilbaaDoorResults
import Derived.Laws.Bits64b
namespace Go.Proofs.YtilkphehonilbaaDoor
open Go.RowKit Go.Sort

/-- A track as a value. -/
def tkc (n o : Nat) : Value := .agg #[.int .u64 o, .int .i64 n]

theorem bit_is {o : Nat} (ho : o < 256) (i : Nat) : (bits .and .u64 ((o : Int) / 2 ^ i) 1 == 1) = o.testBit i := by
  have hlt : o / 2 ^ i ≤ o := Nat.div_le_self _ _
  have e := bits_and_u64_nat (o / 2 ^ i) 1 (by omega) (by omega)
  have e2 : (((o / 2 ^ i : Nat)) : Int) = (o : Int) / 2 ^ i := by
    rw [Int.natCast_ediv, Int.natCast_pow]
    rfl
  rw [e2] at e
  have e3 : bits .and .u64 ((o : Int) / 2 ^ i) 1 = ((o / 2 ^ i &&& 1 : Nat) : Int) := e
  rw [e3, Nat.and_one_is_mod, Nat.testBit_eq_decide_div_mod_eq]
  rcases Nat.mod_two_eq_zero_or_one (o / 2 ^ i) with h | h <;> rw [h] <;> rfl

set_option maxHeartbeats 400000 in
theorem has_is (n o i : Nat) (ho : o < 256) (hi : i ≤ 8) (w : World) :
    Calls Tryd.prog 41 #[tkc n o, .int .i64 i] w fun e w' => e = .returned (.bool (o.testBit i)) ∧ Below w.heap.size w w' := by
  unfold tkc
  have hi' : (i : Int) ≤ 8 := by omega
  have E := Lib.hid (bit_is ho i)
  clear ho
  go_enter Tryd.func41, Tryd.ntmps41
  go_wp2_with fail
  go_ret
  exact ⟨ret_bool E.out, below_alloc w _⟩

set_option maxHeartbeats 400000 in
theorem last_is (n o : Nat) (hn : 1 ≤ n ∧ n ≤ 8) (w : World) :
    Calls Tryd.prog 42 #[tkc n o] w fun e w' => e = .returned (.int .i64 ((n : Int) - 1)) ∧ Below w.heap.size w w' := by
  unfold tkc
  have h1 : 1 ≤ (n : Int) := by omega
  have h8 : (n : Int) ≤ 8 := by omega
  go_enter Tryd.func42, Tryd.ntmps42
  go_wp2_with fail
  go_ret
  exact ⟨rfl, below_alloc w _⟩

/-- The two blocks that a method with a track to hand back begins with. -/
theorem two_pair (w : World) (x y : Value) (t : TypeId) (x' y' : Value) (t' : TypeId) (W : World) (hW : W = (w.alloc (.cells #[x, y] t)).alloc (.cells #[x', y'] t')) :
    Pair W w.heap.size x y t ∧ Pair W (w.heap.size + 1) x' y' t' ∧ Below w.heap.size w W ∧ W.heap.size = w.heap.size + 2 := by
  have hs : (w.alloc (.cells #[x, y] t)).heap.size = w.heap.size + 1 := Go.Deep.nblk_alloc _ _
  have h2 := Pair.new (w.alloc (.cells #[x, y] t)) x' y' t'
  rw [hs] at h2
  subst hW
  exact ⟨(Pair.new w x y t).alloc _, h2, (below_alloc w _).alloc (by omega) _, by rw [Go.Deep.nblk_alloc, hs]⟩
theorem pair_stored {w : World} {b : Nat} {x y : Value} {t : TypeId} (h : Pair w b x y t) (x' y' : Value) : Pair ((w.setCell ⟨b, 0, none⟩ x').setCell ⟨b, 1, none⟩ y') b x' y' t := (h.set0 x').set1 y'
theorem pair_below {w w' : World} {n b : Nat} (h : Below n w w') (hb : n ≤ b) (x y : Value) : Below n w ((w'.setCell ⟨b, 0, none⟩ x).setCell ⟨b, 1, none⟩ y) :=
  (h.setCell (p := ⟨b, 0, none⟩) hb x).setCell (p := ⟨b, 1, none⟩) hb y

theorem bits_xor_u64_nat (a b : Nat) (ha : a < 18446744073709551616) (hb : b < 18446744073709551616) :
    bits .xor .u64 (a : Int) (b : Int) = ((a ^^^ b : Nat) : Int) := by
  have hx : a ^^^ b < 2 ^ 64 := Nat.xor_lt_two_pow (by omega) (by omega)
  have h1 : (BitVec.ofInt 64 (a : Int)).toNat = a := by
    rw [BitVec.ofInt_natCast, BitVec.toNat_ofNat]; exact Nat.mod_eq_of_lt (by omega)
  have h2 : (BitVec.ofInt 64 (b : Int)).toNat = b := by
    rw [BitVec.ofInt_natCast, BitVec.toNat_ofNat]; exact Nat.mod_eq_of_lt (by omega)
  show IntKind.u64.wrap ((BitVec.ofInt 64 (a : Int) ^^^ BitVec.ofInt 64 (b : Int)).toNat : Int) = _
  rw [BitVec.toNat_xor, h1, h2, IntKind.wrap_u64]
  omega
theorem two_pow_small {i : Nat} (hi : i < 8) : (2 : Nat) ^ i ≤ 128 := Nat.pow_le_pow_right (by omega) (show i ≤ 7 by omega)
theorem flip_is {o i : Nat} (ho : o < 256) (hi : i < 8) : bits .xor .u64 (o : Int) (IntKind.u64.wrap (2 ^ i)) = ((fl o i : Nat) : Int) := by
  have hp := two_pow_small hi
  have e : IntKind.u64.wrap (2 ^ i) = ((2 ^ i : Nat) : Int) := by
    have : ((2 : Int) ^ i) = ((2 ^ i : Nat) : Int) := by rw [Int.natCast_pow]; rfl
    rw [this, IntKind.wrap_u64]
    generalize (2 ^ i : Nat) = x at hp ⊢
    omega
  rw [e, bits_xor_u64_nat o (2 ^ i) (by omega) (by omega)]
  rfl

set_option maxHeartbeats 1000000 in
theorem changed_is (n o i : Nat) (ho : o < 256) (hi : i < 8) (w : World) :
    Calls Tryd.prog 37 #[tkc n o, .int .i64 i] w fun e w' => e = .returned (tkc n (fl o i)) ∧ Below w.heap.size w w' := by
  unfold tkc
  have hi' : (i : Int) < 8 := by omega
  obtain ⟨W, hW⟩ : ∃ W, W = (w.alloc (.cells #[.int .u64 o, .int .i64 n] 54)).alloc (.cells #[.int .u64 0, .int .i64 0] 54) := ⟨_, rfl⟩
  obtain ⟨p1, p2, q, hs⟩ := two_pair w _ _ _ _ _ _ W hW
  have HW := Lib.hid hW
  have P2 := Lib.hid p2
  have Q := Lib.hid q
  have k0 := p1.cell0
  have k1 := p1.cell1
  have k2 := p2.cell0
  have k3 := p2.cell1
  have k4 := p2.frozen 0
  have k5 := p2.frozen 1
  have hfl := flip_is ho hi
  clear hW p1 p2 q hs ho
  go_enter Tryd.func37, Tryd.ntmps37
  go_upto_region 1 with fail
  rw [← HW.out]
  go_region
  go_wp2_with fail
  have z := pair_stored P2.out (.int .u64 (fl o i : Nat)) (.int .i64 n)
  have z0 := z.cell0
  have z1 := z.cell1
  have qq := (pair_below Q.out (show w.heap.size ≤ w.heap.size + 1 by omega) (.int .u64 (fl o i : Nat)) (.int .i64 n)).drew
  exact bodyPost_ret (v := .agg #[.int .u64 (fl o i : Nat), .int .i64 n]) (by simp [results, Tryd.results37, go_sem, z0, z1]) rfl ⟨rfl, qq⟩

set_option maxHeartbeats 1000000 in
theorem can_is (n o i : Nat) (hn : 1 ≤ n ∧ n ≤ 8) (ho : o < 256) (hi : i < n) (w : World) :
    Calls Tryd.prog 47 #[tkc n o, .int .i64 i] w fun e w' => e = .returned (.bool (can n o i)) ∧ Below w.heap.size w w' := by
  have HA := Lib.hid (fun (k : Nat) (hk : k ≤ 8) (w : World) => has_is n o k ho hk w)
  have LA := Lib.hid (last_is n o hn)
  unfold tkc at *
  have p := Pair.new w (.int .u64 o) (.int .i64 n) 54
  have q := below_alloc w (.cells #[.int .u64 o, .int .i64 n] 54)
  obtain ⟨W, hW⟩ : ∃ W, W = w.alloc (.cells #[.int .u64 o, .int .i64 n] 54) := ⟨_, rfl⟩
  rw [← hW] at p q
  have HW := Lib.hid hW
  have P := Lib.hid p
  have Q := Lib.hid q
  have k0 := p.cell0
  have k1 := p.cell1
  have h1 : 1 ≤ (n : Int) := by omega
  have h8 : (n : Int) ≤ 8 := by omega
  have hin : (i : Int) < (n : Int) := by omega
  clear hW p q ho
  obtain ⟨t, ht⟩ : ∃ t, t = o.testBit i := ⟨_, rfl⟩
  have H1 := Lib.hid (ht ▸ HA.out i (by omega))
  cases t
  · by_cases h0 : i = 0
    · subst h0
      have E := Lib.hid (show can n o 0 = true by unfold can; rw [← ht]; simp)
      clear ht HA LA
      go_enter Tryd.func47, Tryd.ntmps47
      go_upto_region 1 with fail
      rw [← HW.out]
      go_wp2_with (go_at_call 41; refine (H1.out _).mono ?_; rintro e w1 ⟨rfl, b1⟩)
      go_ret
      exact ⟨ret_bool E.out.symm, chain Q.out b1⟩
    · obtain ⟨j, rfl⟩ : ∃ j, i = j + 1 := ⟨i - 1, by omega⟩
      obtain ⟨s, hs⟩ : ∃ s, s = o.testBit j := ⟨_, rfl⟩
      have H2 := Lib.hid (hs ▸ HA.out j (by omega))
      have H1 := Lib.hid (show ∀ w : World, Calls Tryd.prog 41 #[.agg #[.int .u64 o, .int .i64 n], .int .i64 ((j : Int) + 1)] w fun e w' => e = .returned (.bool false) ∧ Below w.heap.size w w' from H1.out)
      have E := Lib.hid (show can n o (j + 1) = s by unfold can; rw [← ht, hs]; simp)
      clear ht HA LA hs h0
      go_enter Tryd.func47, Tryd.ntmps47
      go_upto_region 1 with fail
      rw [← HW.out]
      go_wp2_with (first
        | (go_at_call 41; with_reducible refine (H1.out _).mono ?_; rintro e w1 ⟨rfl, b1⟩; have z0 := (P.out.below b1).cell0; have z1 := (P.out.below b1).cell1)
        | (go_at_call 41; with_reducible refine (H2.out _).mono ?_; rintro e w2 ⟨rfl, b2⟩))
      go_ret
      exact ⟨ret_bool E.out.symm, chain Q.out (chain b1 b2)⟩
  · by_cases hl : i + 1 = n
    · have E := Lib.hid (show can n o i = true by unfold can; rw [← ht]; simp [hl])
      have t1 : ((i : Int) == (n : Int) - 1) = true := by rw [beq_iff_eq]; omega
      clear ht HA hl
      go_enter Tryd.func47, Tryd.ntmps47
      go_upto_region 1 with fail
      rw [← HW.out]
      go_wp2_with (first
        | (go_at_call 41; refine (H1.out _).mono ?_; rintro e w1 ⟨rfl, b1⟩; have z0 := (P.out.below b1).cell0; have z1 := (P.out.below b1).cell1)
        | (go_at_call 42; refine (LA.out _).mono ?_; rintro e w2 ⟨rfl, b2⟩))
      go_ret
      exact ⟨ret_bool E.out.symm, chain Q.out (chain b1 b2)⟩
    · obtain ⟨s, hs⟩ : ∃ s, s = o.testBit (i + 1) := ⟨_, rfl⟩
      have H2 := Lib.hid (show ∀ w : World, Calls Tryd.prog 41 #[.agg #[.int .u64 o, .int .i64 n], .int .i64 ((i : Int) + 1)] w fun e w' => e = .returned (.bool s) ∧ Below w.heap.size w w' from hs ▸ HA.out (i + 1) (by omega))
      have E := Lib.hid (show can n o i = s by unfold can; rw [← ht, hs]; simp [hl])
      have t1 : ((i : Int) == (n : Int) - 1) = false := by rw [beq_eq_false_iff_ne]; omega
      clear ht HA hs hl
      go_enter Tryd.func47, Tryd.ntmps47
      go_upto_region 1 with fail
      rw [← HW.out]
      go_wp2_with (first
        | (go_at_call 41; with_reducible refine (H1.out _).mono ?_; rintro e w1 ⟨rfl, b1⟩; have z0 := (P.out.below b1).cell0; have z1 := (P.out.below b1).cell1)
        | (go_at_call 42; refine (LA.out _).mono ?_; rintro e w2 ⟨rfl, b2⟩; have y0 := (P.out.below (chain b1 b2)).cell0; have y1 := (P.out.below (chain b1 b2)).cell1)
        | (go_at_call 41; with_reducible refine (H2.out _).mono ?_; rintro e w3 ⟨rfl, b3⟩))
      go_ret
      exact ⟨ret_bool E.out.symm, chain Q.out (chain (chain b1 b2) b3)⟩

end Go.Proofs.YtilkphehonilbaaDoor
