/-
  The pulses of a train: the model's and the program's; slices.Repeat of one number at most 1000 times. No condition on the arguments.
-/
import Derived.Test.YtmdkfhbkdeoahaaCtrD
import Derived.Laws.CopyRow
import Derived.Laws.CopyOwn
import Derived.Laws.Bits64b
namespace Go.Proofs.Ytmdkfhbkdeoahaa
open Go.RowKit Go.Sort

/-! ### Two numbers multiplied, the first one being 1 -/
theorem and_low (a : Nat) (h : a ≤ 1000) : bits .and .u64 (a : Int) 4294967295 = (a : Int) := by
  have e := bits_and_u64_nat a 4294967295 (by omega) (by omega)
  have e2 : a &&& 4294967295 = a := by
    have : (4294967295 : Nat) = 2 ^ 32 - 1 := rfl
    rw [this, Nat.and_two_pow_sub_one_eq_mod]
    omega
  rw [e2] at e
  exact e

set_option maxHeartbeats 1000000 in
theorem mul64_one (a : Nat) (h : a ≤ 1000) (w : World) :
    Calls Try.prog 40 #[.int .u64 1, .int .u64 a] w fun e w' => e = .returned (.tuple #[.int .u64 0, .int .u64 a]) ∧ w = w' := by
  have h1 := and_low a h
  have h2 : (a : Int) / 4294967296 = 0 := by omega
  have h3 : bits .and .u64 1 4294967295 = 1 := by kernel_rfl
  have h4 : bits .and .u64 0 4294967295 = 0 := by kernel_rfl
  have ha : (a : Int) ≤ 1000 := by omega
  go_enter Try.func40, Try.ntmps40
  go_wp2_with fail
  go_ret2
  exact ⟨rfl, rfl⟩

set_option maxHeartbeats 1000000 in
theorem mul_one (a : Nat) (h : a ≤ 1000) (w : World) :
    Calls Try.prog 38 #[.int .u64 1, .int .u64 a] w fun e w' => e = .returned (.tuple #[.int .u64 0, .int .u64 a]) ∧ w = w' := by
  have M := Lib.hid (mul64_one a h)
  go_enter Try.func38, Try.ntmps38
  go_wp2_with (go_at_call 40; refine (M.out _).mono ?_; rintro e w1 ⟨rfl, rfl⟩)
  go_ret2
  exact ⟨rfl, rfl⟩

/-! ### slices.Repeat -/
/-- A block of numbers, of which the first n are c, the others 0. -/
def RepAt (w : World) (g a n : Nat) (c : Int) : Prop := ∃ C : Array Value, w.heap[g]? = some (.cells C 3 (0, 0)) ∧ C.size = a ∧ ∀ i, i < a → C[i]? = some (.int .i64 (if i < n then c else 0))
theorem RepAt.cell {w : World} {g a n i : Nat} {c : Int} (h : RepAt w g a n c) (hi : i < n) (hn : n ≤ a) : w.cell? ⟨g, i, none⟩ = some (.int .i64 c) := by
  obtain ⟨C, hC, hs, hc⟩ := h
  have := hc i (by omega)
  rw [if_pos hi] at this
  simp only [World.cell?, hC]
  exact this
/-- Some of a block's beginning are put behind it. -/
theorem rep_copy {w : World} {g a n m cap : Nat} {c : Int} (h : RepAt w g a n c) (hm : n + m ≤ a) (s : Addr) (sLen sCap : Nat) (hl : m = Nat.min sLen (a - n)) (hsrc : ∀ j, j < m → w.cell? (s.add j) = some (.int .i64 c)) (ty : TypeId) :
    ∃ C : Array Value, (Builtin.copy_ #[23, 23] ty #[.slice (some ⟨g, n, none⟩) (a - n) cap, .slice (some s) sLen sCap]).run Try.prog w = .ok (.int .i64 m) (w.setRow g C) ∧ RepAt (w.setRow g C) g a (n + m) c := by
  obtain ⟨C, hC, hs, hc⟩ := h
  have hr := run_copy_row (P := Try.prog) w 23 23 ty 3 g n (a - n) cap s sLen sCap C 3 (List.replicate m (.int .i64 c)) Try.underlying23 (by kernel_rfl) hC (by rw [List.length_replicate]; exact hl)
    (by
      intro j v hv
      rw [List.getElem?_replicate] at hv
      split at hv
      · cases hv; exact hsrc j (by assumption)
      · cases hv) (by rw [List.length_replicate, hs]; exact hm) (by
      intro v hv
      rw [List.eq_of_mem_replicate hv]
      rfl)
  rw [List.length_replicate] at hr
  refine ⟨_, hr, ?_⟩
  have hl : C.toList.length = a := by rw [Array.length_toList, hs]
  refine ⟨_, setRow_heap w g C _ 3 (0, 0) hC, ?_, fun i hi => ?_⟩
  · simp only [List.size_toArray, List.length_append, List.length_take, List.length_drop, hl, List.length_replicate]
    omega
  · rw [List.getElem?_toArray]
    have ci := hc i hi
    rw [← Array.getElem?_toList] at ci
    by_cases h1 : i < n
    · rw [if_pos h1] at ci
      rw [if_pos (by omega), List.append_assoc, List.getElem?_append_left (by rw [List.length_take, hl]; omega), List.getElem?_take, if_pos h1]
      exact ci
    · by_cases h2 : i < n + m
      · rw [if_pos h2, List.append_assoc, List.getElem?_append_right (by rw [List.length_take, hl]; omega), List.length_take, hl, List.getElem?_append_left (by rw [List.length_replicate]; omega), List.getElem?_replicate, if_pos (by omega)]
      · rw [if_neg h1] at ci
        rw [if_neg h2, List.getElem?_append_right (by rw [List.length_append, List.length_take, hl, List.length_replicate]; omega), List.getElem?_drop, List.length_append, List.length_take, hl, List.length_replicate]
        rw [show n + m + (i - (min n a + m)) = i by omega]
        exact ci
theorem RepAt.own {w : World} {base g a : Nat} {c : Int} (h : RepAt w g a a c) (hb : base ≤ g) (ha : a ≤ 1000) : OwnI w base (.slice (some ⟨g, 0, none⟩) a a) (List.replicate a c) := by
  obtain ⟨C, hC, hs, hc⟩ := h
  refine own_of_rowIs (n := a) (f := fun _ => c) ⟨C, hC, hs, fun i hi => by rw [hc i hi, if_pos hi]⟩ hb (by simp only [maxLen]; omega) List.length_replicate (fun i hi => by simp [hi])

set_option maxHeartbeats 2000000 in
theorem repeatInt {w : World} {b : Nat} {c : Int} (a : Nat) (h1 : 1 ≤ a) (ha : a ≤ 1000) (hb : b < w.heap.size) (hc : w.cell? ⟨b, 0, none⟩ = some (.int .i64 c)) :
    Calls Try.prog 37 #[.slice (some ⟨b, 0, none⟩) 1 1, .int .i64 a] w fun e w' => ∃ g, e = .returned (.slice (some ⟨g, 0, none⟩) a a) ∧ OwnI w' w.heap.size (.slice (some ⟨g, 0, none⟩) a a) (List.replicate a c) ∧ Below w.heap.size w w' := by
  have M := Lib.hid (mul_one a ha)
  have hmk : ∀ w : World, (Instr.makeSlice 23 (.int .i64 a) (.int .i64 a)).run Try.prog w = .ok (.slice (some ⟨w.heap.size, 0, none⟩) a a) (w.alloc (.cells (madeCells #[.int .i64 0] a) 3)) :=
    run_make_row' (P := Try.prog) 23 3 (.int .i64 0) 8 Try.underlying23 info_int rfl .i64 .i64 a (by omega) (by omega)
  obtain ⟨W, hW⟩ : ∃ W, W = w.alloc (.cells (madeCells #[.int .i64 0] a) 3) := ⟨_, rfl⟩
  have B0 := below_alloc w (.cells (madeCells #[.int .i64 0] a) 3)
  have R0 : RepAt (w.alloc (.cells (madeCells #[.int .i64 0] a) 3)) w.heap.size a 0 c := by
    obtain ⟨C, hC, hs, hcell⟩ := World.rowIs_made w (.int .i64 0) a 3
    exact ⟨C, hC, hs, fun i hi => by rw [if_neg (by omega)]; exact hcell i hi⟩
  rw [← hW] at B0 R0
  obtain ⟨C1, hcp, hR1⟩ := rep_copy (m := 1) (cap := a) R0 (by omega) ⟨b, 0, none⟩ 1 1 (by rw [Nat.sub_zero]; exact (Nat.min_eq_left h1).symm) (fun j hj => by
    obtain rfl : j = 0 := by omega
    exact (B0.cell (p := ⟨b, 0, none⟩) hb).trans hc) 3
  have B1 := below_setRow B0 (Nat.le_refl _) C1
  have hai : (a : Int) ≤ 1000 := by omega
  have hai1 : 1 ≤ (a : Int) := by omega
  have HW := Lib.hid hW
  have BB := Lib.hid B1
  have RR := Lib.hid hR1
  obtain ⟨W1, hW1⟩ : ∃ X, X = W.setRow w.heap.size C1 := ⟨_, rfl⟩
  rw [← hW1] at BB RR hcp
  rw [Nat.sub_zero] at hcp
  clear hW R0 hR1 B1 B0 hc hW1
  go_enter Try.func37, Try.ntmps37
  go_upto_region 7 with (go_at_call 38; refine (M.out _).mono ?_; rintro e w1 ⟨rfl, rfl⟩)
  rw [← HW.out]
  have hcp : (Builtin.copy_ #[23, 23] 3 #[.slice (some ⟨w.heap.size, 0, none⟩) a a, .slice (some ⟨b, 0, none⟩) 1 1]).run Try.prog W = .ok (.int .i64 1) W1 := hcp
  go_wp2_with fail
  clear hcp hmk
  go_loopw [8] (fun i wr => ∃ n : Nat, (1 ≤ n ∧ n ≤ a) ∧ i = .int .i64 n ∧ RepAt wr w.heap.size a n c ∧ Below w.heap.size w wr) (fun i _ => a - (intOf i).toNat)
  case atStart => exact ⟨1, ⟨Nat.le_refl _, h1⟩, rfl, RR.out, BB.out⟩
  case round =>
    clear RR BB
    obtain ⟨n, ⟨hn1, hna⟩, rfl, hrep, hbel⟩ := hrel
    by_cases hlt : n < a
    · obtain ⟨m, hm⟩ : ∃ m, m = Nat.min n (a - n) := ⟨_, rfl⟩
      have hm1 : 1 ≤ m ∧ n + m ≤ a ∧ m ≤ n := by
        have : m = min n (a - n) := hm
        omega
      obtain ⟨hm1, hm2, hm3⟩ := hm1
      obtain ⟨C, hcp, hR⟩ := rep_copy (w := wr.drew) (m := m) (cap := a - n) (show RepAt wr.drew _ _ _ _ from hrep) hm2 ⟨w.heap.size, 0, none⟩ n a hm (fun j hj => by
        have ea : (⟨w.heap.size, 0, none⟩ : Addr).add j = ⟨w.heap.size, j, none⟩ := by rw [Addr.add_lit, Nat.zero_add]
        rw [ea]
        exact RepAt.cell (w := wr.drew) hrep (by omega) hna) 3
      have BR := Lib.hid (below_setRow hbel.drew (Nat.le_refl _) C)
      have RR := Lib.hid hR
      have hni : (n : Int) < (a : Int) := by omega
      have hmi : (n : Int) + (m : Int) ≤ 1000 := by omega
      have hnc : ¬ a = n := by omega
      clear hm hR hrep hbel
      go_upto_region 9 with fail
      go_region
      all_goals
        go_wp2_with fail
        go_roundw
        case rel => exact ⟨n + m, ⟨by omega, hm2⟩, by go_num, RR.out, BR.out⟩
        case measure => simp [intOf]; omega
    · obtain rfl : n = a := by omega
      have O := Lib.hid (hrep.own (Nat.le_refl _) ha)
      have BR := Lib.hid hbel
      clear hrep hbel
      go_wp2_with fail
      go_ret
      exact ⟨w.heap.size, rfl, O.out, BR.out⟩

/-! ### The pulses of a train -/
theorem tn_add_length (a k j : Nat) : (tnL a (k * a + j)).length = k * a + j := tnL_length _ _

set_option maxHeartbeats 2000000 in
theorem implTrain {n a : Int} (_hn : -9223372036854775808 ≤ n ∧ n ≤ 9223372036854775807) (_ha : -9223372036854775808 ≤ a ∧ a ≤ 9223372036854775807) (w : World) :
    Calls Try.prog 24 #[.int .i64 n, .int .i64 a] w (MadeIntsB w (tnV n a) (tnOk n a)) := by
  obtain ⟨i0, hi, hz0, hz1, hz2⟩ := info_parts info_int
  have CV := circuits_is n
  by_cases hn : ¬ (1 ≤ n ∧ n ≤ 8)
  · rw [decide_eq_false hn] at CV
    have CV := Lib.hid CV
    have N : tnOk n a = false := decide_eq_false fun q => hn q.1
    have E := Lib.hid (And.intro (tnV_no N) N)
    clear hn N
    go_enter Try.func24, Try.ntmps24
    go_wp2_with (go_at_call 35; refine (CV.out _).mono ?_; rintro e w1 ⟨rfl, rfl⟩)
    go_ret2
    exact ⟨.slice none 0 0, by rw [E.out.2]; rfl, by rw [E.out.1]; exact own_nil _, Below.refl _ _⟩
  have hn := Decidable.not_not.1 hn
  rw [decide_eq_true hn] at CV
  have CV := Lib.hid CV
  by_cases ha1 : a < 1
  · have N : tnOk n a = false := decide_eq_false fun q => by have := q.2; omega
    have E := Lib.hid (And.intro (tnV_no N) N)
    clear hn N
    go_enter Try.func24, Try.ntmps24
    go_wp2_with (go_at_call 35; refine (CV.out _).mono ?_; rintro e w1 ⟨rfl, rfl⟩)
    go_ret2
    exact ⟨.slice none 0 0, by rw [E.out.2]; rfl, by rw [E.out.1]; exact own_nil _, Below.refl _ _⟩
  by_cases ha2 : 50 < a
  · have N : tnOk n a = false := decide_eq_false fun q => by have := q.2; omega
    have E := Lib.hid (And.intro (tnV_no N) N)
    have ha3 : (1 : Int) ≤ a := by omega
    clear hn N ha1
    go_enter Try.func24, Try.ntmps24
    go_wp2_with (go_at_call 35; refine (CV.out _).mono ?_; rintro e w1 ⟨rfl, rfl⟩)
    go_ret2
    exact ⟨.slice none 0 0, by rw [E.out.2]; rfl, by rw [E.out.1]; exact own_nil _, Below.refl _ _⟩
  have N : tnOk n a = true := decide_eq_true ⟨hn, by omega⟩
  have E := And.intro (tnV_yes N) N
  obtain ⟨m, rfl⟩ : ∃ m : Nat, n = m := ⟨n.toNat, by omega⟩
  obtain ⟨x, rfl⟩ : ∃ x : Nat, a = x := ⟨a.toNat, by omega⟩
  have E := Lib.hid (show tnV m x = tnL x ((m + 1) * x) ∧ tnOk m x = true from E)
  have hm8 : m ≤ 8 := by omega
  have hm8' : (m : Int) ≤ 8 := by omega
  have hx1 : 1 ≤ x := by omega
  have hx50 : x ≤ 50 := by omega
  have hx1' : 1 ≤ (x : Int) := by omega
  have hx50' : (x : Int) ≤ 50 := by omega
  clear N hn ha1 ha2
  have RP := Lib.hid (fun (w : World) (b : Nat) (c : Int) (hb : b < w.heap.size) (hc : w.cell? ⟨b, 0, none⟩ = some (.int .i64 c)) => repeatInt x hx1 (by omega) hb hc)
  go_enter Try.func24, Try.ntmps24
  go_wp2_with (go_at_call 35; refine (CV.out _).mono ?_; rintro e w1 ⟨rfl, rfl⟩)
  go_loopw [6, 7, 21] (fun v _ i wr => ∃ k : Nat, k ≤ m + 1 ∧ i = .int .i64 k ∧ OwnI wr w.heap.size v (tnL x (k * x)) ∧ Below w.heap.size w wr) (fun _ _ i _ => m + 1 - (intOf i).toNat)
  case atStart => exact ⟨0, by omega, rfl, by rw [Nat.zero_mul]; exact own_nil _, Below.refl _ _⟩
  case round =>
    obtain ⟨k, hk, rfl, hown, hbel⟩ := hrel
    by_cases hlt : k < m + 1
    · have hki : (k : Int) < (m : Int) + 1 := by omega
      have hkx : k * x ≤ 400 := Nat.le_trans (Nat.mul_le_mul (show k ≤ 8 by omega) hx50) (by decide)
      obtain ⟨l, hl⟩ : ∃ l, l = k * x := ⟨_, rfl⟩
      have HN := Lib.hid (tnL_next (k := k) hx1)
      rw [← hl] at hkx hown HN
      have hor := hown
      unfold OwnI at hor
      rw [tnL_length] at hor
      have hnl := below_alloc wr (.cells #[.int .i64 k] 3)
      have hn0 : (wr.alloc (.cells #[.int .i64 k] 3)).heap[wr.heap.size]? = some (.cells #[.int .i64 k] 3 (0, 0)) := Go.Deep.blk_alloc_new _ _
      have R1 := Lib.hid (RP.out _ wr.heap.size (k : Int) (Array.getElem?_eq_some_iff.1 hn0).1 (by simp only [World.cell?, hn0]; rfl))
      have B1 := Lib.hid (hbel.trans (hnl.mono hbel.size))
      have OA := Lib.hid (hor.alloc (.cells #[.int .i64 k] 3))
      have HL := Lib.hid hl
      clear hl hn0 hnl hown hbel hor
      go_wp2_with (first
        | (go_at_call 37; refine R1.out.mono ?_; rintro e w2 ⟨g, rfl, o2, b2⟩; have hor := World.ownsRow.kept OA.out (below_grown b2) (by cases (Value.ownBlock _) <;> simp); have hsz := B1.out.size)
        | (at_builtin; refine wpList_append_own _ rfl _ _ 23 rfl w.heap.size 3 i0 (.int .i64 0) 1 8 Try.underlying23 hi hz0 hz1 hz2 rfl (by decide) _ _ _ rfl hor ⟨g, 0, none⟩ x x ((List.replicate x (k : Int)).map (Value.int .i64)) rfl ?c0 ?c1 ?c2 ?c3 ?c4 ?c5 ?_))
      case c0 => simp
      case c1 => exact cells_ints (fun i hi => by rw [Nat.zero_add]; exact o2.at hi)
      case c2 =>
        intro u hu
        obtain ⟨y, _, rfl⟩ := List.mem_map.1 hu
        rfl
      case c3 => simp only [maxLen]; omega
      case c4 => omega
      case c5 => have := b2.size; have := B1.out.size; omega
      intro v' w3 hown' hgrow _
      have BB := Lib.hid ((B1.out.trans (b2.mono B1.out.size)).grown hgrow (Nat.le_trans B1.out.size b2.size) (fun g hg => (World.ownsRow.lt hor g hg).1))
      have HO := Lib.hid (show OwnI w3 w.heap.size v' (tnL x ((k + 1) * x)) by
        unfold OwnI
        rw [← HN.out, List.length_append, List.map_append, tnL_length, List.length_replicate, List.map_replicate]
        exact hown')
      clear hown' hgrow hor o2 b2
      go_wp2_with fail
      go_roundw
      case rel => exact ⟨k + 1, by omega, by go_num, HO.out, BB.out⟩
      case measure => simp [intOf]; omega
    · obtain rfl : k = m + 1 := by omega
      have O := Lib.hid hown
      have BR := Lib.hid hbel
      clear hown hbel
      go_wp2_with fail
      go_ret2
      exact ⟨_, by rw [E.out.2]; rfl, by rw [E.out.1]; exact O.out, BR.out⟩

set_option maxHeartbeats 2000000 in
theorem specTrain {n a : Int} (_hn : -9223372036854775808 ≤ n ∧ n ≤ 9223372036854775807) (_ha : -9223372036854775808 ≤ a ∧ a ≤ 9223372036854775807) (w : World) :
    Calls Try.prog 25 #[.int .i64 n, .int .i64 a] w (MadeIntsB w (tnV n a) (tnOk n a)) := by
  obtain ⟨i0, hi, hz0, hz1, hz2⟩ := info_parts info_int
  have CV := Lib.hid (in_is n 1 8)
  have CA := Lib.hid (in_is a 1 50)
  obtain ⟨t, ht⟩ : ∃ t, t = decide (1 ≤ n ∧ n ≤ 8) := ⟨_, rfl⟩
  obtain ⟨s, hs⟩ : ∃ s, s = decide (1 ≤ a ∧ a ≤ 50) := ⟨_, rfl⟩
  rw [← ht] at CV
  rw [← hs] at CA
  have B1 := Lib.hid (below_alloc w (.cells #[] 3))
  have O1 := Lib.hid (own_empty w)
  cases t
  · have N : tnOk n a = false := decide_eq_false fun q => of_decide_eq_false ht.symm q.1
    have E := Lib.hid (And.intro (tnV_no N) N)
    clear ht hs N
    go_enter Try.func25, Try.ntmps25
    go_wp2_with (go_at_call_of 30 (Value.int .i64 n); refine (CV.out _).mono ?_; rintro e w1 ⟨rfl, rfl⟩)
    go_ret2
    exact ⟨.slice (some ⟨w.heap.size, 0, none⟩) 0 0, by rw [E.out.2]; rfl, by rw [E.out.1]; exact O1.out, B1.out⟩
  cases s
  · have N : tnOk n a = false := decide_eq_false fun q => of_decide_eq_false hs.symm q.2
    have E := Lib.hid (And.intro (tnV_no N) N)
    clear ht hs N
    go_enter Try.func25, Try.ntmps25
    go_wp2_with (first | (go_at_call_of 30 (Value.int .i64 n); refine (CV.out _).mono ?_; rintro e w1 ⟨rfl, rfl⟩) | (go_at_call_of 30 (Value.int .i64 a); refine (CA.out _).mono ?_; rintro e w2 ⟨rfl, rfl⟩))
    go_ret2
    exact ⟨.slice (some ⟨w.heap.size, 0, none⟩) 0 0, by rw [E.out.2]; rfl, by rw [E.out.1]; exact O1.out, B1.out⟩
  have hn := of_decide_eq_true ht.symm
  have ha := of_decide_eq_true hs.symm
  have N : tnOk n a = true := decide_eq_true ⟨hn, ha⟩
  have E := And.intro (tnV_yes N) N
  obtain ⟨m, rfl⟩ : ∃ m : Nat, n = m := ⟨n.toNat, by omega⟩
  obtain ⟨x, rfl⟩ : ∃ x : Nat, a = x := ⟨a.toNat, by omega⟩
  have E := Lib.hid (show tnV m x = tnL x ((m + 1) * x) ∧ tnOk m x = true from E)
  have hm8 : m ≤ 8 := by omega
  have hm8' : (m : Int) ≤ 8 := by omega
  have hx1 : 1 ≤ x := by omega
  have hx50 : x ≤ 50 := by omega
  have hx50' : (x : Int) ≤ 50 := by omega
  clear N hn ha ht hs
  go_enter Try.func25, Try.ntmps25
  go_wp2_with (first | (go_at_call_of 30 (Value.int .i64 (m : Int)); refine (CV.out _).mono ?_; rintro e w1 ⟨rfl, rfl⟩) | (go_at_call_of 30 (Value.int .i64 (x : Int)); refine (CA.out _).mono ?_; rintro e w2 ⟨rfl, rfl⟩))
  go_loopw [6, 7, 8] (fun v i _ wr => ∃ k : Nat, k ≤ m + 1 ∧ i = .int .i64 k ∧ OwnI wr w.heap.size v (tnL x (k * x)) ∧ Below w.heap.size w wr) (fun _ i _ _ => m + 1 - (intOf i).toNat)
  case atStart => exact ⟨0, by omega, rfl, by rw [Nat.zero_mul]; exact O1.out, B1.out⟩
  case round =>
    obtain ⟨k, hk, rfl, hown, hbel⟩ := hrel
    by_cases hlt : k < m + 1
    · have hki : (k : Int) ≤ (m : Int) := by omega
      have hkx : k * x ≤ 400 := Nat.le_trans (Nat.mul_le_mul (show k ≤ 8 by omega) hx50) (by decide)
      have OW := Lib.hid hown
      have BW := Lib.hid hbel
      clear hown hbel
      go_wp2_with fail
      obtain ⟨wo, hwo⟩ : ∃ X, X = wr := ⟨_, rfl⟩
      rw [← hwo] at OW BW ⊢
      clear hwo
      go_loopw [6, 8] (fun v j wr => ∃ l : Nat, l ≤ x ∧ j = .int .i64 l ∧ OwnI wr w.heap.size v (tnL x (k * x + l)) ∧ Below w.heap.size w wr) (fun _ j _ => x - (intOf j).toNat)
      case atStart => exact ⟨0, by omega, rfl, OW.out, BW.out⟩
      case round =>
        obtain ⟨l, hl, rfl, hown, hbel⟩ := hrel
        by_cases hlt2 : l < x
        · have hli : (l : Int) < (x : Int) := by omega
          have HN := Lib.hid (tnL_succ (k := k) hlt2)
          obtain ⟨r, hr⟩ : ∃ r, r = k * x + l := ⟨_, rfl⟩
          have hr5 : r ≤ 450 := by omega
          have hor := hown
          unfold OwnI at hor
          rw [tnL_length, ← hr] at hor
          have HR := Lib.hid hr
          have B0 := Lib.hid hbel
          have hsz := hbel.size
          clear hr hown hbel
          go_wp2_with (at_builtin; refine wpList_append_own _ rfl _ _ 23 rfl w.heap.size 3 i0 (.int .i64 0) 1 8 Try.underlying23 hi hz0 hz1 hz2 rfl (by decide) _ _ _ rfl (hor.alloc _) ⟨wr.heap.size, 0, none⟩ 1 1 [.int .i64 k] rfl rfl ?c1 ?c2 ?c3 ?c4 ?c5 ?_)
          case c1 => exact cell_one_new _ _ _
          case c2 => intro u hu; simp at hu; subst hu; rfl
          case c3 => simp only [maxLen]; omega
          case c4 => omega
          case c5 => simp; omega
          intro v' w2 hown' hgrow _
          have HB := Lib.hid ((B0.out.alloc (by omega) _).grown hgrow (by simp; omega) (fun g hg => (World.ownsRow.lt hor g hg).1))
          have HO := Lib.hid (show OwnI w2 w.heap.size v' (tnL x (k * x + (l + 1))) by
            unfold OwnI
            rw [← HN.out, List.length_append, List.map_append, tnL_length, ← HR.out]
            exact hown')
          clear hown' hgrow hor
          go_wp2_with fail
          go_roundw
          case rel => exact ⟨l + 1, by omega, by go_num, HO.out, HB.out⟩
          case measure => simp [intOf]; omega
        · obtain rfl : l = x := by omega
          have O := Lib.hid (show OwnI wr w.heap.size _ (tnL l ((k + 1) * l)) by rw [Nat.succ_mul]; exact hown)
          have BR := Lib.hid hbel
          clear hown hbel
          go_wp2_with fail
          go_roundw
          case rel => exact ⟨k + 1, by omega, by go_num, O.out, BR.out⟩
          case measure => simp [intOf]; omega
    · obtain rfl : k = m + 1 := by omega
      have O := Lib.hid hown
      have BR := Lib.hid hbel
      clear hown hbel
      go_wp2_with fail
      go_ret2
      exact ⟨_, by rw [E.out.2]; rfl, by rw [E.out.1]; exact O.out, BR.out⟩

end Go.Proofs.Ytmdkfhbkdeoahaa
