/-
  Texts of U and D with ap and bp in their places, by the table. For texts of at most 30 bytes.
-/
import Derived.Test.YthjodagbgmpbhaaGreatDoorBsA
import Derived.Lib.Bytealg
import Derived.Lib.Walk
import Derived.Laws.CopyRow
import Derived.Deep.OwnRows
import Derived.BigQuiet
namespace Go.Proofs.YthjodagbgmpbhaaGreatDoor
open Go.RowKit

/-- The trains' events. -/
def tt (b : UInt8) : List UInt8 := if b = 85 then [97, 112] else [98, 112]
def ttTo (S : ByteArray) (k : Nat) : ByteArray := ⟨((S.data.toList.take k).flatMap tt).toArray⟩
theorem tt_len (b : UInt8) : (tt b).length = 2 := by unfold tt; split <;> rfl
theorem ttTo_size {S : ByteArray} {k : Nat} (h : k ≤ S.size) : (ttTo S k).size = 2 * k := by
  show ((S.data.toList.take k).flatMap tt).toArray.size = 2 * k
  rw [List.size_toArray]
  have key : ∀ l : List UInt8, (l.flatMap tt).length = 2 * l.length := by
    intro l
    induction l with
    | nil => rfl
    | cons b l ih => rw [List.flatMap_cons, List.length_append, tt_len, ih, List.length_cons]; omega
  rw [key, List.length_take, ← size_list]
  omega
theorem ttTo_succ {S : ByteArray} {k : Nat} (h : k < S.size) {x : UInt8} (hx : bt S k = (x.toNat : Int)) : ttTo S (k + 1) = ttTo S k ++ ⟨(tt x).toArray⟩ := by
  obtain ⟨b, hb, e⟩ := bt_at h
  have hbx : b = x := UInt8.toNat_inj.1 (by omega)
  subst hbx
  unfold ttTo
  rw [List.take_add_one, hb]
  apply ByteArray.ext
  simp
theorem bt_app_l {A B : ByteArray} {k : Nat} (h : k < A.size) : bt (A ++ B) k = bt A k := by
  have e (S : ByteArray) (k : Nat) : bt S k = ((S.data.toList[k]?.getD 0).toNat : Int) := by have := bt_list S.data.toList k; simpa using this
  rw [e, e, ByteArray.data_append, Array.toList_append, List.getElem?_append_left (by rw [← size_list]; exact h)]
theorem bt_app_r {A B : ByteArray} (i : Nat) : bt (A ++ B) (A.size + i) = bt B i := by
  have e (S : ByteArray) (k : Nat) : bt S k = ((S.data.toList[k]?.getD 0).toNat : Int) := by have := bt_list S.data.toList k; simpa using this
  rw [e, e, ByteArray.data_append, Array.toList_append, List.getElem?_append_right (by rw [← size_list]; exact Nat.le_add_right _ _), ← size_list, Nat.add_sub_cancel_left]
/-- What is right up to a letter stays right. -/
theorem ttTo_le {S : ByteArray} : ∀ (n k i : Nat), n ≤ S.size → k ≤ n → i < 2 * k → bt (ttTo S n) i = bt (ttTo S k) i
  | 0, k, i, hn, hk, hi => by omega
  | n + 1, k, i, hn, hk, hi => by
    by_cases e : k = n + 1
    · rw [e]
    · obtain ⟨b, hb, eb⟩ := bt_at (show n < S.size by omega)
      have hs := ttTo_size (S := S) (k := n) (by omega)
      rw [ttTo_succ (by omega) eb, bt_app_l (by rw [hs]; omega)]
      exact ttTo_le n k i (by omega) (by omega) hi
theorem tt_at {S : ByteArray} {k : Nat} (h : k < S.size) {x : UInt8} (hx : bt S k = (x.toNat : Int)) (i : Nat) (hi : i < 2) : bt (ttTo S S.size) (2 * k + i) = bt ⟨(tt x).toArray⟩ i := by
  have hs := ttTo_size (S := S) (k := k) (by omega)
  rw [ttTo_le S.size (k + 1) _ (Nat.le_refl _) (by omega) (by omega), ttTo_succ h hx, ← hs, bt_app_r]

/-- Both letters, counted. -/
theorem count_both : ∀ (l : List UInt8), (∀ b ∈ l, b = 85 ∨ b = 68) → l.count 68 + l.count 85 = l.length
  | [], _ => rfl
  | b :: l, h => by
    have ih := count_both l fun c hc => h c (List.mem_cons_of_mem _ hc)
    rcases h b (List.mem_cons_self ..) with rfl | rfl
    · rw [List.count_cons_self, List.count_cons_of_ne (by decide), List.length_cons]; omega
    · rw [List.count_cons_self, List.count_cons_of_ne (by decide), List.length_cons]; omega
theorem count_UD {S : ByteArray} (h : ∀ j, j < S.size → bt S j = 85 ∨ bt S j = 68) : S.data.toList.count 68 + S.data.toList.count 85 = S.size := by
  rw [size_list]
  refine count_both _ fun b hb => ?_
  obtain ⟨k, hk, e⟩ := bt_mem hb
  rcases h k hk with q | q
  · exact .inl (UInt8.toNat_inj.1 (by show b.toNat = 85; omega))
  · exact .inr (UInt8.toNat_inj.1 (by show b.toNat = 68; omega))

set_option maxRecDepth 100000 in
set_option maxHeartbeats 1000000 in
theorem strCountU (S : ByteArray) (w : World) :
    Calls Tryz.prog 38 #[.string S, .string ⟨#[85]⟩] w fun e w' => e = .returned (.int .i64 (S.data.toList.count 85 : Nat)) ∧ w' = w := by
  have x85 := byte_85
  go_enter Tryz.func38, Tryz.ntmps38
  go_wp2_with fail
  rw [run_callFunc_extern Tryz.func50 (by kernel_rfl) (by kernel_rfl) (by kernel_rfl) (e := Extern.BytealgCount.count) (by kernel_rfl), Lib.run_countString]
  simp only [Result.andThen]
  rw [Oper.upon_value]
  go_wp2_with fail
  go_ret
  exact ⟨rfl, rfl⟩

set_option maxRecDepth 100000 in
set_option maxHeartbeats 1000000 in
theorem strCountD (S : ByteArray) (w : World) :
    Calls Tryz.prog 38 #[.string S, .string ⟨#[68]⟩] w fun e w' => e = .returned (.int .i64 (S.data.toList.count 68 : Nat)) ∧ w' = w := by
  have x68 := byte_68
  go_enter Tryz.func38, Tryz.ntmps38
  go_wp2_with fail
  rw [run_callFunc_extern Tryz.func50 (by kernel_rfl) (by kernel_rfl) (by kernel_rfl) (e := Extern.BytealgCount.count) (by kernel_rfl), Lib.run_countString]
  simp only [Result.andThen]
  rw [Oper.upon_value]
  go_wp2_with fail
  go_ret
  exact ⟨rfl, rfl⟩

/-- A row of bytes that was made. -/
def R8 (w : World) (b m : Nat) (f : Nat → Int) : Prop := ∃ C : Array Value, w.heap[b]? = some (.cells C 5 (0, 0)) ∧ C.size = m ∧ ∀ i, i < m → C[i]? = some (.int .u8 (f i))

theorem neq_nil (a : Option Addr) (l c : Nat) (w : World) : (binOp .neq 22 (.slice a l c) (.slice none 0 0)).run Tryz.prog w = .ok (.bool (!a.isNone)) w := by
  simp [binOp, run_equal_slice_nil w 22 5 a l c Tryz.underlying22]

section
variable {w w' : World} {b m : Nat} {f : Nat → Int}
theorem R8.lt (h : R8 w b m f) : b < w.heap.size := by obtain ⟨C, h, _⟩ := h; exact (Array.getElem?_eq_some_iff.1 h).1
theorem R8.of (h : R8 w b m f) (e : w'.heap[b]? = w.heap[b]?) : R8 w' b m f := by
  obtain ⟨C, h, r⟩ := h
  exact ⟨C, e.trans h, r⟩
theorem R8.congr (h : R8 w b m f) {f' : Nat → Int} (e : ∀ i, i < m → f' i = f i) : R8 w b m f' := by
  obtain ⟨C, h, hs, hc⟩ := h
  exact ⟨C, h, hs, fun i hi => by rw [e i hi]; exact hc i hi⟩
theorem R8.bytes {s : ByteArray} (h : R8 w b s.size f) (e : ∀ i, i < s.size → f i = bt s i) : Lib.Bytes w b 0 s := by
  intro i hi
  obtain ⟨C, h, hs, hc⟩ := h
  have hcell : w.cell? ⟨b, i, none⟩ = some (.int .u8 (f i)) := by
    simp only [World.cell?, h]
    exact hc i hi
  rw [Nat.zero_add, hcell, e i hi, bt_get hi]
end
theorem R8.new (w : World) (m : Nat) : R8 (w.alloc (.cells (madeCells #[.int .u8 0] m) 5)) w.heap.size m (fun _ => 0) := by
  have e : madeCells #[.int .u8 0] m = Array.replicate m (.int .u8 0) := by
    unfold madeCells
    apply Array.ext
    · simp
    · intro i h1 h2
      simp [Nat.mod_one]
  rw [e]
  exact ⟨_, Go.Deep.blk_alloc_new _ _, by simp, fun i hi => by simp [hi]⟩
theorem below_setRow {n b : Nat} {w w' : World} (h : Below n w w') (hb : n ≤ b) (C : Array Value) : Below n w (w'.setRow b C) := by
  refine ⟨h.os, h.tape, h.output, by simpa [World.setRow] using h.size, fun i hi => ?_⟩
  rw [← h.block i hi]
  simp only [World.setRow, Array.getElem?_modify]
  rw [if_neg (by omega)]
theorem copy_two {w : World} {b m p L j : Nat} {f fs : Nat → Int} (h : R8 w b m f) (hp : Buf w p 2 fs) (hj : j + 2 ≤ m) (ty : TypeId) : ∃ C : Array Value,
    (Builtin.copy_ #[22, 22] ty #[.slice (some ⟨b, j, none⟩) (m - j) (m - j), .slice (some ⟨p, 0, none⟩) 2 L]).run Tryz.prog w = .ok (.int .i64 2) (w.setRow b C) ∧
    ∀ f' : Nat → Int, (∀ i, i < m → f' i = if i < j then f i else if i < j + 2 then fs (i - j) else f i) → R8 (w.setRow b C) b m f' := by
  obtain ⟨C, hC, hs, hc⟩ := h
  have c0 := hp.cell (i := 0) (by omega)
  have c1 := hp.cell (i := 1) (by omega)
  have hr := run_copy_row (P := Tryz.prog) w 22 22 ty 5 b j (m - j) (m - j) ⟨p, 0, none⟩ 2 L C 5 [.int .u8 (fs 0), .int .u8 (fs 1)] Tryz.underlying22 (by kernel_rfl) hC (show 2 = Nat.min 2 (m - j) from (Nat.min_eq_left (by omega)).symm)
    (by
      intro i v hv
      have hi : i < 2 := (List.getElem?_eq_some_iff.1 hv).1
      have hadd : (⟨p, 0, none⟩ : Addr).add i = ⟨p, i, none⟩ := by unfold Addr.add; split <;> simp_all
      rw [hadd]
      match i, hi with
      | 0, _ => cases hv; exact c0
      | 1, _ => cases hv; exact c1) (by rw [hs]; exact hj) (by
      intro v hv
      simp only [List.mem_cons, List.not_mem_nil, or_false] at hv
      rcases hv with rfl | rfl <;> rfl)
  refine ⟨_, hr, fun f' hf => ?_⟩
  have hl : C.toList.length = m := by rw [Array.length_toList, hs]
  refine ⟨_, setRow_heap w b C _ 5 (0, 0) hC, ?_, fun i hi => ?_⟩
  · simp only [List.size_toArray, List.length_append, List.length_take, List.length_drop, hl, List.length_cons, List.length_nil]
    omega
  · rw [hf i hi, List.getElem?_toArray]
    have ci := hc i hi
    rw [← Array.getElem?_toList] at ci
    by_cases h1 : i < j
    · rw [if_pos h1, List.append_assoc, List.getElem?_append_left (by rw [List.length_take, hl]; omega), List.getElem?_take, if_pos h1]
      exact ci
    · rw [if_neg h1, List.append_assoc, List.getElem?_append_right (by rw [List.length_take, hl]; omega), List.length_take, hl, Nat.min_eq_left (by omega)]
      by_cases h2 : i < j + 2
      · rw [if_pos h2, List.getElem?_append_left (by simp only [List.length_cons, List.length_nil]; omega)]
        have h3 : i - j = 0 ∨ i - j = 1 := by omega
        rcases h3 with h3 | h3 <;> rw [h3] <;> rfl
      · rw [if_neg h2, List.getElem?_append_right (by simp only [List.length_cons, List.length_nil]; omega), List.getElem?_drop]
        simp only [List.length_cons, List.length_nil]
        rw [show j + (0 + 1 + 1) + (i - j - (0 + 1 + 1)) = i by omega]
        exact ci

theorem mix_two {S : ByteArray} {k : Nat} (h : k < S.size) {x : UInt8} (hx : bt S k = (x.toNat : Int)) {A : ByteArray} (hA : (⟨(tt x).toArray⟩ : ByteArray) = A) (i : Nat) :
    (if i < 2 * (k + 1) then bt (ttTo S S.size) i else 0) = if i < 2 * k then (if i < 2 * k then bt (ttTo S S.size) i else 0) else if i < 2 * k + 2 then bt A (i - 2 * k) else (if i < 2 * k then bt (ttTo S S.size) i else 0) := by
  by_cases h1 : i < 2 * k
  · rw [if_pos (by omega), if_pos h1, if_pos h1]
  · rw [if_neg h1, if_neg h1]
    by_cases h2 : i < 2 * k + 2
    · rw [if_pos (by omega), if_pos h2, ← hA, ← tt_at h hx (i - 2 * k) (by omega), show 2 * k + (i - 2 * k) = i by omega]
    · rw [if_neg (by omega), if_neg h2]

theorem size_byte (w : World) : (sizeOf 5).run Tryz.prog w = .ok 1 w := by kernel_rfl

theorem elem_bytes : Tryz.prog.elem 22 = 5 := by kernel_rfl

theorem slice_tail {b m j : Nat} (hj : j < m) (w : World) : (Instr.slice 22 (.slice (some ⟨b, 0, none⟩) m m) (some (.int .i64 (j : Int))) none none).run Tryz.prog w = .ok (.slice (some ⟨b, j, none⟩) (m - j) (m - j)) w := by
  have hu := Tryz.underlying22
  rw [run_slice_l (P := Tryz.prog) w 22 (some ⟨b, 0, none⟩) m m (by rw [elem_bytes]; exact hu) .i64 j (by omega) (by omega), elem_bytes, size_byte]
  have hne : ¬ m = j := by omega
  have hadd : (⟨b, 0, none⟩ : Addr).add j = ⟨b, j, none⟩ := by unfold Addr.add; split <;> simp_all
  simp [sliced, hne, hadd]

set_option maxRecDepth 100000 in
set_option maxHeartbeats 4000000 in
theorem bs_replace (g q K p L g2 k2 : Nat) (S : ByteArray) (hS : S.size ≤ 30) (hd : ∀ j, j < S.size → bt S j = 85 ∨ bt S j = 68) (w : World) (ht : BS w g (fU q K p L) (.slice (some ⟨g2, 0, none⟩) 2 k2)) (hl : Pairs w g2 [⟨#[68]⟩, ⟨#[85]⟩]) (hq : Buf w q 2 (bt ⟨#[98, 112]⟩)) (hp : Buf w p 2 (bt ⟨#[97, 112]⟩)) :
    Calls Tryz.prog 140 #[.pointer (some ⟨g, 0, none⟩), .string S] w fun e w' => e = .returned (.string (ttTo S S.size)) ∧ Below w.heap.size w w' := by
  have hg := ht.lt
  have hSI : (S.size : Int) ≤ 30 := by omega
  have NQ := neq_nil
  have cl := ht.list
  have c85 := ht.cell (i := 85) (by omega)
  have c68 := ht.cell (i := 68) (by omega)
  rw [show fU q K p L 85 = .slice (some ⟨p, 0, none⟩) 2 L from rfl] at c85
  rw [show fU q K p L 68 = .slice (some ⟨q, 0, none⟩) 2 K from rfl] at c68
  have HD := Lib.hid hd
  have HT := Lib.hid ht
  have HL := Lib.hid hl
  have HQ := Lib.hid hq
  have HP := Lib.hid hp
  clear hd ht hl hq hp
  go_enter Tryz.func140, Tryz.ntmps140
  go_upto_region 3 with fail
  go_cut [26] (fun v wx => v = .bool (decide ((16 : Int) ≤ S.size)) ∧ w = wx)
  case first =>
    go_wp2_with fail
    go_meet
    exact ⟨rfl, rfl⟩
  case rest =>
  obtain ⟨rfl, rfl⟩ := hcut
  rename_i K1 hK1
  refine hK1 _ _ ?_
  clear hK1
  go_cut [5, 6] (fun s a wx => s = .int .i64 ((S.size : Int) + S.size) ∧ a = .bool (decide (0 < S.size)) ∧ Below w.heap.size w wx)
  case first =>
    by_cases h16 : (16 : Int) ≤ (S.size : Int)
    · have l0 := HL.out 0 _ rfl
      have l1 := HL.out 1 _ rfl
      have x68 := byte_68
      have x85 := byte_85
      have CU := Lib.hid (fun w => strCountU S w)
      have CD := Lib.hid (fun w => strCountD S w)
      have hs := count_UD HD.out
      obtain ⟨cD, hcD⟩ : ∃ c, c = S.data.toList.count 68 := ⟨_, rfl⟩
      obtain ⟨cU, hcU⟩ : ∃ c, c = S.data.toList.count 85 := ⟨_, rfl⟩
      rw [← hcD] at CD hs
      rw [← hcU] at CU hs
      clear hcD hcU
      have FIN := Lib.hid (fun (a b : Nat) (h : a + b = S.size) => (show ((S.size : Int) + a + b) = (S.size : Int) + S.size by omega))
      have hd0 : 0 < S.size := by omega
      go_wp2_with fail
      refine wp_loop_rounds 3 ?_
      rw [rounds_succ]
      by_cases d0 : (cD : Int) = 0
      · obtain rfl : cD = 0 := by omega
        go_wp2_with (go_at_call 38; refine (CD.out _).mono ?_; rintro e w' ⟨rfl, rfl⟩)
        rw [rounds_succ]
        have u0 : ¬ (cU : Int) = 0 := by omega
        go_wp2_with (go_at_call 38; refine (CU.out _).mono ?_; rintro e w' ⟨rfl, rfl⟩)
        go_quiet (fail)
        go_wp2_with fail
        rw [rounds_succ]
        go_wp2_with fail
        go_meet
        exact ⟨congrArg (Value.int .i64) (by omega), by rw [decide_eq_true hd0], below_drewN (Below.refl _ _) _⟩
      · go_wp2_with (go_at_call 38; refine (CD.out _).mono ?_; rintro e w' ⟨rfl, rfl⟩)
        go_quiet (fail)
        go_wp2_with fail
        rw [rounds_succ]
        by_cases u0 : (cU : Int) = 0
        · obtain rfl : cU = 0 := by omega
          go_wp2_with (go_at_call 38; refine (CU.out _).mono ?_; rintro e w' ⟨rfl, rfl⟩)
          rw [rounds_succ]
          go_wp2_with fail
          go_meet
          exact ⟨congrArg (Value.int .i64) (by omega), by rw [decide_eq_true hd0], below_drewN (Below.refl _ _) _⟩
        · go_wp2_with (go_at_call 38; refine (CU.out _).mono ?_; rintro e w' ⟨rfl, rfl⟩)
          go_quiet (fail)
          go_wp2_with fail
          rw [rounds_succ]
          go_wp2_with fail
          go_meet
          exact ⟨congrArg (Value.int .i64) (by omega), by rw [decide_eq_true hd0], below_drewN (Below.refl _ _) _⟩
    · go_wp2_with fail
      go_loop [5, 6, 10] (fun s a i => ∃ k : Nat, k ≤ S.size ∧ i = .int .i64 k ∧ s = .int .i64 ((S.size : Int) + k) ∧ a = .bool (decide (0 < k))) (fun _ _ i => S.size - (intOf i).toNat)
      case atStart => exact ⟨0, by omega, rfl, by simp, rfl⟩
      case round =>
        obtain ⟨k, hk, rfl, rfl, rfl⟩ := hrel
        by_cases hlt : k < S.size
        · have hki : (k : Int) < (S.size : Int) := by omega
          have hix := index_is hlt
          have h2 := HD.out k hlt
          obtain ⟨x, hx⟩ : ∃ x, x = bt S k := ⟨_, rfl⟩
          rw [← hx] at hix h2
          clear hx
          rcases h2 with rfl | rfl
          · go_wp2_with fail
            go_round
            case rel => exact ⟨k + 1, by omega, by go_num, by go_num, by simp⟩
            case measure => simp [intOf]; omega
          · go_wp2_with fail
            go_round
            case rel => exact ⟨k + 1, by omega, by go_num, by go_num, by simp⟩
            case measure => simp [intOf]; omega
        · obtain rfl : k = S.size := by omega
          go_wp2_with fail
          go_meet
          exact ⟨rfl, rfl, below_self _⟩
  case rest =>
  obtain ⟨rfl, rfl, bx⟩ := hcut
  have T1 := Lib.hid (HT.out.below bx)
  have Q1 := Lib.hid (HQ.out.of' (bx.block _ HQ.out.lt))
  have P1 := Lib.hid (HP.out.of' (bx.block _ HP.out.lt))
  have BX := Lib.hid bx
  clear bx HT HQ HP HL cl c85 c68
  obtain ⟨m, hm⟩ : ∃ m : Nat, m = 2 * S.size := ⟨_, rfl⟩
  rw [show ((S.size : Int) + S.size) = (m : Int) by omega]
  by_cases h0 : S.size = 0
  · have E := Lib.hid (show S = ttTo S S.size by
      apply ByteArray.ext
      have : S.data.toList = [] := List.eq_nil_of_length_eq_zero (by rw [← size_list]; exact h0)
      unfold ttTo
      rw [this, List.take_nil]
      apply Array.toList_inj.1
      rw [this]
      rfl)
    have z0 : decide (0 < S.size) = false := decide_eq_false (by omega)
    rw [z0]
    clear h0 z0 hm
    go_wp2_with fail
    go_ret
    exact ⟨ret_str E.out, BX.out⟩
  · have z0 : decide (0 < S.size) = true := decide_eq_true (by omega)
    rw [z0]
    have hmI : (m : Int) ≤ 60 := by omega
    have hm1 : m ≤ 2 * S.size := by omega
    have hm2 : 2 * S.size ≤ m := by omega
    clear hm
    have MK := run_make_row' (P := Tryz.prog) 22 5 (.int .u8 0) 1 Tryz.underlying22 (by kernel_rfl) rfl .i64 .i64 m (by omega) (by omega)
    have RN := R8.new wc m
    have BN := below_alloc wc (.cells (madeCells #[.int .u8 0] m) 5)
    obtain ⟨W, hW⟩ : ∃ W, W = wc.alloc (.cells (madeCells #[.int .u8 0] m) 5) := ⟨_, rfl⟩
    rw [← hW] at RN BN
    have HW := Lib.hid hW.symm
    have RN := Lib.hid RN
    have BN := Lib.hid BN
    clear hW
    go_upto_region 24 with fail
    rw [HW.out]
    clear MK
    go_loopw [13, 14] (fun j i wr => ∃ k : Nat, k ≤ S.size ∧ i = .int .i64 k ∧ j = .int .i64 ((2 * k : Nat) : Int) ∧ R8 wr wc.heap.size m (fun i => if i < 2 * k then bt (ttTo S S.size) i else 0) ∧ Below wc.heap.size wc wr) (fun _ i _ => S.size - (intOf i).toNat)
    case atStart => exact ⟨0, by omega, rfl, rfl, RN.out.congr (fun i hi => by simp), BN.out⟩
    case round =>
      obtain ⟨k, hk, rfl, rfl, r8, hbel⟩ := hrel
      have T3 := T1.out.below hbel
      have c85 := T3.cell (i := 85) (by omega)
      have c68 := T3.cell (i := 68) (by omega)
      rw [show fU q K p L 85 = .slice (some ⟨p, 0, none⟩) 2 L from rfl] at c85
      rw [show fU q K p L 68 = .slice (some ⟨q, 0, none⟩) 2 K from rfl] at c68
      by_cases hlt : k < S.size
      · have hki : (k : Int) < (S.size : Int) := by omega
        have hix := index_is hlt
        have h2 := HD.out k hlt
        have st := slice_tail (b := wc.heap.size) (m := m) (j := 2 * k) (by omega)
        have MX := Lib.hid (fun (x : UInt8) (hx : bt S k = (x.toNat : Int)) (A : ByteArray) (hA : (⟨(tt x).toArray⟩ : ByteArray) = A) => mix_two hlt hx hA)
        obtain ⟨x, hx⟩ : ∃ x, x = bt S k := ⟨_, rfl⟩
        rw [← hx] at hix h2 MX
        clear hx
        rcases h2 with rfl | rfl
        · obtain ⟨C, hcp, hf⟩ := copy_two (w := wr.drew) (L := L) (f := fun i => if i < 2 * k then bt (ttTo S S.size) i else 0) (show R8 wr.drew _ _ _ from r8) (show Buf wr.drew p 2 _ from P1.out.of' (hbel.block _ P1.out.lt)) (j := 2 * k) (by omega) 3
          have R4 := Lib.hid (hf (fun i => if i < 2 * (k + 1) then bt (ttTo S S.size) i else 0) (fun i hi => MX.out 85 rfl _ rfl i))
          have B4 := Lib.hid (below_setRow hbel.drew (Nat.le_refl _) C)
          clear hf r8 hbel MX T3
          go_upto_region 28 with fail
          go_region
          all_goals
            go_wp2_with fail
            go_roundw
            case rel => exact ⟨k + 1, by omega, by go_num, by go_num, R4.out, B4.out⟩
            case measure => simp [intOf]; omega
        · obtain ⟨C, hcp, hf⟩ := copy_two (w := wr.drew) (L := K) (f := fun i => if i < 2 * k then bt (ttTo S S.size) i else 0) (show R8 wr.drew _ _ _ from r8) (show Buf wr.drew q 2 _ from Q1.out.of' (hbel.block _ Q1.out.lt)) (j := 2 * k) (by omega) 3
          have R4 := Lib.hid (hf (fun i => if i < 2 * (k + 1) then bt (ttTo S S.size) i else 0) (fun i hi => MX.out 68 rfl _ rfl i))
          have B4 := Lib.hid (below_setRow hbel.drew (Nat.le_refl _) C)
          clear hf r8 hbel MX T3
          go_upto_region 28 with fail
          go_region
          all_goals
            go_wp2_with fail
            go_roundw
            case rel => exact ⟨k + 1, by omega, by go_num, by go_num, R4.out, B4.out⟩
            case measure => simp [intOf]; omega
      · obtain rfl : k = S.size := by omega
        have hm : m = 2 * S.size := by omega
        rw [← hm] at r8
        have hts := ttTo_size (S := S) (k := S.size) (Nat.le_refl _)
        have by' : Lib.Bytes wr wc.heap.size 0 (ttTo S S.size) := R8.bytes (s := ttTo S S.size) (by rw [hts, ← hm]; exact r8) (fun i hi => by
          rw [hts, ← hm] at hi
          rw [if_pos hi])
        have hcv := Lib.run_convert_whole (P := Tryz.prog) wr 22 5 9 Tryz.underlying22 Tryz.underlying5 Tryz.underlying9 wc.heap.size 0 (ttTo S S.size) by' m
        rw [hts, ← hm] at hcv
        have BF := Lib.hid (BX.out.trans (hbel.mono BX.out.size))
        clear by' r8 hbel T3 hts hm
        go_wp2_with fail
        go_ret
        exact ⟨rfl, BF.out⟩

end Go.Proofs.YthjodagbgmpbhaaGreatDoor
