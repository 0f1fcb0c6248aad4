/-
  Is a text an order of a line's trains: the model's and the program's; one number more behind a list of the call's own. For texts of at most 1048576 bytes.
-/
import Derived.Test.YtlcmkocbpnekhaaGreatDoorSgA
import Derived.Test.YtlcmkocbpnekhaaGreatDoorShelf
import Derived.Test.YtlcmkocbpnekhaaGreatDoorTokQ
import Derived.Lib.JoinLaws
import Derived.ArgAppend
import Derived.Test.YtlcmkocbpnekhaaGreatDoorKit
import Derived.WalkSpells
import Derived.Test.YtlcmkocbpnekhaaGreatDoorDirA
namespace Go.Proofs.YtlcmkocbpnekhaaGreatDoor
open Go.RowKit Go.Sort

/-! ### Counts, plainly -/

def cntF (x : Int) (f : Nat → Int) : Nat → Nat
  | 0 => 0
  | k + 1 => cntF x f k + (if f k = x then 1 else 0)
theorem cntF_front (x : Int) (f : Nat → Int) (k : Nat) : cntF x f (k + 1) = (if f 0 = x then 1 else 0) + cntF x (fun i => f (i + 1)) k := by
  induction k with
  | zero => simp [cntF]
  | succ k ih =>
    have e : cntF x f (k + 1 + 1) = cntF x f (k + 1) + (if f (k + 1) = x then 1 else 0) := rfl
    have e2 : cntF x (fun i => f (i + 1)) (k + 1) = cntF x (fun i => f (i + 1)) k + (if f (k + 1) = x then 1 else 0) := rfl
    rw [e, ih, e2]; omega
theorem cntF_list (c : UInt8) : ∀ (l : List UInt8) (f : Nat → Int), (∀ i, i < l.length → f i = ((l[i]?.getD 0).toNat : Int)) → cntF (c.toNat : Int) f l.length = l.count c
  | [], _, _ => rfl
  | a :: l, f, hf => by
    have ih := cntF_list c l (fun i => f (i + 1)) (fun i hi => by
      have := hf (i + 1) (by simp; omega)
      simpa using this)
    rw [List.length_cons, cntF_front, ih, List.count_cons]
    have h0 := hf 0 (by simp)
    simp only [List.getElem?_cons_zero, Option.getD_some] at h0
    rw [h0]
    by_cases e : a = c
    · subst e; simp; omega
    · have : ¬ ((a.toNat : Int) = (c.toNat : Int)) := fun q => e (UInt8.toNat_inj.1 (by omega))
      simp [e, this]
theorem count_is (S : ByteArray) (c : UInt8) : Lib.countByte S.data.toList c = cntF (c.toNat : Int) (bt S) S.size := by
  rw [size_list]
  refine (cntF_list c _ _ fun i hi => ?_).symm
  obtain ⟨b, hb, q⟩ := bt_at (S := S) (k := i) (by rw [size_list]; exact hi)
  rw [q, hb]; rfl
theorem cntF_up (S : ByteArray) (k : Nat) : cntF 85 (bt S) k = upTo S k := by
  induction k with
  | zero => rfl
  | succ k ih => simp only [cntF, upTo, ih]
/-- How many of the first k trains come from B. -/
def dnTo (S : ByteArray) (k : Nat) : Nat := cntF 68 (bt S) k
theorem up_dn_le (S : ByteArray) (k : Nat) : upTo S k + dnTo S k ≤ k := by
  induction k with
  | zero => exact Nat.le_refl _
  | succ k ih =>
    unfold dnTo at ih ⊢
    simp only [upTo, cntF]
    by_cases h1 : bt S k = 85
    · rw [if_pos h1, if_neg (by rw [h1]; decide)]; omega
    · rw [if_neg h1]; split <;> omega
theorem up_dn_all {S : ByteArray} {k : Nat} (h : upTo S k + dnTo S k = k) : ∀ j, j < k → bt S j = 85 ∨ bt S j = 68 := by
  induction k with
  | zero => intro j hj; omega
  | succ k ih =>
    have hle := up_dn_le S k
    unfold dnTo at h ih hle
    simp only [upTo, cntF] at h
    intro j hj
    by_cases h1 : bt S k = 85
    · rw [if_pos h1, if_neg (by rw [h1]; decide)] at h
      by_cases e : j = k
      · subst e; exact .inl h1
      · exact ih (by omega) j (by omega)
    · rw [if_neg h1] at h
      by_cases h2 : bt S k = 68
      · rw [if_pos h2] at h
        by_cases e : j = k
        · subst e; exact .inr h2
        · exact ih (by omega) j (by omega)
      · rw [if_neg h2] at h; omega
theorem up_dn_only {S : ByteArray} {k : Nat} (h : ∀ j, j < k → bt S j = 85 ∨ bt S j = 68) : upTo S k + dnTo S k = k := by
  induction k with
  | zero => rfl
  | succ k ih =>
    have := ih (fun j hj => h j (by omega))
    unfold dnTo at this ⊢
    simp only [upTo, cntF]
    rcases h k (by omega) with e | e
    · rw [if_pos e, if_neg (by rw [e]; decide)]; omega
    · rw [if_neg (by rw [e]; decide), if_pos e]; omega
/-- As the program asks it. -/
theorem ordB_counts (u d : Nat) (S : ByteArray) : ordB u d S = (decide (((upTo S S.size : Nat) : Int) = (u : Int)) && (decide (((dnTo S S.size : Nat) : Int) = (d : Int)) && decide (((upTo S S.size : Nat) : Int) + ((dnTo S S.size : Nat) : Int) = (S.size : Int)))) := by
  by_cases h : ordB u d S = true
  · have o := ordB_of h
    have q := up_dn_only o.only
    have q1 := o.ups
    have q2 := o.size
    rw [h, decide_eq_true (by omega), decide_eq_true (by omega), decide_eq_true (by omega)]; rfl
  · have hf : ordB u d S = false := by simpa using h
    rw [hf]
    by_cases h1 : ((upTo S S.size : Nat) : Int) = (u : Int)
    · by_cases h2 : ((dnTo S S.size : Nat) : Int) = (d : Int)
      · by_cases h3 : ((upTo S S.size : Nat) : Int) + ((dnTo S S.size : Nat) : Int) = (S.size : Int)
        · exact absurd (ordB_yes ⟨up_dn_all (by omega), by omega, by omega⟩) h
        · rw [decide_eq_false h3, Bool.and_false, Bool.and_false]
      · rw [decide_eq_false h2, Bool.false_and, Bool.and_false]
    · rw [decide_eq_false h1, Bool.false_and]
/-- As the model asks it. -/
theorem ordB_dir {u d : Nat} {S : ByteArray} (hu : u ≤ 6) (hd : d ≤ 6) : ordB u d S = (dirB S && (decide (((upTo S S.size : Nat) : Int) = (u : Int)) && decide ((S.size : Int) = (u : Int) + (d : Int)))) := by
  unfold ordB dirB
  by_cases h1 : upTo S S.size = u
  · by_cases h2 : S.size = u + d
    · rw [decide_eq_true (p := S.size ≤ 30) (by omega), decide_eq_true ⟨h1, h2⟩, decide_eq_true (p := ((upTo S S.size : Nat) : Int) = (u : Int)) (by omega), decide_eq_true (p := (S.size : Int) = (u : Int) + (d : Int)) (by omega)]
      simp
    · rw [decide_eq_false (p := upTo S S.size = u ∧ S.size = u + d) (fun q => h2 q.2), decide_eq_false (p := (S.size : Int) = (u : Int) + (d : Int)) (by omega)]
      simp
  · rw [decide_eq_false (p := upTo S S.size = u ∧ S.size = u + d) (fun q => h1 q.1), decide_eq_false (p := ((upTo S S.size : Nat) : Int) = (u : Int)) (by omega)]
    simp

/-! ### One number more -/

theorem add_one_own {w0 w' : World} {base : Nat} {v : Value} {xs : List Int} (hv : OwnI w0 base v xs) {o : Obj} (g : (w0.alloc o).grownBy w' v.ownBlock) {n : Nat} {W : World} (h : Below n W w0) (hn : n ≤ base) (hb : base ≤ w0.heap.size) : Below n W w' :=
  (h.alloc (Nat.le_trans hn hb) o).grown g (by simp; omega) (fun k hk => Nat.le_trans hn (World.ownsRow.lt hv k hk).1)

theorem wpList_addI {ops : Array Oper} {rest : List Oper} {o : Oper} {a : Act} {w0 : World} {Q : Exit → Act → World → Prop} {x : Int} {base : Nat} {v : Value} {xs : List Int} (s y : Operand) (hgd : o.guard = none)
    (ho : o.op = .call { callee := .builtin .append, args := #[s, y], argTypes := #[23, 23] })
    (hs : a.eval s = v) (hy : a.eval y = .slice (some ⟨w0.heap.size, 0, none⟩) 1 1) (hv : OwnI w0 base v xs) (hl : xs.length ≤ 1048576) (hb : base ≤ w0.heap.size)
    (h : ∀ v' w', OwnI w' base v' (xs ++ [x]) → (∀ n W, Below n W w0 → n ≤ base → Below n W w') → wpList Tryz.prog ops Q rest (a.put o.dst v') w') :
    wpList Tryz.prog ops Q (o :: rest) a (w0.alloc (.cells #[.int .i64 x] 3)) := by
  obtain ⟨i0, hi, hz0, hz1, hz2⟩ := info_parts info_int
  refine wpList_append_own _ hgd s y 23 ho base 3 i0 (.int .i64 0) 1 8 Tryz.underlying23 hi hz0 hz1 hz2 rfl (by decide) v xs.length (xs.map (Value.int .i64)) hs (hv.alloc _) ⟨w0.heap.size, 0, none⟩ 1 1 [.int .i64 x] hy rfl ?c1 ?c2 ?c3 ?c4 ?c5 ?_
  case c1 =>
    intro j u hu
    have hj : j = 0 := by
      rcases Nat.eq_zero_or_pos j with e | e
      · exact e
      · rw [List.getElem?_eq_none (by simp; omega)] at hu; cases hu
    subst hj
    simp only [List.getElem?_cons_zero, Option.some.injEq] at hu
    subst hu
    have hn : (w0.alloc (.cells #[.int .i64 x] 3)).heap[w0.heap.size]? = some (.cells #[.int .i64 x] 3 (0, 0)) := Go.Deep.blk_alloc_new _ _
    simp only [Addr.add_lit, World.cell?, hn]
    rfl
  case c2 => intro u hu; simp at hu; subst hu; rfl
  case c3 => simp only [maxLen]; omega
  case c4 => omega
  case c5 => simp; omega
  intro v' w' hown' hgrow _
  refine h v' w' ?_ (fun n W hb' hn => add_one_own hv hgrow hb' hn hb)
  unfold OwnI
  rw [List.length_append, List.map_append]
  exact hown'

theorem make_room (n : Nat) (hn : n ≤ 1048576) : ∀ w : World, (Instr.makeSlice 23 (.int .i64 0) (.int .i64 (n : Int))).run Tryz.prog w = .ok (.slice (some ⟨w.heap.size, 0, none⟩) 0 n) (w.alloc (.cells (madeCells #[.int .i64 0] n) 3)) :=
  fun w => run_make_room (P := Tryz.prog) 23 3 (.int .i64 0) 8 Tryz.underlying23 info_int rfl .i64 .i64 n (by omega) (by omega) w
theorem room_own (n : Nat) (hn : n ≤ 1048576) (w : World) : OwnI (w.alloc (.cells (madeCells #[.int .i64 0] n) 3)) w.heap.size (.slice (some ⟨w.heap.size, 0, none⟩) 0 n) [] := by
  refine ⟨rfl, .inr ⟨_, n, _, rfl, Nat.le_refl _, Go.Deep.blk_alloc_new _ _, Nat.zero_le _, by simp only [maxLen]; omega, ?_, by simp⟩⟩
  simp [madeCells]

end Go.Proofs.YtlcmkocbpnekhaaGreatDoor

/-
  Parts of a list of numbers that can be read. (CtrS holds the same: never together.)
-/
namespace Go.Proofs.YtlcmkocbpnekhaaGreatDoor
open Go.RowKit

/-! ### Parts of a list -/
theorem add_at (a o j : Nat) : (⟨a, o, none⟩ : Addr).add j = ⟨a, o + j, none⟩ := by
  unfold Addr.add
  split
  · next h => rw [h]; rfl
  · rfl
theorem elem_ints : Tryz.prog.elem 23 = 3 := by kernel_rfl
theorem size_ints (w : World) : (sizeOf 3).run Tryz.prog w = .ok 1 w := by kernel_rfl
/-- The first m of a list. -/
theorem part_head {a : Option Addr} {c : Nat} {xs : List Int} {m : Nat} (hm : m ≤ xs.length) (hc : xs.length ≤ c) :
    ∃ u, (∀ w : World, (Instr.slice 23 (.slice a xs.length c) none (some (.int .i64 m)) none).run Tryz.prog w = .ok u w) ∧ ∀ w, Ints w (.slice a xs.length c) xs → Ints w u (xs.take m) := by
  have hu := Tryz.underlying23
  refine ⟨sliced a 0 m c 1, fun w => ?_, fun w h => ?_⟩
  · rw [run_slice_h (P := Tryz.prog) w 23 a xs.length c (by rw [elem_ints]; exact hu) .i64 m (by omega) (by omega), elem_ints, size_ints]
    rfl
  · obtain ⟨a', c', e, ⟨h1, h2⟩, h3⟩ := h
    simp only [Value.slice.injEq, true_and] at e
    obtain ⟨rfl, rfl⟩ := e
    have hl : (xs.take m).length = m := by rw [List.length_take, Nat.min_eq_left hm]
    unfold sliced
    refine ⟨(if c = 0 then a else a.map (·.add (0 * 1))), c - 0, by rw [hl, Nat.sub_zero], ⟨by omega, by omega⟩, ?_⟩
    rcases h3 with rfl | ⟨b, o, rfl, hb, hcell⟩
    · exact .inl (by simp)
    · refine .inr ⟨b, o, ?_, hb, fun i hi => ?_⟩
      · split
        · rfl
        · simp [add_at]
      · rw [hcell i (by omega)]
        have : (xs.take m).getD i 0 = xs.getD i 0 := by simp [List.getD_eq_getElem?_getD, show i < m by omega]
        rw [this]
/-- What is left of a list. -/
theorem part_tail {a : Option Addr} {c : Nat} {xs : List Int} {m : Nat} (hm : m ≤ xs.length) (hc : xs.length ≤ c) :
    ∃ u, (∀ w : World, (Instr.slice 23 (.slice a xs.length c) (some (.int .i64 m)) none none).run Tryz.prog w = .ok u w) ∧ ∀ w, Ints w (.slice a xs.length c) xs → Ints w u (xs.drop m) := by
  have hu := Tryz.underlying23
  refine ⟨sliced a m xs.length c 1, fun w => ?_, fun w h => ?_⟩
  · rw [run_slice_l (P := Tryz.prog) w 23 a xs.length c (by rw [elem_ints]; exact hu) .i64 m (by omega) (by omega), elem_ints, size_ints]
    rfl
  · obtain ⟨a', c', e, ⟨h1, h2⟩, h3⟩ := h
    simp only [Value.slice.injEq, true_and] at e
    obtain ⟨rfl, rfl⟩ := e
    have hl : (xs.drop m).length = xs.length - m := List.length_drop
    unfold sliced
    refine ⟨(if c = m then a else a.map (·.add (m * 1))), c - m, by rw [hl], ⟨by omega, by omega⟩, ?_⟩
    rcases h3 with rfl | ⟨b, o, rfl, hb, hcell⟩
    · exact .inl (by simp)
    · by_cases e : m = xs.length
      · exact .inl (List.eq_nil_of_length_eq_zero (by omega))
      · refine .inr ⟨b, o + m, ?_, hb, fun i hi => ?_⟩
        · rw [if_neg (by omega)]
          simp [add_at]
        · rw [Nat.add_assoc, hcell (m + i) (by omega)]
          have : (xs.drop m).getD i 0 = xs.getD (m + i) 0 := by simp [List.getD_eq_getElem?_getD, List.getElem?_drop]
          rw [this]

end Go.Proofs.YtlcmkocbpnekhaaGreatDoor

/-
  Is a text an order of a line's trains; the ready times in an order; how long after the one ahead: the model's and the program's. For texts of at most 1048576 bytes.
-/
namespace Go.Proofs.YtlcmkocbpnekhaaGreatDoor
open Go.RowKit Go.Sort

theorem beq_dec (a b : Int) : (a == b) = decide (a = b) := by
  by_cases h : a = b
  · subst h; simp
  · simp [h]

theorem count_U (S : ByteArray) : Lib.countByte S.data.toList 85 = upTo S S.size := by
  have h := count_is S 85
  have e : (((85 : UInt8).toNat : Nat) : Int) = 85 := by decide
  rw [e] at h
  rw [h, cntF_up]
theorem count_D (S : ByteArray) : Lib.countByte S.data.toList 68 = dnTo S S.size := by
  have h := count_is S 68
  have e : (((68 : UInt8).toNat : Nat) : Int) = 68 := by decide
  rw [e] at h
  rw [h]; rfl

set_option maxHeartbeats 4000000 in
theorem implOrder {w : World} {v : Value} {s : Sg} {S : ByteArray} (h : SgV w v s) (hS : S.size ≤ 1048576) :
    Calls Tryz.prog 14 #[v, .string S] w fun e w' => e = .returned (.bool (ordB s.A.length s.B.length S)) ∧ Below w.heap.size w w' := by
  have FO := ordB_counts s.A.length s.B.length S
  have hle := up_dn_le S S.size
  obtain ⟨a, n, c, a', n', c', rfl, i1, i2⟩ := h.form
  have hn : n = s.A.length := by obtain ⟨_, _, e, _⟩ := i1; simp only [Value.slice.injEq] at e; exact e.2.1
  have hn' : n' = s.B.length := by obtain ⟨_, _, e, _⟩ := i2; simp only [Value.slice.injEq] at e; exact e.2.1
  obtain ⟨xs, ys, r, hd⟩ := s
  simp only at FO hn hn' ⊢
  rw [← hn, ← hn'] at FO
  rw [← hn, ← hn']
  have ea := below_alloc w (.cells #[.slice a n c, .slice a' n' c', .int .i64 r, .int .i64 hd] 25)
  have pa := Quad.new w (.slice a n c) (.slice a' n' c') (.int .i64 r) (.int .i64 hd) 25
  obtain ⟨W, hW⟩ : ∃ W, W = w.alloc (.cells #[.slice a n c, .slice a' n' c', .int .i64 r, .int .i64 hd] 25) := ⟨_, rfl⟩
  rw [← hW] at ea pa
  have C1 := Lib.hid (fun (X : World) => (Tryz.strings_Count_one S 85 X))
  have C2 := Lib.hid (fun (X : World) => (Tryz.strings_Count_one S 68 X))
  have k1 := count_U S
  have k2 := count_D S
  rw [k1] at C1
  rw [k2] at C2
  obtain ⟨up, hup⟩ : ∃ x, x = upTo S S.size := ⟨_, rfl⟩
  obtain ⟨dn, hdn⟩ : ∃ x, x = dnTo S S.size := ⟨_, rfl⟩
  rw [← hup] at C1 FO hle
  rw [← hdn] at C2 FO hle
  have hup' : (up : Int) ≤ 1048576 := by omega
  have hdn' : (dn : Int) ≤ 1048576 := by omega
  have hS' : (S.size : Int) ≤ 1048576 := by omega
  have hw1 : IntKind.i64.wrap ((up : Int) + (dn : Int)) = (up : Int) + (dn : Int) := IntWalk.i64_in _ (by omega)
  have hw2 : wrap64 ((up : Int) + (dn : Int)) = (up : Int) + (dn : Int) := by rw [← IntWalk.i64_left]; exact hw1
  obtain ⟨res, hres⟩ : ∃ res, res = ordB n n' S := ⟨_, rfl⟩
  rw [← hres] at FO ⊢
  rw [← beq_dec, ← beq_dec, ← beq_dec] at FO
  obtain ⟨t1, ht1⟩ : ∃ t, t = ((up : Int) == (n : Int)) := ⟨_, rfl⟩
  obtain ⟨t2, ht2⟩ : ∃ t, t = ((dn : Int) == (n' : Int)) := ⟨_, rfl⟩
  obtain ⟨t3, ht3⟩ : ∃ t, t = ((up : Int) + (dn : Int) == (S.size : Int)) := ⟨_, rfl⟩
  rw [← ht1, ← ht2, ← ht3] at FO
  have T1 := ht1.symm
  have T2 := ht2.symm
  have T3 := ht3.symm
  have p0 := pa.cell0
  have p1 := pa.cell1
  have HW := Lib.hid hW.symm
  have EA := Lib.hid ea
  have FO := Lib.hid FO
  clear ht1 ht2 ht3 hres hup hdn k1 k2 hle hn hn' h i1 i2 ea pa hW
  go_enter Tryz.func14, Tryz.ntmps14
  go_upto_region 1 with fail
  rw [HW.out]
  cases t1
  · have E := Lib.hid (show res = false by rw [FO.out]; simp)
    clear T2 T3
    go_wp2_with (first
      | (go_at_call_of 33 (Value.string ⟨#[85]⟩); refine (C1.out _).mono ?_; rintro e w2 ⟨rfl, rfl⟩)
      | (go_at_call_of 33 (Value.string ⟨#[68]⟩); refine (C2.out _).mono ?_; rintro e w2 ⟨rfl, rfl⟩))
    go_ret
    exact ⟨ret_bool E.out.symm, EA.out⟩
  cases t2
  · have E := Lib.hid (show res = false by rw [FO.out]; simp)
    clear T3
    go_wp2_with (first
      | (go_at_call_of 33 (Value.string ⟨#[85]⟩); refine (C1.out _).mono ?_; rintro e w2 ⟨rfl, rfl⟩)
      | (go_at_call_of 33 (Value.string ⟨#[68]⟩); refine (C2.out _).mono ?_; rintro e w2 ⟨rfl, rfl⟩))
    go_ret
    exact ⟨ret_bool E.out.symm, EA.out⟩
  have E := Lib.hid (show t3 = res by rw [FO.out]; simp)
  go_wp2_with (first
    | (go_at_call_of 33 (Value.string ⟨#[85]⟩); refine (C1.out _).mono ?_; rintro e w2 ⟨rfl, rfl⟩)
    | (go_at_call_of 33 (Value.string ⟨#[68]⟩); refine (C2.out _).mono ?_; rintro e w2 ⟨rfl, rfl⟩))
  go_ret
  exact ⟨ret_bool E.out, EA.out⟩

theorem index_at {S : ByteArray} {k : Nat} (h : k < S.size) : ∀ (w : World), (Instr.index 9 (.string S) (.int .i64 k)).run Tryz.prog w = .ok (.int .u8 (bt S k)) w := by
  intro w
  rw [run_index_string _ _ _ _ _ Tryz.underlying9, dif_pos ⟨by omega, by omega⟩, ← bt_get h]
  rfl

set_option maxHeartbeats 4000000 in
theorem specOrder {w : World} {v : Value} {s : Sg} {S : ByteArray} (h : SgV w v s) (hu : s.A.length ≤ 6) (hd : s.B.length ≤ 6) (hS : S.size ≤ 1048576) :
    Calls Tryz.prog 18 #[v, .string S] w fun e w' => e = .returned (.bool (ordB s.A.length s.B.length S)) ∧ Below w.heap.size w w' := by
  have FO := ordB_dir (S := S) hu hd
  have hle := upTo_le S S.size
  obtain ⟨a, n, c, a', n', c', rfl, i1, i2⟩ := h.form
  have hn : n = s.A.length := by obtain ⟨_, _, e, _⟩ := i1; simp only [Value.slice.injEq] at e; exact e.2.1
  have hn' : n' = s.B.length := by obtain ⟨_, _, e, _⟩ := i2; simp only [Value.slice.injEq] at e; exact e.2.1
  obtain ⟨xs, ys, r, hd2⟩ := s
  simp only at FO hn hn' hu hd ⊢
  rw [← hn, ← hn'] at FO
  rw [← hn] at hu
  rw [← hn'] at hd
  rw [← hn, ← hn']
  have ea := below_alloc w (.cells #[.slice a n c, .slice a' n' c', .int .i64 r, .int .i64 hd2] 25)
  have pa := Quad.new w (.slice a n c) (.slice a' n' c') (.int .i64 r) (.int .i64 hd2) 25
  obtain ⟨W, hW⟩ : ∃ W, W = w.alloc (.cells #[.slice a n c, .slice a' n' c', .int .i64 r, .int .i64 hd2] 25) := ⟨_, rfl⟩
  rw [← hW] at ea pa
  have DV := Lib.hid (fun (X : World) => specDirections S (by omega) X)
  obtain ⟨res, hres⟩ : ∃ res, res = ordB n n' S := ⟨_, rfl⟩
  rw [← hres] at FO ⊢
  obtain ⟨t0, ht0⟩ : ∃ t, t = dirB S := ⟨_, rfl⟩
  rw [← ht0] at FO DV
  rw [← beq_dec, ← beq_dec] at FO
  have CE := Lib.hid (fun (w1 : World) (b1 : Below W.heap.size W w1) => (pa.below b1))
  have HW := Lib.hid hW.symm
  have EA := Lib.hid ea
  have hS' : (S.size : Int) ≤ 1048576 := by omega
  have hu' : (n : Int) ≤ 6 := by omega
  have hd' : (n' : Int) ≤ 6 := by omega
  have HSZ := Lib.hid hS
  have FO := Lib.hid FO
  clear ht0 hres hle hn hn' h i1 i2 ea pa hW hS hu hd
  go_enter Tryz.func18, Tryz.ntmps18
  go_upto_region 1 with fail
  rw [HW.out]
  go_wp2_with fail
  go_loopw [5, 6] (fun u i wr => ∃ k : Nat, k ≤ S.size ∧ i = .int .i64 k ∧ u = .int .i64 (upTo S k : Nat) ∧ Below W.heap.size W wr) (fun _ i _ => S.size - (intOf i).toNat)
  case atStart => exact ⟨0, by omega, rfl, rfl, below_self _⟩
  case round =>
    obtain ⟨k, hk, rfl, rfl, hbel⟩ := hrel
    by_cases hlt : k < S.size
    · have hki : (k : Int) < (S.size : Int) := by omega
      have hix := index_at hlt
      have UU := Lib.hid (@upTo_U S k)
      have UD := Lib.hid (@upTo_D S k)
      have hup := upTo_le S k
      obtain ⟨m, hm⟩ : ∃ m, m = upTo S k := ⟨_, rfl⟩
      rw [← hm] at UU UD hup ⊢
      have hm' : (m : Int) ≤ 1048576 := by omega
      obtain ⟨x, hx⟩ : ∃ x, x = bt S k := ⟨_, rfl⟩
      rw [← hx] at hix UU UD
      clear hx hm hup
      by_cases h1 : x = 85
      · have E := Lib.hid (UU.out h1)
        subst h1
        go_wp2_with fail
        go_roundw
        case rel => exact ⟨k + 1, by omega, by go_num, by rw [E.out]; go_num, hbel⟩
        case measure => simp [intOf]; omega
      · have E := Lib.hid (UD.out h1)
        have t1 : (x == 85) = false := by simp [h1]
        clear h1
        go_wp2_with fail
        go_roundw
        case rel => exact ⟨k + 1, by omega, by go_num, by rw [E.out], hbel⟩
        case measure => simp [intOf]; omega
    · obtain rfl : k = S.size := by omega
      obtain ⟨m, hm⟩ : ∃ m, m = upTo S S.size := ⟨_, rfl⟩
      have FO := FO.out
      rw [← hm] at FO ⊢
      obtain ⟨t1, ht1⟩ : ∃ t, t = ((m : Int) == (n : Int)) := ⟨_, rfl⟩
      obtain ⟨t2, ht2⟩ : ∃ t, t = ((S.size : Int) == (n : Int) + (n' : Int)) := ⟨_, rfl⟩
      rw [← ht1, ← ht2] at FO
      have T1 := ht1.symm
      have T2 := ht2.symm
      have FO := Lib.hid FO
      have hw1 : IntKind.i64.wrap ((n : Int) + (n' : Int)) = (n : Int) + (n' : Int) := IntWalk.i64_in _ (by omega)
      have hw2 : wrap64 ((n : Int) + (n' : Int)) = (n : Int) + (n' : Int) := by rw [← IntWalk.i64_left]; exact hw1
      clear ht1 ht2 hm hlt hk
      cases t0
      · have E := Lib.hid (show res = false by rw [FO.out]; simp)
        go_wp2_with (go_at_call 37; refine (DV.out _).mono ?_; rintro e w2 ⟨rfl, b2⟩; have B2 := hbel.trans (b2.mono hbel.size); have c0 := (CE.out _ B2).cell0; have c1 := (CE.out _ B2).cell1)
        go_ret
        exact ⟨ret_bool E.out.symm, EA.out.trans (B2.mono EA.out.size)⟩
      cases t1
      · have E := Lib.hid (show res = false by rw [FO.out]; simp)
        go_wp2_with (go_at_call 37; refine (DV.out _).mono ?_; rintro e w2 ⟨rfl, b2⟩; have B2 := hbel.trans (b2.mono hbel.size); have c0 := (CE.out _ B2).cell0; have c1 := (CE.out _ B2).cell1)
        go_ret
        exact ⟨ret_bool E.out.symm, EA.out.trans (B2.mono EA.out.size)⟩
      have E := Lib.hid (show t2 = res by rw [FO.out]; simp)
      go_wp2_with (go_at_call 37; refine (DV.out _).mono ?_; rintro e w2 ⟨rfl, b2⟩; have B2 := hbel.trans (b2.mono hbel.size); have c0 := (CE.out _ B2).cell0; have c1 := (CE.out _ B2).cell1)
      go_ret
      exact ⟨ret_bool E.out, EA.out.trans (B2.mono EA.out.size)⟩

end Go.Proofs.YtlcmkocbpnekhaaGreatDoor
