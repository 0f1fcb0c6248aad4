/-
  Is a text an order of a line's trains: the model's and the program's; one number more behind a list of the call's own. For texts of at most 1048576 bytes.
-/
import Derived.Test.YtlcmkocbpnekhaaSgA
import Derived.Test.YtlcmkocbpnekhaaShelf
import Derived.Test.YtlcmkocbpnekhaaTokQ
import Derived.Lib.JoinLaws
import Derived.ArgAppend
namespace Go.Proofs.Ytlcmkocbpnekhaa
open Go.RowKit Go.Sort

/-! ### Counts, plainly -/

def cntF (x : Int) (f : Nat → Int) : Nat → Nat
  | 0 => 0
  | k + 1 => cntF x f k + (if f k = x then 1 else 0)
theorem cntF_front (x : Int) (f : Nat → Int) (k : Nat) : cntF x f (k + 1) = (if f 0 = x then 1 else 0) + cntF x (fun i => f (i + 1)) k := by
  induction k with
  | zero => simp [cntF]
  | succ k ih =>
    have e : cntF x f (k + 1 + 1) = cntF x f (k + 1) + (if f (k + 1) = x then 1 else 0) := rfl
    have e2 : cntF x (fun i => f (i + 1)) (k + 1) = cntF x (fun i => f (i + 1)) k + (if f (k + 1) = x then 1 else 0) := rfl
    rw [e, ih, e2]; omega
theorem cntF_list (c : UInt8) : ∀ (l : List UInt8) (f : Nat → Int), (∀ i, i < l.length → f i = ((l[i]?.getD 0).toNat : Int)) → cntF (c.toNat : Int) f l.length = l.count c
  | [], _, _ => rfl
  | a :: l, f, hf => by
    have ih := cntF_list c l (fun i => f (i + 1)) (fun i hi => by
      have := hf (i + 1) (by simp; omega)
      simpa using this)
    rw [List.length_cons, cntF_front, ih, List.count_cons]
    have h0 := hf 0 (by simp)
    simp only [List.getElem?_cons_zero, Option.getD_some] at h0
    rw [h0]
    by_cases e : a = c
    · subst e; simp; omega
    · have : ¬ ((a.toNat : Int) = (c.toNat : Int)) := fun q => e (UInt8.toNat_inj.1 (by omega))
      simp [e, this]
theorem count_is (S : ByteArray) (c : UInt8) : Lib.countByte S.data.toList c = cntF (c.toNat : Int) (bt S) S.size := by
  rw [size_list]
  refine (cntF_list c _ _ fun i hi => ?_).symm
  obtain ⟨b, hb, q⟩ := bt_at (S := S) (k := i) (by rw [size_list]; exact hi)
  rw [q, hb]; rfl
theorem cntF_up (S : ByteArray) (k : Nat) : cntF 85 (bt S) k = upTo S k := by
  induction k with
  | zero => rfl
  | succ k ih => simp only [cntF, upTo, ih]
/-- How many of the first k trains come from B. -/
def dnTo (S : ByteArray) (k : Nat) : Nat := cntF 68 (bt S) k
theorem up_dn_le (S : ByteArray) (k : Nat) : upTo S k + dnTo S k ≤ k := by
  induction k with
  | zero => exact Nat.le_refl _
  | succ k ih =>
    unfold dnTo at ih ⊢
    simp only [upTo, cntF]
    by_cases h1 : bt S k = 85
    · rw [if_pos h1, if_neg (by rw [h1]; decide)]; omega
    · rw [if_neg h1]; split <;> omega
theorem up_dn_all {S : ByteArray} {k : Nat} (h : upTo S k + dnTo S k = k) : ∀ j, j < k → bt S j = 85 ∨ bt S j = 68 := by
  induction k with
  | zero => intro j hj; omega
  | succ k ih =>
    have hle := up_dn_le S k
    unfold dnTo at h ih hle
    simp only [upTo, cntF] at h
    intro j hj
    by_cases h1 : bt S k = 85
    · rw [if_pos h1, if_neg (by rw [h1]; decide)] at h
      by_cases e : j = k
      · subst e; exact .inl h1
      · exact ih (by omega) j (by omega)
    · rw [if_neg h1] at h
      by_cases h2 : bt S k = 68
      · rw [if_pos h2] at h
        by_cases e : j = k
        · subst e; exact .inr h2
        · exact ih (by omega) j (by omega)
      · rw [if_neg h2] at h; omega
theorem up_dn_only {S : ByteArray} {k : Nat} (h : ∀ j, j < k → bt S j = 85 ∨ bt S j = 68) : upTo S k + dnTo S k = k := by
  induction k with
  | zero => rfl
  | succ k ih =>
    have := ih (fun j hj => h j (by omega))
    unfold dnTo at this ⊢
    simp only [upTo, cntF]
    rcases h k (by omega) with e | e
    · rw [if_pos e, if_neg (by rw [e]; decide)]; omega
    · rw [if_neg (by rw [e]; decide), if_pos e]; omega
/-- As the program asks it. -/
theorem ordB_counts (u d : Nat) (S : ByteArray) : ordB u d S = (decide (((upTo S S.size : Nat) : Int) = (u : Int)) && (decide (((dnTo S S.size : Nat) : Int) = (d : Int)) && decide (((upTo S S.size : Nat) : Int) + ((dnTo S S.size : Nat) : Int) = (S.size : Int)))) := by
  by_cases h : ordB u d S = true
  · have o := ordB_of h
    have q := up_dn_only o.only
    have q1 := o.ups
    have q2 := o.size
    rw [h, decide_eq_true (by omega), decide_eq_true (by omega), decide_eq_true (by omega)]; rfl
  · have hf : ordB u d S = false := by simpa using h
    rw [hf]
    by_cases h1 : ((upTo S S.size : Nat) : Int) = (u : Int)
    · by_cases h2 : ((dnTo S S.size : Nat) : Int) = (d : Int)
      · by_cases h3 : ((upTo S S.size : Nat) : Int) + ((dnTo S S.size : Nat) : Int) = (S.size : Int)
        · exact absurd (ordB_yes ⟨up_dn_all (by omega), by omega, by omega⟩) h
        · rw [decide_eq_false h3, Bool.and_false, Bool.and_false]
      · rw [decide_eq_false h2, Bool.false_and, Bool.and_false]
    · rw [decide_eq_false h1, Bool.false_and]
/-- As the model asks it. -/
theorem ordB_dir {u d : Nat} {S : ByteArray} (hu : u ≤ 6) (hd : d ≤ 6) : ordB u d S = (dirB S && (decide (((upTo S S.size : Nat) : Int) = (u : Int)) && decide ((S.size : Int) = (u : Int) + (d : Int)))) := by
  unfold ordB dirB
  by_cases h1 : upTo S S.size = u
  · by_cases h2 : S.size = u + d
    · rw [decide_eq_true (p := S.size ≤ 30) (by omega), decide_eq_true ⟨h1, h2⟩, decide_eq_true (p := ((upTo S S.size : Nat) : Int) = (u : Int)) (by omega), decide_eq_true (p := (S.size : Int) = (u : Int) + (d : Int)) (by omega)]
      simp
    · rw [decide_eq_false (p := upTo S S.size = u ∧ S.size = u + d) (fun q => h2 q.2), decide_eq_false (p := (S.size : Int) = (u : Int) + (d : Int)) (by omega)]
      simp
  · rw [decide_eq_false (p := upTo S S.size = u ∧ S.size = u + d) (fun q => h1 q.1), decide_eq_false (p := ((upTo S S.size : Nat) : Int) = (u : Int)) (by omega)]
    simp

/-! ### One number more -/

theorem add_one_own {w0 w' : World} {base : Nat} {v : Value} {xs : List Int} (hv : OwnI w0 base v xs) {o : Obj} (g : (w0.alloc o).grownBy w' v.ownBlock) {n : Nat} {W : World} (h : Below n W w0) (hn : n ≤ base) (hb : base ≤ w0.heap.size) : Below n W w' :=
  (h.alloc (Nat.le_trans hn hb) o).grown g (by simp; omega) (fun k hk => Nat.le_trans hn (World.ownsRow.lt hv k hk).1)

theorem wpList_addI {ops : Array Oper} {rest : List Oper} {o : Oper} {a : Act} {w0 : World} {Q : Exit → Act → World → Prop} {x : Int} {base : Nat} {v : Value} {xs : List Int} (s y : Operand) (hgd : o.guard = none)
    (ho : o.op = .call { callee := .builtin .append, args := #[s, y], argTypes := #[23, 23] })
    (hs : a.eval s = v) (hy : a.eval y = .slice (some ⟨w0.heap.size, 0, none⟩) 1 1) (hv : OwnI w0 base v xs) (hl : xs.length ≤ 1048576) (hb : base ≤ w0.heap.size)
    (h : ∀ v' w', OwnI w' base v' (xs ++ [x]) → (∀ n W, Below n W w0 → n ≤ base → Below n W w') → wpList Try.prog ops Q rest (a.put o.dst v') w') :
    wpList Try.prog ops Q (o :: rest) a (w0.alloc (.cells #[.int .i64 x] 3)) := by
  obtain ⟨i0, hi, hz0, hz1, hz2⟩ := info_parts info_int
  refine wpList_append_own _ hgd s y 23 ho base 3 i0 (.int .i64 0) 1 8 Try.underlying23 hi hz0 hz1 hz2 rfl (by decide) v xs.length (xs.map (Value.int .i64)) hs (hv.alloc _) ⟨w0.heap.size, 0, none⟩ 1 1 [.int .i64 x] hy rfl ?c1 ?c2 ?c3 ?c4 ?c5 ?_
  case c1 =>
    intro j u hu
    have hj : j = 0 := by
      rcases Nat.eq_zero_or_pos j with e | e
      · exact e
      · rw [List.getElem?_eq_none (by simp; omega)] at hu; cases hu
    subst hj
    simp only [List.getElem?_cons_zero, Option.some.injEq] at hu
    subst hu
    have hn : (w0.alloc (.cells #[.int .i64 x] 3)).heap[w0.heap.size]? = some (.cells #[.int .i64 x] 3 (0, 0)) := Go.Deep.blk_alloc_new _ _
    simp only [Addr.add_lit, World.cell?, hn]
    rfl
  case c2 => intro u hu; simp at hu; subst hu; rfl
  case c3 => simp only [maxLen]; omega
  case c4 => omega
  case c5 => simp; omega
  intro v' w' hown' hgrow _
  refine h v' w' ?_ (fun n W hb' hn => add_one_own hv hgrow hb' hn hb)
  unfold OwnI
  rw [List.length_append, List.map_append]
  exact hown'

theorem make_room (n : Nat) (hn : n ≤ 1048576) : ∀ w : World, (Instr.makeSlice 23 (.int .i64 0) (.int .i64 (n : Int))).run Try.prog w = .ok (.slice (some ⟨w.heap.size, 0, none⟩) 0 n) (w.alloc (.cells (madeCells #[.int .i64 0] n) 3)) :=
  fun w => run_make_room (P := Try.prog) 23 3 (.int .i64 0) 8 Try.underlying23 info_int rfl .i64 .i64 n (by omega) (by omega) w
theorem room_own (n : Nat) (hn : n ≤ 1048576) (w : World) : OwnI (w.alloc (.cells (madeCells #[.int .i64 0] n) 3)) w.heap.size (.slice (some ⟨w.heap.size, 0, none⟩) 0 n) [] := by
  refine ⟨rfl, .inr ⟨_, n, _, rfl, Nat.le_refl _, Go.Deep.blk_alloc_new _ _, Nat.zero_le _, by simp only [maxLen]; omega, ?_, by simp⟩⟩
  simp [madeCells]

end Go.Proofs.Ytlcmkocbpnekhaa
