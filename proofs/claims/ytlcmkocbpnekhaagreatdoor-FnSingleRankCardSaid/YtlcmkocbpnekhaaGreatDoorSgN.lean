/-
  All orders as a list: the model's l8All. (The own lists of strings are laid here anew: never together with StrO.)
-/
import Derived.Test.YtlcmkocbpnekhaaGreatDoorSgM
import Derived.Maps.AppendAt
namespace Go.Proofs.YtlcmkocbpnekhaaGreatDoor
open Go.RowKit Go.Sort

/-! ### Orders are orders -/
theorem put_list (b : UInt8) (o : ByteArray) : (⟨#[b]⟩ : ByteArray) ++ o = ⟨(b :: o.data.toList).toArray⟩ := by
  apply ByteArray.ext; apply Array.toList_inj.1; simp
theorem bt_put0 (b : UInt8) (o : ByteArray) : bt ((⟨#[b]⟩ : ByteArray) ++ o) 0 = (b.toNat : Int) := by
  rw [put_list, bt_list]; rfl
theorem bt_put (b : UInt8) (o : ByteArray) (k : Nat) : bt ((⟨#[b]⟩ : ByteArray) ++ o) (k + 1) = bt o k := by
  have e : o = ⟨o.data.toList.toArray⟩ := by apply ByteArray.ext; simp
  rw [put_list, bt_list]
  conv => rhs; rw [e, bt_list]
  rfl
theorem pre_size (b : UInt8) (o : ByteArray) : ((⟨#[b]⟩ : ByteArray) ++ o).size = o.size + 1 := by
  rw [ByteArray.size_append, Nat.add_comm]; rfl
theorem upTo_put (b : UInt8) (o : ByteArray) (k : Nat) : upTo ((⟨#[b]⟩ : ByteArray) ++ o) (k + 1) = (if (b.toNat : Int) = 85 then 1 else 0) + upTo o k := by
  induction k with
  | zero => simp only [upTo, bt_put0]; omega
  | succ k ih =>
    have e : ∀ S : ByteArray, ∀ j, upTo S (j + 1) = upTo S j + (if bt S j = 85 then 1 else 0) := fun _ _ => rfl
    rw [e, ih, e o, bt_put]; omega
theorem only_put {b : UInt8} {o : ByteArray} (hb : (b.toNat : Int) = 85 ∨ (b.toNat : Int) = 68) (h : ∀ j, j < o.size → bt o j = 85 ∨ bt o j = 68) : ∀ j, j < ((⟨#[b]⟩ : ByteArray) ++ o).size → bt ((⟨#[b]⟩ : ByteArray) ++ o) j = 85 ∨ bt ((⟨#[b]⟩ : ByteArray) ++ o) j = 68 := by
  intro j hj
  rw [pre_size] at hj
  cases j with
  | zero => rw [bt_put0]; exact hb
  | succ j => rw [bt_put]; exact h j (by omega)
theorem allF_ok (n : Nat) : ∀ u d, u + d = n → ∀ o ∈ allF n u d, OrdOk u d o := by
  induction n with
  | zero =>
    intro u d h o ho
    obtain rfl : u = 0 := by omega
    obtain rfl : d = 0 := by omega
    simp only [allF, List.mem_singleton] at ho
    subst ho
    exact ⟨fun j hj => absurd hj (Nat.not_lt_zero _), rfl, rfl⟩
  | succ n ih =>
    intro u d h o ho
    rw [allF, List.mem_append] at ho
    rcases ho with ho | ho
    · split at ho
      · rename_i hd
        obtain ⟨p, hp, rfl⟩ := List.mem_map.1 ho
        have q := ih u (d - 1) (by omega) p hp
        refine ⟨only_put (.inr rfl) q.only, ?_, ?_⟩
        · show upTo ((⟨#[68]⟩ : ByteArray) ++ p) ((⟨#[68]⟩ : ByteArray) ++ p).size = u
          rw [pre_size, upTo_put, q.ups]; simp
        · show ((⟨#[68]⟩ : ByteArray) ++ p).size = u + d
          rw [pre_size, q.size]; omega
      · cases ho
    · split at ho
      · rename_i hd
        obtain ⟨p, hp, rfl⟩ := List.mem_map.1 ho
        have q := ih (u - 1) d (by omega) p hp
        refine ⟨only_put (.inl rfl) q.only, ?_, ?_⟩
        · show upTo ((⟨#[85]⟩ : ByteArray) ++ p) ((⟨#[85]⟩ : ByteArray) ++ p).size = u
          rw [pre_size, upTo_put, q.ups]
          have : ((85 : UInt8).toNat : Int) = 85 := rfl
          rw [if_pos this]; omega
        · show ((⟨#[85]⟩ : ByteArray) ++ p).size = u + d
          rw [pre_size, q.size]; omega
      · cases ho
theorem ords_ok {s : Sg} (hs : sgB s = true) {o : ByteArray} (ho : o ∈ ords s) : sgO s o = true := sgO_yes hs (ordB_yes (allF_ok _ _ _ rfl o ho))
theorem ords_size {s : Sg} (hs : sgB s = true) {o : ByteArray} (ho : o ∈ ords s) : o.size ≤ 12 := sgO_size (ords_ok hs ho)
theorem allF_size {n u d : Nat} (h : u + d = n) {o : ByteArray} (ho : o ∈ allF n u d) : o.size = n := by rw [(allF_ok n u d h o ho).size, h]
theorem getD_in {l : List ByteArray} {k : Nat} (h : k < l.length) : l.getD k ⟨#[]⟩ ∈ l := by
  rw [List.getD_eq_getElem?_getD, List.getElem?_eq_getElem h]; exact List.getElem_mem h

/-! ### Own lists of strings -/
def OwnS (w : World) (base : Nat) (v : Value) (ss : List ByteArray) : Prop := w.ownsRow base 9 1 v ss.length (ss.map Value.string)
theorem OwnS.below {w w' : World} {base : Nat} {v : Value} {ss : List ByteArray} (h : OwnS w base v ss) (hb : Below w.heap.size w w') : OwnS w' base v ss :=
  World.ownsRow.kept h (below_grown hb) (by cases v.ownBlock <;> simp)
theorem OwnS.kept {w w' : World} {base : Nat} {v : Value} {ss : List ByteArray} (h : OwnS w base v ss) {row : Option Nat} (hg : w.grownBy w' row) (hne : v.ownBlock = none ∨ v.ownBlock ≠ row) : OwnS w' base v ss :=
  World.ownsRow.kept h hg hne
theorem ownS_empty (w : World) : OwnS (w.alloc (.cells #[] 9)) w.heap.size (.slice (some ⟨w.heap.size, 0, none⟩) 0 0) [] :=
  World.ownsRow_lit w #[] 0 (Nat.le_refl _) (by simp [maxLen]) rfl
theorem ownS_one (w : World) (s : ByteArray) : OwnS (w.alloc (.cells #[.string s] 9)) w.heap.size (.slice (some ⟨w.heap.size, 0, none⟩) 1 1) [s] :=
  World.ownsRow_lit w #[.string s] 1 (Nat.le_refl _) (by simp [maxLen]) rfl
theorem info_str : (Tryz.prog.info? 9).map (fun i => (i.zero, i.size, i.bytes)) = some (some (.string ⟨#[]⟩), 1, 16) := by kernel_rfl
theorem str_new (w : World) (s : ByteArray) : ∀ j u, [Value.string s][j]? = some u → (w.alloc (.cells #[.string s] 9)).cell? ((⟨w.heap.size, 0, none⟩ : Addr).add j) = some u := by
  have hn : (w.alloc (.cells #[.string s] 9)).heap[w.heap.size]? = some (.cells #[.string s] 9 (0, 0)) := Go.Deep.blk_alloc_new _ _
  intro j u hu
  cases j with
  | zero =>
    have e : (⟨w.heap.size, 0, none⟩ : Addr).add 0 = ⟨w.heap.size, 0, none⟩ := rfl
    rw [e]
    simp only [World.cell?, hn]
    simpa using hu
  | succ j => simp at hu
theorem OwnS.cells {w : World} {base : Nat} {v : Value} {ss : List ByteArray} (h : OwnS w base v ss) :
    ∃ a cap, v = .slice a ss.length cap ∧ ss.length ≤ cap ∧ (ss = [] ∨ ∃ g, a = some ⟨g, 0, none⟩ ∧ base ≤ g ∧ g < w.heap.size ∧ ∀ i, i < ss.length → w.cell? ⟨g, i, none⟩ = some (.string (ss.getD i ⟨#[]⟩))) := by
  rcases h.2 with ⟨rfl, h0⟩ | ⟨g, cap, cur, rfl, hb, hg, hnc, _⟩
  · have : ss = [] := List.eq_nil_of_length_eq_zero h0
    subst this
    exact ⟨none, 0, rfl, Nat.le_refl _, .inl rfl⟩
  · refine ⟨_, cap, rfl, by omega, .inr ⟨g, rfl, hb, (Array.getElem?_eq_some_iff.1 hg).1, fun i hi => ?_⟩⟩
    have := World.ownsRow.cellAt h i (by simpa using hi)
    rw [this]
    simp [hi]
theorem OwnS.shape {w : World} {base : Nat} {v : Value} {ss : List ByteArray} (h : OwnS w base v ss) : ∃ a n c, v = .slice a n c := by
  obtain ⟨a, c, e, -⟩ := h.cells
  exact ⟨a, _, c, e⟩
/-- One owned list lies apart from a later one. -/
theorem apart_new {w w' : World} {b b' : Nat} {v R : Value} {xs ys : List ByteArray} (h : OwnS w b v xs) (hR : OwnS w' b' R ys) (hb : w.heap.size ≤ b') : R.ownBlock = none ∨ R.ownBlock ≠ v.ownBlock := by
  cases e : R.ownBlock with
  | none => exact .inl rfl
  | some g =>
    refine .inr fun q => ?_
    have h1 := World.ownsRow.lt hR g e
    have h2 := World.ownsRow.lt h g q.symm
    omega
theorem wpList_addS {ops : Array Oper} {rest : List Oper} {o : Oper} {a : Act} {w0 : World} {Q : Exit → Act → World → Prop} {x : ByteArray} {base b2 : Nat} {v R : Value} {xs rs : List ByteArray} (s y : Operand) (hgd : o.guard = none)
    (ho : o.op = .call { callee := .builtin .append, args := #[s, y], argTypes := #[60, 60] })
    (hs : a.eval s = v) (hy : a.eval y = .slice (some ⟨w0.heap.size, 0, none⟩) 1 1) (hv : OwnS w0 base v xs) (hR : OwnS w0 b2 R rs) (hap : R.ownBlock = none ∨ R.ownBlock ≠ v.ownBlock) (hl : xs.length ≤ 1048576) (hb : base ≤ w0.heap.size)
    (h : ∀ v' w', OwnS w' base v' (xs ++ [x]) → OwnS w' b2 R rs → (R.ownBlock = none ∨ R.ownBlock ≠ v'.ownBlock) → (∀ n W, Below n W w0 → n ≤ base → Below n W w') → wpList Tryz.prog ops Q rest (a.put o.dst v') w') :
    wpList Tryz.prog ops Q (o :: rest) a (w0.alloc (.cells #[.string x] 9)) := by
  obtain ⟨i0, hi, hz0, hz1, hz2⟩ := info_parts info_str
  refine wpList_append_own_at _ hgd s y 60 ho base 9 i0 (.string ⟨#[]⟩) 1 16 Tryz.underlying60 hi hz0 hz1 hz2 rfl (by decide) v xs.length (xs.map Value.string) hs (World.ownsRow.kept hv (below_grown (below_alloc _ _)) (by cases v.ownBlock <;> simp)) ⟨w0.heap.size, 0, none⟩ 1 1 [.string x] hy rfl (str_new _ _) ?c2 ?c3 ?c4 ?c5 ?_
  case c2 => intro u hu; simp at hu; subst hu; rfl
  case c3 => simp only [maxLen]; omega
  case c4 => omega
  case c5 => simp; omega
  intro v' w' hown' hgrow _ hat
  refine h v' w' ?_ ((hR.below (below_alloc _ _)).kept hgrow hap) ?_ (fun n W hW hn => (hW.alloc (Nat.le_trans hn hb) _).grown hgrow (by simp; omega) (fun g hg => Nat.le_trans hn (World.ownsRow.lt hv g hg).1))
  · unfold OwnS
    rw [List.length_append, List.map_append]
    exact hown'
  · rw [Go.Deep.nblk_alloc] at hat
    rcases hap with q | q
    · exact .inl q
    · rcases hat with e | e
      · exact .inr (by rw [e]; exact q)
      · refine .inr (fun z => ?_)
        rw [e] at z
        have := (World.ownsRow.lt hR _ z).2
        omega
def MadeStrs (w : World) (ss : List ByteArray) (e : Ending) (w' : World) : Prop := ∃ v, e = .returned v ∧ OwnS w' w.heap.size v ss ∧ Below w.heap.size w w'
theorem take_next' (l : List ByteArray) {k : Nat} (h : k < l.length) : l.take (k + 1) = l.take k ++ [l.getD k ⟨#[]⟩] := by
  rw [List.take_add_one]; simp [h]

end Go.Proofs.YtlcmkocbpnekhaaGreatDoor
