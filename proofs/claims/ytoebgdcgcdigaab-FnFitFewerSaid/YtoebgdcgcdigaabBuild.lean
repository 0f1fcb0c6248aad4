/-
  A path that a call builds, section by section. For paths of less than 1048576 sections.
-/
import Derived.Test.YtoebgdcgcdigaabPathL
import Derived.Maps.AppendAt
import Derived.Deep.DeepCutAuto
namespace Go.Proofs.Ytoebgdcgcdigaab
open Go.RowKit Go.Sort

theorem own_slice3 {w : World} {base E : Nat} {v : Value} {n : Nat} {ys : List Value} (h : w.ownsRow base E 1 v n ys) : ∃ a c, v = .slice a n c := by
  rcases h.2 with ⟨rfl, h0⟩ | ⟨g, cap, cur, rfl, _⟩
  · exact ⟨none, 0, by rw [h0]⟩
  · exact ⟨_, _, rfl⟩

/-- In block b a path is being built; all that it consists of is the call's own, from block B on. -/
def Building (w : World) (B b : Nat) (p : List Int × List Int) : Prop :=
  ∃ u1 u2, Pair w b u1 u2 32 ∧ B ≤ b ∧ OwnI w B u1 p.1 ∧ OwnI w B u2 p.2 ∧ (u1.ownBlock = none ∨ u1.ownBlock ≠ u2.ownBlock) ∧ (u2.ownBlock = none ∨ u2.ownBlock ≠ u1.ownBlock) ∧ u1.ownBlock ≠ some b ∧ u2.ownBlock ≠ some b
theorem Building.below {w w' : World} {B b : Nat} {p : List Int × List Int} (h : Building w B b p) (hb : Below w.heap.size w w') : Building w' B b p := by
  obtain ⟨u1, u2, h1, h2, h3, h4, h5⟩ := h
  exact ⟨u1, u2, h1.below hb, h2, h3.below hb, h4.below hb, h5⟩
theorem Building.lt {w : World} {B b : Nat} {p : List Int × List Int} (h : Building w B b p) : B ≤ b ∧ b < w.heap.size := by
  obtain ⟨u1, u2, h1, h2, _⟩ := h
  exact ⟨h2, h1.lt⟩

theorem OwnI.under2 {w : World} {base : Nat} {v : Value} {xs : List Int} (h : OwnI w base v xs) : ∀ b, v.ownBlock = some b → b < w.heap.size := fun b e => (World.ownsRow.lt h b e).2
theorem OwnI.under3 {w : World} {base : Nat} {v : Value} {xs : List Int} (h : OwnI w base v xs) : ∀ b, v.ownBlock = some b → base ≤ b := fun b e => (World.ownsRow.lt h b e).1
theorem grown_setCell (w : World) (a : Addr) (u : Value) : w.grownBy (w.setCell a u) (some a.block) :=
  ⟨rfl, rfl, rfl, by rw [Go.Deep.nblk_setCell]; exact Nat.le_refl _, fun k _ hk => Go.Deep.blk_setCell_other _ _ _ _ (fun e => hk (by rw [e]))⟩
theorem OwnI.setApart {w : World} {base : Nat} {v : Value} {xs : List Int} (h : OwnI w base v xs) {a : Addr} (hn : v.ownBlock ≠ some a.block) (u : Value) : OwnI (w.setCell a u) base v xs := h.kept (grown_setCell w a u) (.inr hn)

/-- A path stored into the result's cells. -/
theorem stored_pair {w : World} {b : Nat} {x y x' y' : Value} {t : TypeId} (h : Pair w b x y t) : Pair ((w.setCell ⟨b, 0, none⟩ x').setCell ⟨b, 1, none⟩ y') b x' y' t := (h.set0 x').set1 y'

/-- The In of one section more. -/
theorem Building.in1 {w w1 w2 : World} {B b : Nat} {p : List Int × List Int} {u1 u2 v : Value} {x : Int} {o : Obj} (h1 : Pair w b u1 u2 32) (hB : B ≤ b) (_o1 : OwnI w B u1 p.1) (o2 : OwnI w B u2 p.2)
    (a2 : u2.ownBlock = none ∨ u2.ownBlock ≠ u1.ownBlock) (n1 : u1.ownBlock ≠ some b) (n2 : u2.ownBlock ≠ some b)
    (e1 : w1 = w.alloc o) (ho : OwnI w2 B v (p.1 ++ [x])) (hg : w1.grownBy w2 u1.ownBlock) (hn : v.ownBlock = u1.ownBlock ∨ ∀ c, v.ownBlock = some c → w1.heap.size ≤ c) :
    Building (w2.setCell ⟨b, 0, none⟩ v) B b (p.1 ++ [x], p.2) := by
  have hsz : w1.heap.size = w.heap.size + 1 := by rw [e1]; exact Go.Deep.nblk_alloc _ _
  have hp1 : Pair w1 b u1 u2 32 := by rw [e1]; exact h1.alloc _
  have hbl : Below w.heap.size w w1 := by rw [e1]; exact below_alloc _ _
  have hp2 : Pair w2 b u1 u2 32 := hp1.of (hg.block b hp1.lt (fun e => n1 e.symm))
  have h2 : OwnI w2 B u2 p.2 := (o2.below hbl).kept hg a2
  have vn : v.ownBlock ≠ some b := by
    rcases hn with e | e
    · rw [e]; exact n1
    · intro q; have := e b q; have := hp1.lt; omega
  have l2 := o2.under2
  have va : v.ownBlock = none ∨ v.ownBlock ≠ u2.ownBlock := by
    rcases hn with e | e
    · rw [e]
      cases q : u1.ownBlock with
      | none => exact .inl rfl
      | some c => exact .inr (fun r => by rcases a2 with s | s; (rw [s] at r; cases r); (exact s (r.symm.trans q.symm)))
    · cases q : v.ownBlock with
      | none => exact .inl rfl
      | some c => exact .inr (fun r => by have := e c q; have := l2 c r.symm; omega)
  have va' : u2.ownBlock = none ∨ u2.ownBlock ≠ v.ownBlock := by
    rcases va with e | e
    · cases q : u2.ownBlock with
      | none => exact .inl rfl
      | some c => rw [e]; exact .inr (by simp)
    · exact .inr (fun r => e r.symm)
  exact ⟨v, u2, hp2.set0 v, hB, ho.setApart vn v, h2.setApart n2 v, va, va', vn, n2⟩

/-- The Out of one section more. -/
theorem Building.in2 {w w1 w2 : World} {B b : Nat} {p : List Int × List Int} {u1 u2 v : Value} {x : Int} {o : Obj} (h1 : Pair w b u1 u2 32) (hB : B ≤ b) (o1 : OwnI w B u1 p.1) (_o2 : OwnI w B u2 p.2)
    (a1 : u1.ownBlock = none ∨ u1.ownBlock ≠ u2.ownBlock) (n1 : u1.ownBlock ≠ some b) (n2 : u2.ownBlock ≠ some b)
    (e1 : w1 = w.alloc o) (ho : OwnI w2 B v (p.2 ++ [x])) (hg : w1.grownBy w2 u2.ownBlock) (hn : v.ownBlock = u2.ownBlock ∨ ∀ c, v.ownBlock = some c → w1.heap.size ≤ c) :
    Building (w2.setCell ⟨b, 1, none⟩ v) B b (p.1, p.2 ++ [x]) := by
  have hsz : w1.heap.size = w.heap.size + 1 := by rw [e1]; exact Go.Deep.nblk_alloc _ _
  have hp1 : Pair w1 b u1 u2 32 := by rw [e1]; exact h1.alloc _
  have hbl : Below w.heap.size w w1 := by rw [e1]; exact below_alloc _ _
  have hp2 : Pair w2 b u1 u2 32 := hp1.of (hg.block b hp1.lt (fun e => n2 e.symm))
  have h2 : OwnI w2 B u1 p.1 := (o1.below hbl).kept hg a1
  have vn : v.ownBlock ≠ some b := by
    rcases hn with e | e
    · rw [e]; exact n2
    · intro q; have := e b q; have := hp1.lt; omega
  have l2 := o1.under2
  have va : v.ownBlock = none ∨ v.ownBlock ≠ u1.ownBlock := by
    rcases hn with e | e
    · rw [e]
      cases q : u2.ownBlock with
      | none => exact .inl rfl
      | some c =>
        refine .inr (fun r => ?_)
        rcases a1 with s | s
        · rw [s] at r; cases r
        · exact s (r.symm.trans q.symm)
    · cases q : v.ownBlock with
      | none => exact .inl rfl
      | some c => exact .inr (fun r => by have := e c q; have := l2 c r.symm; omega)
  have va' : u1.ownBlock = none ∨ u1.ownBlock ≠ v.ownBlock := by
    rcases va with e | e
    · cases q : u1.ownBlock with
      | none => exact .inl rfl
      | some c => rw [e]; exact .inr (by simp)
    · exact .inr (fun r => e r.symm)
  exact ⟨u1, v, hp2.set1 v, hB, h2.setApart n1 v, ho.setApart vn v, va', va, n1, vn⟩

set_option maxHeartbeats 2000000 in
theorem enter {w : World} {B b : Nat} {p : List Int × List Int} {x r y : Int} (h : Building w B b p) (hy : IntKind.i64.wrap (x + r) = y) (l1 : p.1.length < 1048576) (l2 : p.2.length < 1048576) :
    Calls Try.prog 45 #[.pointer (some ⟨b, 0, none⟩), .int .i64 x, .int .i64 r] w fun e w' => e = .returned (.tuple #[]) ∧ Building w' B b (p.1 ++ [x], p.2 ++ [y]) ∧ Below B w w' := by
  obtain ⟨u1, u2, hp, hB, o1, o2, a1, a2, n1, n2⟩ := h
  have hlt := hp.lt
  obtain ⟨i0, hi, hz0, hz1, hz2⟩ := info_parts info_int
  have c0 := hp.cell0
  have f0 := hp.frozen 0
  have HP := Lib.hid hp
  have hown := o1
  unfold OwnI at hown
  obtain ⟨m1, hm1⟩ : ∃ m, m = p.1.length := ⟨_, rfl⟩
  rw [← hm1] at hown l1
  obtain ⟨av, cv, rfl⟩ := own_slice3 hown
  have hsz : B ≤ w.heap.size := by omega
  have O1 := Lib.hid o1
  have O2 := Lib.hid o2
  have AA := Lib.hid (And.intro a1 a2)
  have NN := Lib.hid (And.intro n1 n2)
  have HM := Lib.hid hm1
  have hy' : wrap64 (x + r) = y := (IntWalk.i64_left _).symm.trans hy
  clear hp o1 o2 a1 a2 n1 n2 hm1
  go_enter Try.func45, Try.ntmps45
  go_wp2_with (at_builtin; refine wpList_append_own_at _ rfl _ _ 27 rfl B 3 i0 (.int .i64 0) 1 8 Try.underlying27 hi hz0 hz1 hz2 rfl (by decide) _ _ _ rfl (hown.alloc _) ⟨w.heap.size, 0, none⟩ 1 1 [.int .i64 x] rfl rfl ?c1 ?c2 ?c3 ?c4 ?c5 ?_)
  case c1 => exact cell_one_new _ _ _
  case c2 => intro u hu; simp at hu; subst hu; rfl
  case c3 => simp only [maxLen]; omega
  case c4 => omega
  case c5 => simp; omega
  intro v' w2 hown' hgrow _ hat
  have ho' : OwnI w2 B v' (p.1 ++ [x]) := by
    unfold OwnI
    rw [List.length_append, List.map_append, ← HM.out]
    exact hown'
  have hp2 := (HP.out.alloc (.cells #[.int .i64 x] 3)).of (hgrow.block b (HP.out.alloc (.cells #[.int .i64 x] 3)).lt (fun e => NN.out.1 e.symm))
  have hB3 : Building (w2.setCell ⟨b, 0, none⟩ v') B b (p.1 ++ [x], p.2) := Building.in1 HP.out hB O1.out O2.out AA.out.2 NN.out.1 NN.out.2 rfl ho' hgrow (hat.imp_right (fun e c q => by rw [e] at q; cases q; exact Nat.le_of_eq (Go.Deep.nblk_alloc _ _)))
  have hW : Below B w (w2.setCell ⟨b, 0, none⟩ v') := (((Below.refl B w).alloc hsz (.cells #[.int .i64 x] 3)).grown hgrow (by rw [Go.Deep.nblk_alloc]; omega) (fun g hg => (hown.lt g hg).1)).setCell hB v'
  obtain ⟨av', cv', rfl⟩ := own_slice3 hown'
  have c1 := hp2.cell0
  have f1 := hp2.frozen 0
  obtain ⟨w3, h3⟩ : ∃ X, X = w2.setCell ⟨b, 0, none⟩ (.slice av' (m1 + 1) cv') := ⟨_, rfl⟩
  rw [← h3] at hB3 hW
  have H3 := Lib.hid h3.symm
  have HW := Lib.hid hW
  clear h3 hW hp2 ho' hown' hgrow hat hown O1 O2 AA NN HP c0 f0
  go_upto_region 1 with fail
  rw [H3.out]
  clear c1 f1
  obtain ⟨u1', u2', hp, -, o1, o2, a1, a2, n1, n2⟩ := hB3
  have hlt := hp.lt
  have c0 := hp.cell1
  have f0 := hp.frozen 1
  have HP := Lib.hid hp
  have hown := o2
  unfold OwnI at hown
  obtain ⟨m2, hm2⟩ : ∃ m, m = p.2.length := ⟨_, rfl⟩
  rw [← hm2] at hown l2
  obtain ⟨av2, cv2, rfl⟩ := own_slice3 hown
  have hsz3 : B ≤ w3.heap.size := by omega
  have O1 := Lib.hid o1
  have O2 := Lib.hid o2
  have AA := Lib.hid (And.intro a1 a2)
  have NN := Lib.hid (And.intro n1 n2)
  have HM2 := Lib.hid hm2
  clear hp o1 o2 a1 a2 n1 n2 hm2
  go_wp2_with (at_builtin; refine wpList_append_own_at _ rfl _ _ 27 rfl B 3 i0 (.int .i64 0) 1 8 Try.underlying27 hi hz0 hz1 hz2 rfl (by decide) _ _ _ rfl (hown.alloc _) ⟨w3.heap.size, 0, none⟩ 1 1 [.int .i64 y] rfl rfl ?d1 ?d2 ?d3 ?d4 ?d5 ?_)
  case d2 => rfl
  case d3 => simp only [maxLen]; omega
  case d4 => omega
  case d5 => omega
  intro v' w4 hown' hgrow _ hat
  have ho' : OwnI w4 B v' (p.2 ++ [y]) := by
    unfold OwnI
    rw [List.length_append, List.map_append, ← HM2.out]
    exact hown'
  have hp2 := (HP.out.alloc (.cells #[.int .i64 y] 3)).of (hgrow.block b (HP.out.alloc (.cells #[.int .i64 y] 3)).lt (fun e => NN.out.2 e.symm))
  have hB4 : Building (w4.setCell ⟨b, 1, none⟩ v') B b (p.1 ++ [x], p.2 ++ [y]) := Building.in2 (p := (p.1 ++ [x], p.2)) HP.out hB O1.out O2.out AA.out.1 NN.out.1 NN.out.2 rfl ho' hgrow (hat.imp_right (fun e c q => by rw [e] at q; cases q; exact Nat.le_of_eq (Go.Deep.nblk_alloc _ _)))
  have hW : Below B w (w4.setCell ⟨b, 1, none⟩ v') := ((HW.out.alloc hsz3 (.cells #[.int .i64 y] 3)).grown hgrow (by rw [Go.Deep.nblk_alloc]; omega) (fun g hg => (hown.lt g hg).1)).setCell hB v'
  obtain ⟨av3, cv3, rfl⟩ := own_slice3 hown'
  have c1 := hp2.cell1
  have f1 := hp2.frozen 1
  have HB4 := Lib.hid hB4
  have HW4 := Lib.hid hW
  clear hW hB4 hp2 ho' hown' hgrow hat hown O1 O2 AA NN HP c0 f0
  go_wp2_with fail
  go_end0
  exact ⟨rfl, HB4.out, HW4.out⟩

end Go.Proofs.Ytoebgdcgcdigaab
