/-
  Drawn lines handed back. For codes of at most 1048576 bytes.
-/
import Derived.Test.YtpofkfcjnhoamaaDrawL
import Derived.Test.YtpofkfcjnhoamaaGoods3
import Derived.Test.YtpofkfcjnhoamaaLineS
namespace Go.Proofs.Ytpofkfcjnhoamaa
open Go.RowKit Go.Sort

theorem IsRowK.below {k : IntKind} {w w' : World} {a : Option Addr} {n c : Nat} {z : List Int} (h : IsRowK k w a n c z) (hb : Below w.heap.size w w') : IsRowK k w' a n c z := by
  rcases h with h | ⟨x, rfl, h1, h2, h3, h4, h5⟩
  · exact .inl h
  · refine .inr ⟨x, rfl, h1, h2, h3, fun i hi => ?_, h5⟩
    have hx := World.block_lt_of_cell? w _ (h4 i hi)
    exact (hb.cell (p := x.add i) hx).trans (h4 i hi)
/-- A line handed back, of the call's own. -/
def MadeLn (w : World) (v : Value) (l : Ln) (w' : World) : Prop := OwnLine w' w.heap.size v l ∧ l.1.length ≤ 5 ∧ l.2.length ≤ 6 ∧ Below w.heap.size w w'
/-- A line stored into the result's box. -/
theorem line_ret {X : World} {lo base C : Nat} {x y u1 u2 : Value} {l : Ln} (o : OwnLine X base (.agg #[u1, u2]) l) (p : Pair X C x y 26) (hC : C < base) (hl : lo ≤ base) :
    Pair ((X.setCell ⟨C, 0, none⟩ u1).setCell ⟨C, 1, none⟩ u2) C u1 u2 26 ∧ OwnLine ((X.setCell ⟨C, 0, none⟩ u1).setCell ⟨C, 1, none⟩ u2) lo (.agg #[u1, u2]) l := by
  obtain ⟨v1, v2, e, o1, o2, ap⟩ := o
  simp only [Value.agg.injEq, Array.mk.injEq, List.cons.injEq, and_true] at e
  obtain ⟨rfl, rfl⟩ := e
  refine ⟨(p.set0 u1).set1 u2, u1, u2, rfl, ?_, ?_, ap⟩
  · exact Ow.mono (Ow.setBelow (Ow.setBelow o1 (a := ⟨C, 0, none⟩) hC u1) (a := ⟨C, 1, none⟩) hC u2) hl
  · exact ((o2.setBelow (a := ⟨C, 0, none⟩) hC u1).setBelow (a := ⟨C, 1, none⟩) hC u2).mono hl

set_option maxRecDepth 100000 in
set_option maxHeartbeats 1000000 in
theorem drawLineValid {w : World} {a : Option Addr} {len cap : Nat} {zs : List Int} (h : IsRowK .u8 w a len cap zs) (hl : len ≤ 1048576) :
    Calls Try.prog 9 #[.slice a len cap] w fun e w' => ∃ v l, e = .returned v ∧ MadeLn w v l w' := by
  have q0 := Pair.new w (.slice none 0 0) (.slice none 0 0) 26
  have b0 := below_alloc w (.cells #[.slice none 0 0, .slice none 0 0] 26)
  obtain ⟨W, hW⟩ : ∃ X, X = w.alloc (.cells #[.slice none 0 0, .slice none 0 0] 26) := ⟨_, rfl⟩
  rw [← hW] at q0 b0
  have OP := Lib.hid (openRd (w := W) (IsRowK.below h b0) hl)
  have HW := Lib.hid hW.symm
  have B0 := Lib.hid b0
  have Q0 := Lib.hid q0
  have QL := Lib.hid q0.lt
  clear hW q0 b0 h
  go_enter Try.func9, Try.ntmps9
  go_upto_region 1 with fail
  rw [HW.out]
  go_wp2_with (first
    | (go_at_call 39; refine OP.out.mono ?_; rintro e w1 ⟨g, rfl, hg, hr, b1⟩; have DL := Lib.hid (drawLine hr (by omega)))
    | (go_at_call 38; refine DL.out.mono ?_; rintro e w2 ⟨l, q, v, rfl, o, ⟨-, hl1⟩, hl2, -, -, k⟩; obtain ⟨a1, n1, c1, a2, n2, c2, rfl⟩ := own_form o; have P2 := Lib.hid ((Q0.out.below b1).kept k (fun c e => by have := QL.out; simp only [Option.some.injEq] at e; omega)); have k0 := P2.out.cell0; have k1 := P2.out.cell1; have f0 := P2.out.frozen 0; have f1 := P2.out.frozen 1))
  have E := line_ret (lo := w.heap.size) o P2.out (by have := QL.out; have := b1.size; omega) (by have := B0.out.size; have := b1.size; omega)
  have r0 := E.1.cell0
  have r1 := E.1.cell1
  have b2 := (B0.out.trans (b1.mono B0.out.size)).grown k (Nat.le_trans B0.out.size b1.size) (fun b e => by cases e; exact Nat.le_trans B0.out.size hg)
  refine bodyPost_ret (v := .agg #[.slice a1 n1 c1, .slice a2 n2 c2]) (by simp [results, Try.results9, go_sem, r0, r1]) rfl ⟨_, l, rfl, E.2, hl1, hl2, (b2.setCell (p := ⟨w.heap.size, 0, none⟩) (Nat.le_refl _) _).setCell (p := ⟨w.heap.size, 1, none⟩) (Nat.le_refl _) _⟩

end Go.Proofs.Ytpofkfcjnhoamaa

/-
  Drawn lines with a number. For codes of at most 1048576 bytes.
-/
namespace Go.Proofs.Ytpofkfcjnhoamaa
open Go.RowKit Go.Sort
set_option linter.unusedVariables false

theorem rdr_line : 107 ≠ 26 := by decide
/-- What is written into a line's box leaves a reader as it is. -/
theorem Rdr.line {X : World} {g p R i : Nat} {x y v : Value} (h : Rdr X g p) (hq : Pair X R x y 26) (hn : ∀ q : Int, x ≠ .int .u8 q ∧ y ≠ .int .u8 q) : Rdr (X.setCell ⟨R, i, none⟩ v) g p := by
  obtain ⟨rv, n, hg, hb, hne⟩ := h
  have hgR : R ≠ g := by
    intro e
    subst e
    unfold Pair at hq
    rw [hg] at hq
    simp only [Option.some.injEq, Obj.cells.injEq] at hq
    exact rdr_line hq.2.1
  have kk := grown_set X R i v
  refine ⟨rv, n, (kk.block g (Array.getElem?_eq_some_iff.1 hg).1 (fun e => hgR (Option.some.inj e).symm)).trans hg, ?_, hne⟩
  obtain ⟨a, cap, rfl, hm, hc⟩ := hb
  refine ⟨a, cap, rfl, hm, ?_⟩
  rcases hc with h0 | ⟨b, o, rfl, hlt, hcell⟩
  · exact .inl h0
  · rcases Nat.eq_zero_or_pos n with h0 | h0
    · exact .inl h0
    have hbR : b ≠ R := by
      intro e
      subst e
      obtain ⟨x', hx', -⟩ := hcell 0 h0
      unfold Pair at hq
      unfold World.cell? at hx'
      simp only [hq] at hx'
      have hmem := Array.mem_of_getElem? hx'
      simp only [List.mem_toArray, List.mem_cons, List.not_mem_nil, or_false] at hmem
      have := hn x'
      rcases hmem with e | e
      · exact this.1 e.symm
      · exact this.2 e.symm
    refine .inr ⟨b, o, rfl, Nat.lt_of_lt_of_le hlt kk.size, fun j hj => ?_⟩
    obtain ⟨x', hx', hr⟩ := hcell j hj
    exact ⟨x', (World.cell?_of_block (kk.block b hlt (fun e => hbR (Option.some.inj e)))).trans hx', hr⟩
/-- A slice. -/
def IsSl (v : Value) : Prop := ∃ a n c, v = .slice a n c
theorem IsSl.no {v : Value} (h : IsSl v) (q : Int) : v ≠ .int .u8 q := by obtain ⟨_, _, _, rfl⟩ := h; intro e; cases e

/-- A drawn line in its box; the reader; the result's box, stored or not. -/
structure RW (w : World) (g Bx base : Nat) (u1 u2 : Value) (l : Ln) (b : Bool) (Q : Nat) (X : World) : Prop where
  rd : ∃ q, q ≤ Q ∧ Rdr X g q
  own : OwnLine X base (.agg #[u1, u2]) l
  box : Pair X Bx u1 u2 26
  res : ∃ x y, Pair X w.heap.size x y 26 ∧ (IsSl x ∧ IsSl y) ∧ (b = true → x = u1 ∧ y = u2)
  bel : Below w.heap.size w X
  hg : w.heap.size < g
  hgb : g < base
  hb : base ≤ Bx
theorem RW.below {w X Y : World} {g Bx base Q : Nat} {u1 u2 : Value} {l : Ln} {b : Bool} (h : RW w g Bx base u1 u2 l b Q X) (k : Below X.heap.size X Y) : RW w g Bx base u1 u2 l b Q Y := by
  obtain ⟨q, hq, hr⟩ := h.rd
  obtain ⟨x, y, hp, hs⟩ := h.res
  exact ⟨⟨q, hq, hr.below k hr.lt⟩, h.own.below k, h.box.below k, ⟨x, y, hp.below k, hs⟩, h.bel.trans (k.mono h.bel.size), h.hg, h.hgb, h.hb⟩
theorem RW.more {w X : World} {g Bx base Q Q' : Nat} {u1 u2 : Value} {l : Ln} {b : Bool} (h : RW w g Bx base u1 u2 l b Q X) (hQ : Q ≤ Q') : RW w g Bx base u1 u2 l b Q' X := by
  obtain ⟨q, hq, hr⟩ := h.rd
  exact ⟨⟨q, by omega, hr⟩, h.own, h.box, h.res, h.bel, h.hg, h.hgb, h.hb⟩
theorem RW.grown {w X Y : World} {g Bx base Q : Nat} {u1 u2 : Value} {l : Ln} {b : Bool} (h : RW w g Bx base u1 u2 l b Q X) (k : X.grownBy Y (some g)) {q : Nat} (hr : Rdr Y g q) : RW w g Bx base u1 u2 l b q Y := by
  obtain ⟨x, y, hp, hs⟩ := h.res
  have a1 := h.hg
  have a2 := h.hgb
  have a3 := h.hb
  obtain ⟨v1, v2, e, o1, o2, ap⟩ := h.own
  simp only [Value.agg.injEq, Array.mk.injEq, List.cons.injEq, and_true] at e
  obtain ⟨rfl, rfl⟩ := e
  refine ⟨⟨q, Nat.le_refl _, hr⟩, ⟨u1, u2, rfl, Ow.kept o1 k (.inr fun e => ?_), o2.kept k (.inr fun e => ?_), ap⟩, h.box.kept k (fun c e => by simp only [Option.some.injEq] at e; omega), ⟨x, y, hp.kept k (fun c e => by simp only [Option.some.injEq] at e; omega), hs⟩, h.bel.grown k h.bel.size (fun c e => by simp only [Option.some.injEq] at e; omega), a1, a2, a3⟩
  · have := (Ow.under o1 g (by first | exact e | exact e.symm)).1; omega
  · have := (o2.under g (by first | exact e | exact e.symm)).1; omega
theorem RW.store {w X : World} {g Bx base Q : Nat} {u1 u2 : Value} {l : Ln} {b : Bool} (h : RW w g Bx base u1 u2 l b Q X) : RW w g Bx base u1 u2 l true Q ((X.setCell ⟨w.heap.size, 0, none⟩ u1).setCell ⟨w.heap.size, 1, none⟩ u2) := by
  obtain ⟨q, hq, hr⟩ := h.rd
  obtain ⟨x, y, hp, ⟨hx, hy⟩, -⟩ := h.res
  have a1 := h.hg
  have a2 := h.hgb
  have a3 := h.hb
  obtain ⟨v1, v2, e, o1, o2, -⟩ := id h.own
  simp only [Value.agg.injEq, Array.mk.injEq, List.cons.injEq, and_true] at e
  obtain ⟨rfl, rfl⟩ := e
  have s1 : IsSl u1 := by obtain ⟨a, c, rfl⟩ := Ow.slice o1; exact ⟨_, _, _, rfl⟩
  have s2 : IsSl u2 := by obtain ⟨a, n, c, rfl⟩ := own_is_slice o2; exact ⟨_, _, _, rfl⟩
  have r := line_ret (lo := base) h.own hp (by omega) (Nat.le_refl _)
  refine ⟨⟨q, hq, ?_⟩, r.2, (h.box.other (a := ⟨w.heap.size, 0, none⟩) (by simp only; omega) u1).other (a := ⟨w.heap.size, 1, none⟩) (by simp only; omega) u2, ⟨u1, u2, r.1, ⟨s1, s2⟩, fun _ => ⟨rfl, rfl⟩⟩, (h.bel.setCell (p := ⟨w.heap.size, 0, none⟩) (Nat.le_refl _) _).setCell (p := ⟨w.heap.size, 1, none⟩) (Nat.le_refl _) _, a1, a2, a3⟩
  exact (hr.line hp (fun q => ⟨hx.no q, hy.no q⟩)).line (hp.set0 u1) (fun q => ⟨s1.no q, hy.no q⟩)

/-- A drawn line with a number. -/
def DrawnLineN (w : World) (e : Ending) (w' : World) : Prop := ∃ (v : Value) (l : Ln) (k : Int), e = .returned (.tuple #[v, .int .i64 k]) ∧ (-1 ≤ k ∧ k ≤ 5) ∧ MadeLn w v l w'
theorem one_most (b : Bool) : (if b = true then 1 else 0) ≤ 1 := by cases b <;> decide
def GW (u1 u2 : Value) (g : Nat) (i : Nat) (v : Value) (_ : World) : Prop :=
  match i with
  | 0 => v = .agg #[u1, u2]
  | 1 => v = .pointer (some ⟨g, 0, none⟩)
  | 2 => ∃ r : Int, v = .int .i64 r ∧ 0 ≤ r ∧ r < 6
  | 3 => v = .pointer (some ⟨g, 0, none⟩)
  | 4 => ∃ r : Int, v = .int .i64 r ∧ 0 ≤ r ∧ r < 12
  | 5 => ∃ r : Int, v = .int .i64 r ∧ 0 ≤ r ∧ r ≤ 1
  | 6 => ∃ r : Int, v = .int .i64 r ∧ -1 ≤ r ∧ r ≤ 5
  | 8 => ∃ r : Int, v = .int .i64 r ∧ -1 ≤ r ∧ r ≤ 5
  | _ => True
def RWw (w : World) (g Bx base : Nat) (u1 u2 : Value) (l : Ln) (Q : Nat) (D : Nat → Bool) (X : World) : Prop := RW w g Bx base u1 u2 l (D 7) (Q + (if D 2 then 1 else 0) + (if D 4 then 1 else 0)) X
theorem RWw.same {w : World} {g Bx base : Nat} {u1 u2 : Value} {l : Ln} {Q : Nat} {D D' : Nat → Bool} {X : World} (h : RWw w g Bx base u1 u2 l Q D X) (h2 : D' 2 = D 2) (h4 : D' 4 = D 4) (h7 : D' 7 = D 7) : RWw w g Bx base u1 u2 l Q D' X := by
  unfold RWw at h ⊢
  rw [h2, h4, h7]
  exact h

set_option maxRecDepth 100000 in
set_option maxHeartbeats 2000000 in
theorem drawLineWaits {w : World} {a : Option Addr} {len cap : Nat} {zs : List Int} (h : IsRowK .u8 w a len cap zs) (hl : len ≤ 1048576) :
    Calls Try.prog 14 #[.slice a len cap] w (DrawnLineN w) := by
  have q0 := Pair.new w (.slice none 0 0) (.slice none 0 0) 26
  have b0 := below_alloc w (.cells #[.slice none 0 0, .slice none 0 0] 26)
  obtain ⟨W, hW⟩ : ∃ X, X = w.alloc (.cells #[.slice none 0 0, .slice none 0 0] 26) := ⟨_, rfl⟩
  rw [← hW] at q0 b0
  have OP := Lib.hid (openRd (w := W) (IsRowK.below h b0) hl)
  have HW := Lib.hid hW.symm
  have B0 := Lib.hid b0
  have Q0 := Lib.hid q0
  have QL := Lib.hid q0.lt
  clear hW q0 b0 h
  go_enter Try.func14, Try.ntmps14
  go_upto_region 1 with fail
  rw [HW.out]
  go_upto_region 2 with (go_at_call 39; refine OP.out.mono ?_; rintro e w1 ⟨g, rfl, hg, hr, b1⟩)
  have DL := Lib.hid (drawLine hr (by omega))
  have HG := Lib.hid (And.intro hg hr.lt)
  have P1 := Lib.hid (Q0.out.below b1)
  have B1 := Lib.hid (B0.out.trans (b1.mono B0.out.size))
  have S1 := Lib.hid b1.size
  clear hg hr b1
  go_upto_region 3 with (go_at_call 38; refine DL.out.mono ?_; rintro e w2 ⟨l, q, v, rfl, o, ⟨-, hl1⟩, hl2, rd, hq, k⟩; obtain ⟨a1, n1, c1, a2, n2, c2, rfl⟩ := own_form o)
  have qb := Pair.new w2 (.slice a1 n1 c1) (.slice a2 n2 c2) 26
  have k1 := below_alloc w2 (.cells #[.slice a1 n1 c1, .slice a2 n2 c2] 26)
  have rw0 : RW w g w2.heap.size w1.heap.size (.slice a1 n1 c1) (.slice a2 n2 c2) l false 40 (w2.alloc (.cells #[.slice a1 n1 c1, .slice a2 n2 c2] 26)) := by
    have h1 := HG.out
    have h2 := QL.out
    have h3 := S1.out
    have p2 := P1.out.kept k (fun c e => by simp only [Option.some.injEq] at e; omega)
    have b2 := B1.out.grown k (by omega) (fun c e => by simp only [Option.some.injEq] at e; omega)
    exact ⟨⟨q, by omega, rd.below k1 rd.lt⟩, o.below k1, qb, ⟨_, _, p2.below k1, ⟨⟨_, _, _, rfl⟩, ⟨_, _, _, rfl⟩⟩, fun e => by cases e⟩, b2.trans (k1.mono b2.size), by omega, by omega, k.size⟩
  obtain ⟨V, hV⟩ : ∃ X, X = w2.alloc (.cells #[.slice a1 n1 c1, .slice a2 n2 c2] 26) := ⟨_, rfl⟩
  rw [← hV] at rw0 ⊢
  obtain ⟨Bx, hBx⟩ : ∃ b, b = w2.heap.size := ⟨_, rfl⟩
  rw [← hBx] at rw0 ⊢
  obtain ⟨base, hbase⟩ : ∃ b, b = w1.heap.size := ⟨_, rfl⟩
  rw [← hbase] at rw0
  have R0 := Lib.hid rw0
  have HB := Lib.hid (show w.heap.size ≤ base by have := B0.out.size; have := S1.out; omega)
  clear hV hBx hbase rw0 qb k1 o rd k
  refine wp_region_goodsL (G := GW (.slice a1 n1 c1) (.slice a2 n2 c2) g) (R := RWw w g Bx base (.slice a1 n1 c1) (.slice a2 n2 c2) l 40) (T := fun _ _ _ => True) (by kernel_rfl) (by kernel_rfl) ?start (fun _ _ _ _ _ _ _ _ _ _ h => h) ⟨?s0, ?s1, ?s2, ?s3, ?s4, ?s5, ?s6, ?s7, ?s8, trivial⟩ ?hend
  case start =>
    intro D hD
    unfold RWw
    rw [hD, hD, hD]
    exact R0.out.below ((Below.refl _ _).drew)
  case s0 =>
    intro ac wc D D' hDk hDk' hdo hcl hR hrest hdep K hK
    have e0 : ac.tmps.getD 5 undef = .pointer (some ⟨Bx, 0, none⟩) := hrest 5 (by kernel_rfl)
    have f0 := slot_of e0
    have c0 := hR.box.cell0
    have c1' := hR.box.cell1
    clear hdep hrest
    go_simp
    exact hK _ _ rfl (hR.same (hdo 2 (by decide)) (hdo 4 (by decide)) (hdo 7 (by decide))) trivial
  case s1 =>
    intro ac wc D D' hDk hDk' hdo hcl hR hrest hdep K hK
    have e0 : ac.tmps.getD 4 undef = .pointer (some ⟨g, 0, none⟩) := hrest 4 (by kernel_rfl)
    have f0 := slot_of e0
    clear hdep hrest
    go_simp
    exact hK _ _ rfl (hR.same (hdo 2 (by decide)) (hdo 4 (by decide)) (hdo 7 (by decide))) trivial
  case s2 =>
    intro ac wc D D' hDk hDk' hdo hcl hR hrest hdep K hK
    have e0 : ac.tmps.getD 11 undef = .pointer (some ⟨g, 0, none⟩) := hdep 1 (by kernel_rfl)
    have f0 := slot_of e0
    clear hdep hrest
    unfold RWw at hR
    rw [hDk] at hR
    obtain ⟨q1, hq1, hr1⟩ := hR.rd
    simp only [Bool.false_eq_true, if_false] at hq1
    have hq2 : q1 ≤ 41 := by have := one_most (D 2); have := one_most (D 4); omega
    go_simp
    refine (pick (n := 6) hr1 (by omega) (by omega) (by omega)).mono ?_
    rintro e w4 ⟨r, rfl, hr0, hr1, hr4, g4⟩
    refine hK _ _ ⟨r, rfl, hr0, hr1 (by omega)⟩ ?_ trivial
    unfold RWw
    rw [hDk', hdo 4 (by decide), hdo 7 (by decide)]
    exact (hR.grown g4 hr4).more (by simp only [if_true]; omega)
  case s3 =>
    intro ac wc D D' hDk hDk' hdo hcl hR hrest hdep K hK
    have e0 : ac.tmps.getD 4 undef = .pointer (some ⟨g, 0, none⟩) := hrest 4 (by kernel_rfl)
    have f0 := slot_of e0
    clear hdep hrest
    go_simp
    exact hK _ _ rfl (hR.same (hdo 2 (by decide)) (hdo 4 (by decide)) (hdo 7 (by decide))) trivial
  case s4 =>
    intro ac wc D D' hDk hDk' hdo hcl hR hrest hdep K hK
    have e0 : ac.tmps.getD 13 undef = .pointer (some ⟨g, 0, none⟩) := hdep 3 (by kernel_rfl)
    have f0 := slot_of e0
    clear hdep hrest
    unfold RWw at hR
    rw [hDk] at hR
    obtain ⟨q1, hq1, hr1⟩ := hR.rd
    simp only [Bool.false_eq_true, if_false] at hq1
    have hq2 : q1 ≤ 41 := by have := one_most (D 2); have := one_most (D 4); omega
    go_simp
    refine (pick (n := 12) hr1 (by omega) (by omega) (by omega)).mono ?_
    rintro e w4 ⟨r, rfl, hr0, hr1, hr4, g4⟩
    refine hK _ _ ⟨r, rfl, hr0, hr1 (by omega)⟩ ?_ trivial
    unfold RWw
    rw [hDk', hdo 2 (by decide), hdo 7 (by decide)]
    exact (hR.grown g4 hr4).more (by simp only [if_true]; omega)
  case s5 =>
    intro ac wc D D' hDk hDk' hdo hcl hR hrest hdep K hK
    obtain ⟨r, e0, hr0, hr1⟩ : ∃ r : Int, ac.tmps.getD 14 undef = .int .i64 r ∧ 0 ≤ r ∧ r < 12 := hdep 4 (by kernel_rfl)
    have f0 := slot_of e0
    obtain ⟨d, hd, hd0, hd1⟩ : ∃ d, r.tdiv 11 = d ∧ 0 ≤ d ∧ d ≤ 1 := by
      refine ⟨_, rfl, ?_⟩
      rw [Int.tdiv_eq_ediv_of_nonneg hr0]
      omega
    have hd2 : r / 11 = d := by rw [← hd, Int.tdiv_eq_ediv_of_nonneg hr0]
    have hw : IntKind.i64.wrap d = d := IntWalk.i64_in _ (by omega)
    clear hdep hrest
    go_simp
    exact hK _ _ ⟨d, rfl, hd0, hd1⟩ (hR.same (hdo 2 (by decide)) (hdo 4 (by decide)) (hdo 7 (by decide))) trivial
  case s6 =>
    intro ac wc D D' hDk hDk' hdo hcl hR hrest hdep K hK
    obtain ⟨r, e0, hr0, hr1⟩ : ∃ r : Int, ac.tmps.getD 12 undef = .int .i64 r ∧ 0 ≤ r ∧ r < 6 := hdep 2 (by kernel_rfl)
    obtain ⟨d, e1, hd0, hd1⟩ : ∃ r : Int, ac.tmps.getD 15 undef = .int .i64 r ∧ 0 ≤ r ∧ r ≤ 1 := hdep 5 (by kernel_rfl)
    have f0 := slot_of e0
    have f1 := slot_of e1
    have hw : IntKind.i64.wrap (r - d) = r - d := IntWalk.i64_in _ (by omega)
    clear hdep hrest
    go_simp
    exact hK (.int .i64 (r - d)) _ ⟨r - d, rfl, by omega, by omega⟩ (hR.same (hdo 2 (by decide)) (hdo 4 (by decide)) (hdo 7 (by decide))) trivial
  case s7 =>
    intro ac wc D D' hDk hDk' hdo hcl hR hrest hdep K hK
    have e0 : ac.tmps.getD 2 undef = .pointer (some ⟨w.heap.size, 0, none⟩) := hrest 2 (by kernel_rfl)
    have e1 : ac.tmps.getD 10 undef = .agg #[.slice a1 n1 c1, .slice a2 n2 c2] := hdep 0 (by kernel_rfl)
    have f0 := slot_of e0
    have f1 := slot_of e1
    clear hdep hrest
    obtain ⟨x, y, hp, -⟩ := hR.res
    have c0 := hp.cell0
    have c1' := hp.cell1
    have d0 := hp.frozen 0
    have d1 := hp.frozen 1
    have HE := Lib.hid (show RWw w g Bx base (.slice a1 n1 c1) (.slice a2 n2 c2) l 40 D' _ from by
      unfold RWw at hR ⊢
      rw [hDk', hdo 2 (by decide), hdo 4 (by decide)]
      exact hR.store)
    clear hR hp
    go_simp
    exact hK undef _ trivial HE.out trivial
  case s8 =>
    intro ac wc D D' hDk hDk' hdo hcl hR hrest hdep K hK
    obtain ⟨r, e0, hr0, hr1⟩ : ∃ r : Int, ac.tmps.getD 16 undef = .int .i64 r ∧ -1 ≤ r ∧ r ≤ 5 := hdep 6 (by kernel_rfl)
    have f0 := slot_of e0
    clear hdep hrest
    go_simp
    exact hK _ _ ⟨r, rfl, hr0, hr1⟩ (hR.same (hdo 2 (by decide)) (hdo 4 (by decide)) (hdo 7 (by decide))) trivial
  case hend =>
    rintro ⟨tm, df⟩ w' D hD hsz hdf hR hrest hgood
    have hdf' : df = [] := hdf
    subst hdf'
    obtain ⟨x, e, hx0, hx1⟩ : ∃ r : Int, tm.getD 3 undef = .int .i64 r ∧ -1 ≤ r ∧ r ≤ 5 := hgood 8 (by decide)
    have e' : tm[3]?.getD undef = _ := slot_of (a := ⟨tm, []⟩) e
    unfold RWw at hR
    rw [hD 7 (by decide)] at hR
    obtain ⟨x1, y1, hp, -, hxy⟩ := hR.res
    obtain ⟨rfl, rfl⟩ := hxy rfl
    have hw2 : tm.getD 2 undef = .pointer (some ⟨w.heap.size, 0, none⟩) := hrest 2 (by kernel_rfl)
    have hw3 : tm[2]?.getD undef = _ := slot_of (a := ⟨tm, []⟩) hw2
    have r0 := hp.cell0
    have r1 := hp.cell1
    have HN := Lib.hid (And.intro (hR.own.mono HB.out) hR.bel)
    clear hp hgood hR
    go_wp2_with fail
    refine bodyPost_ret (v := .tuple #[.agg #[.slice a1 n1 c1, .slice a2 n2 c2], .int .i64 x]) (by simp [results, Try.results14, go_sem, r0, r1, e', hw3]) rfl ⟨_, l, x, rfl, ⟨hx0, hx1⟩, HN.out.1, hl1, hl2, HN.out.2⟩

end Go.Proofs.Ytpofkfcjnhoamaa

/-
  A drawn move of a line. For codes of at most 1048576 bytes.
-/
namespace Go.Proofs.Ytpofkfcjnhoamaa
open Go.RowKit Go.Sort
set_option linter.unusedVariables false

/-- A list of strings of at most 9 bytes. -/
def Shorts9 (w : World) (v : Value) (n : Nat) : Prop :=
  ∃ b cap, v = .slice (some ⟨b, 0, none⟩) n cap ∧ b < w.heap.size ∧ ∀ i, i < n → ∃ s : ByteArray, w.cell? ⟨b, i, none⟩ = some (.string s) ∧ s.size ≤ 9

set_option maxHeartbeats 1000000 in
theorem ofRd9 {w : World} {g p n : Nat} {v : Value} (h : Rdr w g p) (hs : Shorts9 w v n) (hn1 : 1 ≤ n) (hn : n ≤ 100) (hp : p ≤ 1000000) (hne : ∀ b o k c, v = .slice (some ⟨b, o, none⟩) k c → b ≠ g) :
    Calls Try.prog 77 #[.pointer (some ⟨g, 0, none⟩), v] w fun e w' => ∃ s : ByteArray, e = .returned (.string s) ∧ s.size ≤ 9 ∧ Rdr w' g (p + 1) ∧ w.grownBy w' (some g) := by
  obtain ⟨b, cap, rfl, hb, hc⟩ := hs
  have hbg := hne b 0 n cap rfl
  have HC := Lib.hid hc
  clear hc hne
  go_enter Try.func77, Try.ntmps77
  go_wp2_with (go_at_call 48; refine (pick h (by omega) (by omega) (by omega)).mono ?_)
  rintro e w2 ⟨r, rfl, hr0, hr1, hr, g2⟩
  have hr1' := hr1 (by omega)
  obtain ⟨j, rfl⟩ : ∃ j : Nat, r = j := ⟨r.toNat, by omega⟩
  obtain ⟨s, hsc, hss⟩ := HC.out j (by omega)
  have c1 : w2.cell? ⟨b, 0 + j, none⟩ = some (.string s) := by
    rw [Nat.zero_add]
    exact (World.cell?_of_block (g2.block b hb (fun e => hbg (by simpa using e)))).trans hsc
  have c2 := c1
  rw [Nat.zero_add] at c2
  have hji : (j : Int) < (n : Int) := by omega
  clear hsc hr1
  go_wp2_with fail
  go_ret
  exact ⟨s, rfl, hss, hr, g2⟩

theorem lit_nine (w : World) (cs : Array Value) (t : TypeId) (h : ∀ i, i < cs.size → ∃ s : ByteArray, cs[i]? = some (.string s) ∧ s.size ≤ 9) : Shorts9 (w.alloc (.cells cs t)) (.slice (some ⟨w.heap.size, 0, none⟩) cs.size cs.size) cs.size := by
  refine ⟨w.heap.size, cs.size, rfl, by simp, fun i hi => ?_⟩
  obtain ⟨s, hs, hz⟩ := h i hi
  refine ⟨s, ?_, hz⟩
  unfold World.cell?
  simp only [heap_alloc_new]
  exact hs
theorem Rdr.pairM {w : World} {g p C : Nat} (h : Rdr w g p) (hC : g < C) (u v : Value) : Rdr ((w.setCell ⟨C, 0, none⟩ u).setCell ⟨C, 1, none⟩ v) g p := h.pair hC u v
/-- A named move's letter is one byte. -/
theorem lnMoves_one {l : Ln} {i : Nat} (h : i < (lnMoves l).length) : ((lnMoves l).getD i noMv).2.size = 1 := by
  obtain ⟨x, hx, -⟩ := lnMoves_do h
  obtain ⟨-, -, hd⟩ := step_ok hx
  obtain ⟨K, -, -, b, hb, -⟩ := lnDo_is hd
  unfold bkOne at hb
  split at hb
  · assumption
  · cases hb
/-- A drawn move. -/
def DrawnMove (w : World) (g p : Nat) (e : Ending) (w' : World) : Prop :=
  ∃ (s : Int) (S : ByteArray) (q : Nat), e = .returned (.agg #[.int .i64 s, .string S]) ∧ S.size ≤ 9 ∧ Rdr w' g q ∧ q ≤ p + 3 ∧ w.grownBy w' (some g)

set_option maxRecDepth 100000 in
set_option maxHeartbeats 4000000 in
theorem drawMove {w : World} {g p : Nat} {v : Value} {l : Ln} (h : Rdr w g p) (hp : p ≤ 1000) (hv : LineV w v l) :
    Calls Try.prog 49 #[.pointer (some ⟨g, 0, none⟩), v] w (DrawnMove w g p) := by
  have hgw := h.lt
  obtain ⟨a1, n1, c1, a2, n2, c2, rfl⟩ := hv.form
  obtain ⟨W, hW⟩ : ∃ X, X = (w.alloc (.cells #[.slice a1 n1 c1, .slice a2 n2 c2] 26)).alloc (.cells #[.int .i64 0, .string ⟨#[]⟩] 40) := ⟨_, rfl⟩
  have p1 := (Pair.new w (.slice a1 n1 c1) (.slice a2 n2 c2) 26).alloc (.cells #[.int .i64 0, .string ⟨#[]⟩] 40)
  have p2 := Pair.new (w.alloc (.cells #[.slice a1 n1 c1, .slice a2 n2 c2] 26)) (.int .i64 0) (.string ⟨#[]⟩) 40
  have b0 := chain (below_alloc w (.cells #[.slice a1 n1 c1, .slice a2 n2 c2] 26)) (below_alloc _ (.cells #[.int .i64 0, .string ⟨#[]⟩] 40))
  rw [← hW] at p1 p2 b0
  have hws : (w.alloc (.cells #[.slice a1 n1 c1, .slice a2 n2 c2] 26)).heap.size = w.heap.size + 1 := by simp
  rw [hws] at p2
  have HW := Lib.hid hW.symm
  have P1 := Lib.hid p1
  have P2 := Lib.hid p2
  have B0 := Lib.hid b0
  have R0 := Lib.hid (h.below b0 hgw)
  have LM := Lib.hid (specLineMoves (hv.below b0))
  have LL := lnMoves_len l
  have hl5 : (lnMoves l).length ≤ 35 := by
    unfold lnMoves
    split
    · rename_i hb
      have := mvsTo_len l l.1.length
      have := (lnB_is hb).1
      omega
    · simp
  have SZ := fun i (hi : i < (lnMoves l).length) => lnMoves_one hi
  obtain ⟨ms, hms⟩ : ∃ ms, ms = lnMoves l := ⟨_, rfl⟩
  rw [← hms] at LM hl5
  simp only [← hms] at SZ
  have SZ := Lib.hid SZ
  have c0 := p1.cell0
  have c1' := p1.cell1
  clear hW p1 p2 b0 hms h LL hv hws
  go_enter Try.func49, Try.ntmps49
  go_upto_region 1 with fail
  rw [HW.out]
  go_upto_region 2 with (go_at_call 29; refine LM.out.mono ?_; rintro e w3 ⟨vm, rfl, om, b3⟩)
  have hlW : W.heap.size = w.heap.size + 2 := by rw [← HW.out]; simp
  have R3 := Lib.hid (R0.out.below b3 R0.out.lt)
  have P3 := Lib.hid (P2.out.below b3)
  have G3 := Lib.hid (grown_of_below (B0.out.trans (b3.mono B0.out.size)) (some g))
  have hgg : g < W.heap.size := by omega
  have hl2 : w.heap.size + 1 < W.heap.size := by omega
  have hlW2 : W.heap.size ≤ w3.heap.size := b3.size
  clear hlW c0 c1' b3
  have OM := Lib.hid om
  rcases Ow.shape om with ⟨rfl, h0⟩ | ⟨gm, cm, rfl, hgm, hgl, hnc⟩
  · have R5 := R3
    have P5 := P3
    have G5 := G3
    have hq5 : p ≤ p + 1 := by omega
    clear h0
    go_upto_region 4 with fail
    go_wp2_with (go_at_call 48; refine (pick R5.out (by omega) (by omega) (by omega)).mono ?_)
    rintro e w6 ⟨r6, rfl, h60, h61, hr6, g6⟩
    have h62 := h61 (by omega)
    have hw6 : IntKind.i64.wrap (r6 - 1) = r6 - 1 := IntWalk.i64_in _ (by omega)
    have P6 := Lib.hid (P5.out.kept g6 (fun c e => by simp only [Option.some.injEq] at e; omega))
    have G6 := Lib.hid (grown_trans G5.out g6)
    have sh := lit_nine w6 #[.string ⟨#[111]⟩, .string ⟨#[97]⟩, .string ⟨#[101]⟩, .string ⟨#[108]⟩, .string ⟨#[102]⟩, .string ⟨#[114]⟩, .string ⟨#[99]⟩, .string ⟨#[]⟩, .string ⟨#[120]⟩] 9 (fun i hi => by
      have hi9 : i < 9 := hi
      rcases (by omega : i = 0 ∨ i = 1 ∨ i = 2 ∨ i = 3 ∨ i = 4 ∨ i = 5 ∨ i = 6 ∨ i = 7 ∨ i = 8) with rfl | rfl | rfl | rfl | rfl | rfl | rfl | rfl | rfl <;> exact ⟨_, rfl, by decide⟩)
    have q7 := below_alloc w6 (.cells #[.string ⟨#[111]⟩, .string ⟨#[97]⟩, .string ⟨#[101]⟩, .string ⟨#[108]⟩, .string ⟨#[102]⟩, .string ⟨#[114]⟩, .string ⟨#[99]⟩, .string ⟨#[]⟩, .string ⟨#[120]⟩] 9)
    have hg6 := hr6.lt
    obtain ⟨W7, hW7⟩ : ∃ X, X = w6.alloc (.cells #[.string ⟨#[111]⟩, .string ⟨#[97]⟩, .string ⟨#[101]⟩, .string ⟨#[108]⟩, .string ⟨#[102]⟩, .string ⟨#[114]⟩, .string ⟨#[99]⟩, .string ⟨#[]⟩, .string ⟨#[120]⟩] 9) := ⟨_, rfl⟩
    rw [← hW7] at sh q7
    have HW7 := Lib.hid hW7
    have SH := Lib.hid (show Shorts9 W7 (.slice (some ⟨w6.heap.size, 0, none⟩) 9 9) 9 from sh)
    have R7 := Lib.hid (hr6.below q7 hg6)
    have P7 := Lib.hid (P6.out.below q7)
    have G7 := Lib.hid (grown_trans G6.out (grown_of_below q7 (some g)))
    clear hW7 sh q7 hr6 g6 h61
    go_wp2_with (rw [← HW7.out]; go_at_call 77; refine (ofRd9 R7.out SH.out (by omega) (by omega) (by omega) (fun b o k c e => by simp only [Value.slice.injEq, Option.some.injEq, Addr.mk.injEq] at e; omega)).mono ?_)
    rintro e w8 ⟨S, rfl, hS, hr8, g8⟩
    have P8 := Lib.hid (P7.out.kept g8 (fun c e => by simp only [Option.some.injEq] at e; omega))
    have f0 := P8.out.frozen 0
    have f1 := P8.out.frozen 1
    have y0 := P8.out.cell0
    have y1 := P8.out.cell1
    have k0 := ((P8.out.set0 (.int .i64 (r6 - 1))).set1 (.string S)).cell0
    have k1 := ((P8.out.set0 (.int .i64 (r6 - 1))).set1 (.string S)).cell1
    have G8 := grown_trans G7.out g8
    go_wp2_with fail
    exact bodyPost_ret (v := .agg #[.int .i64 (r6 - 1), .string S]) (by simp [results, Try.results49, go_sem, k0, k1]) rfl ⟨_, S, _, rfl, hS, hr8.pairM (C := w.heap.size + 1) (by omega) _ _, by omega, grown_pair G8 (by omega) _ _⟩
  by_cases hm0 : ms.length = 0
  · have R5 := R3
    have P5 := P3
    have G5 := G3
    obtain rfl : ms = [] := List.eq_nil_of_length_eq_zero hm0
    clear hm0
    go_upto_region 4 with fail
    go_wp2_with (go_at_call 48; refine (pick R5.out (by omega) (by omega) (by omega)).mono ?_)
    rintro e w6 ⟨r6, rfl, h60, h61, hr6, g6⟩
    have h62 := h61 (by omega)
    have hw6 : IntKind.i64.wrap (r6 - 1) = r6 - 1 := IntWalk.i64_in _ (by omega)
    have P6 := Lib.hid (P5.out.kept g6 (fun c e => by simp only [Option.some.injEq] at e; omega))
    have G6 := Lib.hid (grown_trans G5.out g6)
    have sh := lit_nine w6 #[.string ⟨#[111]⟩, .string ⟨#[97]⟩, .string ⟨#[101]⟩, .string ⟨#[108]⟩, .string ⟨#[102]⟩, .string ⟨#[114]⟩, .string ⟨#[99]⟩, .string ⟨#[]⟩, .string ⟨#[120]⟩] 9 (fun i hi => by
      have hi9 : i < 9 := hi
      rcases (by omega : i = 0 ∨ i = 1 ∨ i = 2 ∨ i = 3 ∨ i = 4 ∨ i = 5 ∨ i = 6 ∨ i = 7 ∨ i = 8) with rfl | rfl | rfl | rfl | rfl | rfl | rfl | rfl | rfl <;> exact ⟨_, rfl, by decide⟩)
    have q7 := below_alloc w6 (.cells #[.string ⟨#[111]⟩, .string ⟨#[97]⟩, .string ⟨#[101]⟩, .string ⟨#[108]⟩, .string ⟨#[102]⟩, .string ⟨#[114]⟩, .string ⟨#[99]⟩, .string ⟨#[]⟩, .string ⟨#[120]⟩] 9)
    have hg6 := hr6.lt
    obtain ⟨W7, hW7⟩ : ∃ X, X = w6.alloc (.cells #[.string ⟨#[111]⟩, .string ⟨#[97]⟩, .string ⟨#[101]⟩, .string ⟨#[108]⟩, .string ⟨#[102]⟩, .string ⟨#[114]⟩, .string ⟨#[99]⟩, .string ⟨#[]⟩, .string ⟨#[120]⟩] 9) := ⟨_, rfl⟩
    rw [← hW7] at sh q7
    have HW7 := Lib.hid hW7
    have SH := Lib.hid (show Shorts9 W7 (.slice (some ⟨w6.heap.size, 0, none⟩) 9 9) 9 from sh)
    have R7 := Lib.hid (hr6.below q7 hg6)
    have P7 := Lib.hid (P6.out.below q7)
    have G7 := Lib.hid (grown_trans G6.out (grown_of_below q7 (some g)))
    clear hW7 sh q7 hr6 g6 h61
    go_wp2_with (rw [← HW7.out]; go_at_call 77; refine (ofRd9 R7.out SH.out (by omega) (by omega) (by omega) (fun b o k c e => by simp only [Value.slice.injEq, Option.some.injEq, Addr.mk.injEq] at e; omega)).mono ?_)
    rintro e w8 ⟨S, rfl, hS, hr8, g8⟩
    have P8 := Lib.hid (P7.out.kept g8 (fun c e => by simp only [Option.some.injEq] at e; omega))
    have f0 := P8.out.frozen 0
    have f1 := P8.out.frozen 1
    have y0 := P8.out.cell0
    have y1 := P8.out.cell1
    have k0 := ((P8.out.set0 (.int .i64 (r6 - 1))).set1 (.string S)).cell0
    have k1 := ((P8.out.set0 (.int .i64 (r6 - 1))).set1 (.string S)).cell1
    have G8 := grown_trans G7.out g8
    go_wp2_with fail
    exact bodyPost_ret (v := .agg #[.int .i64 (r6 - 1), .string S]) (by simp [results, Try.results49, go_sem, k0, k1]) rfl ⟨_, S, _, rfl, hS, hr8.pairM (C := w.heap.size + 1) (by omega) _ _, by omega, grown_pair G8 (by omega) _ _⟩
  have hm1 : (0 : Int) < (ms.length : Int) := by omega
  clear hm0
  go_wp2_with (go_at_call 48; refine (pick R3.out (by omega) (by omega) (by omega)).mono ?_)
  rintro e w4 ⟨r4, rfl, h40, h41, hr4, g4⟩
  have R5 := Lib.hid hr4
  have P5 := Lib.hid (P3.out.kept g4 (fun c e => by simp only [Option.some.injEq] at e; omega))
  have G5 := Lib.hid (grown_trans G3.out g4)
  have hq5 : p + 1 ≤ p + 1 := Nat.le_refl _
  have O5 := Lib.hid (show OwnM w4 W.heap.size (.slice (some ⟨gm, 0, none⟩) ms.length cm) ms from Ow.kept OM.out g4 (.inr (by intro e; simp only [Value.ownBlock, Option.some.injEq] at e; omega)))
  clear hr4 g4 om h41
  by_cases hr0 : 0 < r4
  · have t1 : decide ((0 : Int) < r4) = true := decide_eq_true hr0
    go_wp2_with (go_at_call 48; refine (pick R5.out (by omega) (by omega) (by omega)).mono ?_)
    rintro e w6 ⟨r6, rfl, h60, h61, hr6, g6⟩
    have h62 := h61 (by omega)
    obtain ⟨j, rfl⟩ : ∃ j : Nat, r6 = j := ⟨r6.toNat, by omega⟩
    have hj : j < ms.length := by omega
    have O6 := Ow.kept O5.out g6 (.inr (by intro e; simp only [Value.ownBlock, Option.some.injEq] at e; omega))
    have m0 := Ow.cell O6 (q := j * 2) (by omega)
    have m1 := Ow.cell O6 (q := j * 2 + 1) (by omega)
    rw [mvF0] at m0
    rw [mvF1] at m1
    have hsz := SZ.out j hj
    obtain ⟨s, hs⟩ : ∃ s, s = (ms.getD j noMv).1 := ⟨_, rfl⟩
    obtain ⟨S, hS⟩ : ∃ s, s = (ms.getD j noMv).2 := ⟨_, rfl⟩
    rw [← hs] at m0
    rw [← hS] at m1 hsz
    have m0' : w6.cell? ⟨gm, 0 + j * 2, none⟩ = some (.int .i64 s) := by rw [Nat.zero_add]; exact m0
    have m1' : w6.cell? ⟨gm, 0 + j * 2 + 1, none⟩ = some (.string S) := by rw [Nat.zero_add]; exact m1
    have hS9 : S.size ≤ 9 := by omega
    have P8 := Lib.hid (P5.out.kept g6 (fun c e => by simp only [Option.some.injEq] at e; omega))
    have f0 := P8.out.frozen 0
    have f1 := P8.out.frozen 1
    have y0 := P8.out.cell0
    have y1 := P8.out.cell1
    have k0 := ((P8.out.set0 (.int .i64 s)).set1 (.string S)).cell0
    have k1 := ((P8.out.set0 (.int .i64 s)).set1 (.string S)).cell1
    have G8 := grown_trans G5.out g6
    clear hs hS hsz O6 h61
    go_wp2_with fail
    exact bodyPost_ret (v := .agg #[.int .i64 s, .string S]) (by simp [results, Try.results49, go_sem, k0, k1]) rfl ⟨_, S, _, rfl, hS9, hr6.pairM (C := w.heap.size + 1) (by omega) _ _, by omega, grown_pair G8 (by omega) _ _⟩
  · have t1 : decide ((0 : Int) < r4) = false := decide_eq_false hr0
    clear hr0
    go_upto_region 4 with fail
    go_wp2_with (go_at_call 48; refine (pick R5.out (by omega) (by omega) (by omega)).mono ?_)
    rintro e w6 ⟨r6, rfl, h60, h61, hr6, g6⟩
    have h62 := h61 (by omega)
    have hw6 : IntKind.i64.wrap (r6 - 1) = r6 - 1 := IntWalk.i64_in _ (by omega)
    have P6 := Lib.hid (P5.out.kept g6 (fun c e => by simp only [Option.some.injEq] at e; omega))
    have G6 := Lib.hid (grown_trans G5.out g6)
    have sh := lit_nine w6 #[.string ⟨#[111]⟩, .string ⟨#[97]⟩, .string ⟨#[101]⟩, .string ⟨#[108]⟩, .string ⟨#[102]⟩, .string ⟨#[114]⟩, .string ⟨#[99]⟩, .string ⟨#[]⟩, .string ⟨#[120]⟩] 9 (fun i hi => by
      have hi9 : i < 9 := hi
      rcases (by omega : i = 0 ∨ i = 1 ∨ i = 2 ∨ i = 3 ∨ i = 4 ∨ i = 5 ∨ i = 6 ∨ i = 7 ∨ i = 8) with rfl | rfl | rfl | rfl | rfl | rfl | rfl | rfl | rfl <;> exact ⟨_, rfl, by decide⟩)
    have q7 := below_alloc w6 (.cells #[.string ⟨#[111]⟩, .string ⟨#[97]⟩, .string ⟨#[101]⟩, .string ⟨#[108]⟩, .string ⟨#[102]⟩, .string ⟨#[114]⟩, .string ⟨#[99]⟩, .string ⟨#[]⟩, .string ⟨#[120]⟩] 9)
    have hg6 := hr6.lt
    obtain ⟨W7, hW7⟩ : ∃ X, X = w6.alloc (.cells #[.string ⟨#[111]⟩, .string ⟨#[97]⟩, .string ⟨#[101]⟩, .string ⟨#[108]⟩, .string ⟨#[102]⟩, .string ⟨#[114]⟩, .string ⟨#[99]⟩, .string ⟨#[]⟩, .string ⟨#[120]⟩] 9) := ⟨_, rfl⟩
    rw [← hW7] at sh q7
    have HW7 := Lib.hid hW7
    have SH := Lib.hid (show Shorts9 W7 (.slice (some ⟨w6.heap.size, 0, none⟩) 9 9) 9 from sh)
    have R7 := Lib.hid (hr6.below q7 hg6)
    have P7 := Lib.hid (P6.out.below q7)
    have G7 := Lib.hid (grown_trans G6.out (grown_of_below q7 (some g)))
    clear hW7 sh q7 hr6 g6 h61
    go_wp2_with (rw [← HW7.out]; go_at_call 77; refine (ofRd9 R7.out SH.out (by omega) (by omega) (by omega) (fun b o k c e => by simp only [Value.slice.injEq, Option.some.injEq, Addr.mk.injEq] at e; omega)).mono ?_)
    rintro e w8 ⟨S, rfl, hS, hr8, g8⟩
    have P8 := Lib.hid (P7.out.kept g8 (fun c e => by simp only [Option.some.injEq] at e; omega))
    have f0 := P8.out.frozen 0
    have f1 := P8.out.frozen 1
    have y0 := P8.out.cell0
    have y1 := P8.out.cell1
    have k0 := ((P8.out.set0 (.int .i64 (r6 - 1))).set1 (.string S)).cell0
    have k1 := ((P8.out.set0 (.int .i64 (r6 - 1))).set1 (.string S)).cell1
    have G8 := grown_trans G7.out g8
    go_wp2_with fail
    exact bodyPost_ret (v := .agg #[.int .i64 (r6 - 1), .string S]) (by simp [results, Try.results49, go_sem, k0, k1]) rfl ⟨_, S, _, rfl, hS, hr8.pairM (C := w.heap.size + 1) (by omega) _ _, by omega, grown_pair G8 (by omega) _ _⟩

end Go.Proofs.Ytpofkfcjnhoamaa

/-
  A drawn line with a drawn move. For codes of at most 1048576 bytes.
-/
namespace Go.Proofs.Ytpofkfcjnhoamaa
open Go.RowKit Go.Sort
set_option linter.unusedVariables false

theorem rdr_move : 107 ≠ 40 := by decide
/-- What is written into a move's box leaves a reader as it is. -/
theorem Rdr.move {X : World} {g p R i : Nat} {x y v : Value} (h : Rdr X g p) (hq : Pair X R x y 40) (hn : ∀ q : Int, x ≠ .int .u8 q ∧ y ≠ .int .u8 q) : Rdr (X.setCell ⟨R, i, none⟩ v) g p := by
  obtain ⟨rv, n, hg, hb, hne⟩ := h
  have hgR : R ≠ g := by
    intro e
    subst e
    unfold Pair at hq
    rw [hg] at hq
    simp only [Option.some.injEq, Obj.cells.injEq] at hq
    exact rdr_move hq.2.1
  have kk := grown_set X R i v
  refine ⟨rv, n, (kk.block g (Array.getElem?_eq_some_iff.1 hg).1 (fun e => hgR (Option.some.inj e).symm)).trans hg, ?_, hne⟩
  obtain ⟨a, cap, rfl, hm, hc⟩ := hb
  refine ⟨a, cap, rfl, hm, ?_⟩
  rcases hc with h0 | ⟨b, o, rfl, hlt, hcell⟩
  · exact .inl h0
  · rcases Nat.eq_zero_or_pos n with h0 | h0
    · exact .inl h0
    have hbR : b ≠ R := by
      intro e
      subst e
      obtain ⟨x', hx', -⟩ := hcell 0 h0
      unfold Pair at hq
      unfold World.cell? at hx'
      simp only [hq] at hx'
      have hmem := Array.mem_of_getElem? hx'
      simp only [List.mem_toArray, List.mem_cons, List.not_mem_nil, or_false] at hmem
      have := hn x'
      rcases hmem with e | e
      · exact this.1 e.symm
      · exact this.2 e.symm
    refine .inr ⟨b, o, rfl, Nat.lt_of_lt_of_le hlt kk.size, fun j hj => ?_⟩
    obtain ⟨x', hx', hr⟩ := hcell j hj
    exact ⟨x', (World.cell?_of_block (kk.block b hlt (fun e => hbR (Option.some.inj e)))).trans hx', hr⟩
theorem RW.other {w X : World} {g Bx base Q R : Nat} {u1 u2 : Value} {l : Ln} {b : Bool} {s0 : Int} {S0 : ByteArray} (h : RW w g Bx base u1 u2 l b Q X) (hp : Pair X R (.int .i64 s0) (.string S0) 40) (hR : w.heap.size < R) (hRg : R < g) (s : Int) (S : ByteArray) :
    RW w g Bx base u1 u2 l b Q ((X.setCell ⟨R, 0, none⟩ (.int .i64 s)).setCell ⟨R, 1, none⟩ (.string S)) := by
  obtain ⟨q, hq, hr⟩ := h.rd
  obtain ⟨x, y, hr2, hs, hb⟩ := h.res
  have a1 := h.hg
  have a2 := h.hgb
  have a3 := h.hb
  obtain ⟨v1, v2, e, o1, o2, ap⟩ := id h.own
  simp only [Value.agg.injEq, Array.mk.injEq, List.cons.injEq, and_true] at e
  obtain ⟨rfl, rfl⟩ := e
  have hRb : R < base := by omega
  refine ⟨⟨q, hq, ?_⟩, ⟨u1, u2, rfl, ?_, ?_, ap⟩, (h.box.other (a := ⟨R, 0, none⟩) (by simp only; omega) _).other (a := ⟨R, 1, none⟩) (by simp only; omega) _, ⟨x, y, (hr2.other (a := ⟨R, 0, none⟩) (by simp only; omega) _).other (a := ⟨R, 1, none⟩) (by simp only; omega) _, hs, hb⟩, (h.bel.setCell (p := ⟨R, 0, none⟩) (by simp only; omega) _).setCell (p := ⟨R, 1, none⟩) (by simp only; omega) _, a1, a2, a3⟩
  · exact (hr.move hp (fun q => ⟨fun e => by simp only [Value.int.injEq, reduceCtorEq, false_and] at e, fun e => by cases e⟩)).move (hp.set0 _) (fun q => ⟨fun e => by simp only [Value.int.injEq, reduceCtorEq, false_and] at e, fun e => by cases e⟩)
  · exact Ow.setBelow (Ow.setBelow o1 (a := ⟨R, 0, none⟩) hRb _) (a := ⟨R, 1, none⟩) hRb _
  · exact (o2.setBelow (a := ⟨R, 0, none⟩) hRb _).setBelow (a := ⟨R, 1, none⟩) hRb _
/-- The move's box of the result. -/
def MB (R : Nat) (X : World) : Prop := ∃ (s : Int) (S : ByteArray), Pair X R (.int .i64 s) (.string S) 40 ∧ S.size ≤ 9

def GS (u1 u2 : Value) (g : Nat) (i : Nat) (v : Value) (_ : World) : Prop :=
  match i with
  | 0 => v = .agg #[u1, u2]
  | 1 => v = .pointer (some ⟨g, 0, none⟩)
  | 2 => v = .agg #[u1, u2]
  | 3 => ∃ (s : Int) (S : ByteArray), v = .agg #[.int .i64 s, .string S] ∧ S.size ≤ 9
  | _ => True
def RWs (w : World) (g Bx base : Nat) (u1 u2 : Value) (l : Ln) (Q : Nat) (D : Nat → Bool) (X : World) : Prop := RW w g Bx base u1 u2 l (D 4) (Q + (if D 3 then 3 else 0)) X ∧ MB (w.heap.size + 1) X
theorem RWs.same {w : World} {g Bx base : Nat} {u1 u2 : Value} {l : Ln} {Q : Nat} {D D' : Nat → Bool} {X : World} (h : RWs w g Bx base u1 u2 l Q D X) (h3 : D' 3 = D 3) (h4 : D' 4 = D 4) : RWs w g Bx base u1 u2 l Q D' X := by
  unfold RWs at h ⊢
  rw [h3, h4]
  exact h
/-- A drawn line and a drawn move. -/
def DrawnLineM (w : World) (e : Ending) (w' : World) : Prop := ∃ (v : Value) (l : Ln) (s : Int) (S : ByteArray), e = .returned (.tuple #[v, .agg #[.int .i64 s, .string S]]) ∧ S.size ≤ 9 ∧ MadeLn w v l w'

set_option maxRecDepth 100000 in
set_option maxHeartbeats 2000000 in
theorem drawLineStep {w : World} {a : Option Addr} {len cap : Nat} {zs : List Int} (h : IsRowK .u8 w a len cap zs) (hl : len ≤ 1048576) :
    Calls Try.prog 17 #[.slice a len cap] w (DrawnLineM w) := by
  obtain ⟨W, hW⟩ : ∃ X, X = (w.alloc (.cells #[.slice none 0 0, .slice none 0 0] 26)).alloc (.cells #[.int .i64 0, .string ⟨#[]⟩] 40) := ⟨_, rfl⟩
  have q0 := (Pair.new w (.slice none 0 0) (.slice none 0 0) 26).alloc (.cells #[.int .i64 0, .string ⟨#[]⟩] 40)
  have q1 := Pair.new (w.alloc (.cells #[.slice none 0 0, .slice none 0 0] 26)) (.int .i64 0) (.string ⟨#[]⟩) 40
  have b0 := chain (below_alloc w (.cells #[.slice none 0 0, .slice none 0 0] 26)) (below_alloc _ (.cells #[.int .i64 0, .string ⟨#[]⟩] 40))
  have hws : (w.alloc (.cells #[.slice none 0 0, .slice none 0 0] 26)).heap.size = w.heap.size + 1 := by simp
  rw [← hW] at q0 q1 b0
  rw [hws] at q1
  have OP := Lib.hid (openRd (w := W) (IsRowK.below h b0) hl)
  have HW := Lib.hid hW.symm
  have B0 := Lib.hid b0
  have Q0 := Lib.hid q0
  have Q1 := Lib.hid q1
  have QL := Lib.hid q1.lt
  clear hW q0 q1 b0 h hws
  go_enter Try.func17, Try.ntmps17
  go_upto_region 1 with fail
  rw [HW.out]
  go_upto_region 2 with (go_at_call 39; refine OP.out.mono ?_; rintro e w1 ⟨g, rfl, hg, hr, b1⟩)
  have DL := Lib.hid (drawLine hr (by omega))
  have HG := Lib.hid (And.intro hg hr.lt)
  have P1 := Lib.hid (Q0.out.below b1)
  have M1 := Lib.hid (Q1.out.below b1)
  have B1 := Lib.hid (B0.out.trans (b1.mono B0.out.size))
  have S1 := Lib.hid b1.size
  clear hg hr b1
  go_upto_region 3 with (go_at_call 38; refine DL.out.mono ?_; rintro e w2 ⟨l, q, v, rfl, o, ⟨-, hl1⟩, hl2, rd, hq, k⟩; obtain ⟨a1, n1, c1, a2, n2, c2, rfl⟩ := own_form o)
  have qb := Pair.new w2 (.slice a1 n1 c1) (.slice a2 n2 c2) 26
  have k1 := below_alloc w2 (.cells #[.slice a1 n1 c1, .slice a2 n2 c2] 26)
  have rw0 : RW w g w2.heap.size w1.heap.size (.slice a1 n1 c1) (.slice a2 n2 c2) l false 40 (w2.alloc (.cells #[.slice a1 n1 c1, .slice a2 n2 c2] 26)) ∧ MB (w.heap.size + 1) (w2.alloc (.cells #[.slice a1 n1 c1, .slice a2 n2 c2] 26)) := by
    have h1 := HG.out
    have h2 := QL.out
    have h3 := S1.out
    have p2 := P1.out.kept k (fun c e => by simp only [Option.some.injEq] at e; omega)
    have m2 := M1.out.kept k (fun c e => by simp only [Option.some.injEq] at e; omega)
    have b2 := B1.out.grown k (by omega) (fun c e => by simp only [Option.some.injEq] at e; omega)
    exact ⟨⟨⟨q, by omega, rd.below k1 rd.lt⟩, o.below k1, qb, ⟨_, _, p2.below k1, ⟨⟨_, _, _, rfl⟩, ⟨_, _, _, rfl⟩⟩, fun e => by cases e⟩, b2.trans (k1.mono b2.size), by omega, by omega, k.size⟩, 0, ⟨#[]⟩, m2.below k1, by decide⟩
  have hgR : w.heap.size + 1 < g := by have := HG.out; have := QL.out; omega
  obtain ⟨V, hV⟩ : ∃ X, X = w2.alloc (.cells #[.slice a1 n1 c1, .slice a2 n2 c2] 26) := ⟨_, rfl⟩
  rw [← hV] at rw0 ⊢
  obtain ⟨Bx, hBx⟩ : ∃ b, b = w2.heap.size := ⟨_, rfl⟩
  rw [← hBx] at rw0 ⊢
  obtain ⟨base, hbase⟩ : ∃ b, b = w1.heap.size := ⟨_, rfl⟩
  rw [← hbase] at rw0
  have R0 := Lib.hid rw0
  have HB := Lib.hid (show w.heap.size ≤ base by have := B0.out.size; have := S1.out; omega)
  clear hV hBx hbase rw0 qb k1 o rd k
  refine wp_region_goodsL (G := GS (.slice a1 n1 c1) (.slice a2 n2 c2) g) (R := RWs w g Bx base (.slice a1 n1 c1) (.slice a2 n2 c2) l 40) (T := fun _ _ _ => True) (by kernel_rfl) (by kernel_rfl) ?start (fun _ _ _ _ _ _ _ _ _ _ h => h) ⟨?s0, ?s1, ?s2, ?s3, ?s4, ?s5, trivial⟩ ?hend
  case start =>
    intro D hD
    unfold RWs
    rw [hD, hD]
    obtain ⟨s, S, hp, hz⟩ := R0.out.2
    exact ⟨R0.out.1.below ((Below.refl _ _).drew), s, S, hp.below ((Below.refl _ _).drew), hz⟩
  case s0 =>
    intro ac wc D D' hDk hDk' hdo hcl hR hrest hdep K hK
    have e0 : ac.tmps.getD 5 undef = .pointer (some ⟨Bx, 0, none⟩) := hrest 5 (by kernel_rfl)
    have f0 := slot_of e0
    have c0 := hR.1.box.cell0
    have c1' := hR.1.box.cell1
    clear hdep hrest
    go_simp
    exact hK _ _ rfl (hR.same (hdo 3 (by decide)) (hdo 4 (by decide))) trivial
  case s1 =>
    intro ac wc D D' hDk hDk' hdo hcl hR hrest hdep K hK
    have e0 : ac.tmps.getD 4 undef = .pointer (some ⟨g, 0, none⟩) := hrest 4 (by kernel_rfl)
    have f0 := slot_of e0
    clear hdep hrest
    go_simp
    exact hK _ _ rfl (hR.same (hdo 3 (by decide)) (hdo 4 (by decide))) trivial
  case s2 =>
    intro ac wc D D' hDk hDk' hdo hcl hR hrest hdep K hK
    have e0 : ac.tmps.getD 5 undef = .pointer (some ⟨Bx, 0, none⟩) := hrest 5 (by kernel_rfl)
    have f0 := slot_of e0
    have c0 := hR.1.box.cell0
    have c1' := hR.1.box.cell1
    clear hdep hrest
    go_simp
    exact hK _ _ rfl (hR.same (hdo 3 (by decide)) (hdo 4 (by decide))) trivial
  case s3 =>
    intro ac wc D D' hDk hDk' hdo hcl hR hrest hdep K hK
    have e0 : ac.tmps.getD 11 undef = .pointer (some ⟨g, 0, none⟩) := hdep 1 (by kernel_rfl)
    have e1 : ac.tmps.getD 12 undef = .agg #[.slice a1 n1 c1, .slice a2 n2 c2] := hdep 2 (by kernel_rfl)
    have f0 := slot_of e0
    have f1 := slot_of e1
    clear hdep hrest
    unfold RWs at hR
    rw [hDk] at hR
    obtain ⟨hR, s0, S0, hp, hz⟩ := hR
    obtain ⟨q1, hq1, hr1⟩ := hR.rd
    simp only [Bool.false_eq_true, if_false] at hq1
    have DM := Lib.hid (drawMove hr1 (by omega) (hR.own.lineV (by omega) (by omega)))
    go_simp
    refine DM.out.mono ?_
    rintro e w4 ⟨s, S, q4, rfl, hS, hr4, hq4, g4⟩
    refine hK _ _ ⟨s, S, rfl, hS⟩ ?_ trivial
    unfold RWs
    rw [hDk', hdo 4 (by decide)]
    exact ⟨(hR.grown g4 hr4).more (by simp only [if_true]; omega), s0, S0, hp.kept g4 (fun c e => by simp only [Option.some.injEq] at e; omega), hz⟩
  case s4 =>
    intro ac wc D D' hDk hDk' hdo hcl hR hrest hdep K hK
    have e0 : ac.tmps.getD 2 undef = .pointer (some ⟨w.heap.size, 0, none⟩) := hrest 2 (by kernel_rfl)
    have e1 : ac.tmps.getD 10 undef = .agg #[.slice a1 n1 c1, .slice a2 n2 c2] := hdep 0 (by kernel_rfl)
    have f0 := slot_of e0
    have f1 := slot_of e1
    clear hdep hrest
    obtain ⟨hR, s0, S0, hp, hz⟩ := hR
    obtain ⟨x, y, hp2, -⟩ := hR.res
    have c0 := hp2.cell0
    have c1' := hp2.cell1
    have d0 := hp2.frozen 0
    have d1 := hp2.frozen 1
    have HE := Lib.hid (show RWs w g Bx base (.slice a1 n1 c1) (.slice a2 n2 c2) l 40 D' _ from by
      unfold RWs
      rw [hDk', hdo 3 (by decide)]
      exact ⟨hR.store, s0, S0, (hp.other (a := ⟨w.heap.size, 0, none⟩) (by simp only; omega) _).other (a := ⟨w.heap.size, 1, none⟩) (by simp only; omega) _, hz⟩)
    clear hR hp hp2
    go_simp
    exact hK undef _ trivial HE.out trivial
  case s5 =>
    intro ac wc D D' hDk hDk' hdo hcl hR hrest hdep K hK
    have e0 : ac.tmps.getD 3 undef = .pointer (some ⟨w.heap.size + 1, 0, none⟩) := hrest 3 (by kernel_rfl)
    obtain ⟨s, S, e1, hS⟩ : ∃ (s : Int) (S : ByteArray), ac.tmps.getD 13 undef = .agg #[.int .i64 s, .string S] ∧ S.size ≤ 9 := hdep 3 (by kernel_rfl)
    have f0 := slot_of e0
    have f1 := slot_of e1
    clear hdep hrest
    obtain ⟨hR, s0, S0, hp, hz⟩ := hR
    have c0 := hp.cell0
    have c1' := hp.cell1
    have d0 := hp.frozen 0
    have d1 := hp.frozen 1
    have HE := Lib.hid (show RWs w g Bx base (.slice a1 n1 c1) (.slice a2 n2 c2) l 40 D' _ from by
      unfold RWs
      rw [hdo 4 (by decide), hdo 3 (by decide)]
      exact ⟨hR.other hp (by omega) hgR s S, s, S, (hp.set0 _).set1 _, hS⟩)
    clear hR hp
    go_simp
    exact hK undef _ trivial HE.out trivial
  case hend =>
    rintro ⟨tm, df⟩ w' D hD hsz hdf hR hrest hgood
    have hdf' : df = [] := hdf
    subst hdf'
    unfold RWs at hR
    rw [hD 4 (by decide)] at hR
    obtain ⟨hR, s, S, hm, hz⟩ := hR
    obtain ⟨x1, y1, hp, -, hxy⟩ := hR.res
    obtain ⟨rfl, rfl⟩ := hxy rfl
    have hw2 : tm.getD 2 undef = .pointer (some ⟨w.heap.size, 0, none⟩) := hrest 2 (by kernel_rfl)
    have hw3 : tm[2]?.getD undef = _ := slot_of (a := ⟨tm, []⟩) hw2
    have hw4 : tm.getD 3 undef = .pointer (some ⟨w.heap.size + 1, 0, none⟩) := hrest 3 (by kernel_rfl)
    have hw5 : tm[3]?.getD undef = _ := slot_of (a := ⟨tm, []⟩) hw4
    have r0 := hp.cell0
    have r1 := hp.cell1
    have r2 := hm.cell0
    have r3 := hm.cell1
    have HN := Lib.hid (And.intro (hR.own.mono HB.out) hR.bel)
    clear hp hgood hR hm
    go_wp2_with fail
    refine bodyPost_ret (v := .tuple #[.agg #[.slice a1 n1 c1, .slice a2 n2 c2], .agg #[.int .i64 s, .string S]]) (by simp [results, Try.results17, go_sem, r0, r1, r2, r3, hw3, hw5]) rfl ⟨_, l, s, S, rfl, hz, HN.out.1, hl1, hl2, HN.out.2⟩

end Go.Proofs.Ytpofkfcjnhoamaa

/-
  Drawn moves of a line. For codes of at most 1048576 bytes.
-/
namespace Go.Proofs.Ytpofkfcjnhoamaa
open Go.RowKit Go.Sort
set_option linter.unusedVariables false

/-- While moves are drawn: the line in its box, the moves so far, the reader. -/
structure MvSt (w : World) (g base Q : Nat) (u1 u2 vo : Value) (l : Ln) (ms : List Mv) (X : World) : Prop where
  rd : ∃ q, q ≤ Q ∧ Rdr X g q
  own : OwnLine X base (.agg #[u1, u2]) l
  box : Pair X w.heap.size u1 u2 26
  out : OwnM X w.heap.size vo ms
  grw : w.grownBy X (some g)
  hg : g < base
  hb : base ≤ w.heap.size
theorem OwnLine.pickL {X Y : World} {g base : Nat} {u1 u2 : Value} {l : Ln} (h : OwnLine X base (.agg #[u1, u2]) l) (k : X.grownBy Y (some g)) (hg : g < base) : OwnLine Y base (.agg #[u1, u2]) l := by
  obtain ⟨v1, v2, e, o1, o2, ap⟩ := h
  simp only [Value.agg.injEq, Array.mk.injEq, List.cons.injEq, and_true] at e
  obtain ⟨rfl, rfl⟩ := e
  refine ⟨u1, u2, rfl, Ow.kept o1 k (.inr fun e => ?_), o2.kept k (.inr fun e => ?_), ap⟩
  · have := (Ow.under o1 g (by first | exact e | exact e.symm)).1; omega
  · have := (o2.under g (by first | exact e | exact e.symm)).1; omega
theorem OwnM.pickM {X Y : World} {g base : Nat} {v : Value} {ms : List Mv} (h : OwnM X base v ms) (k : X.grownBy Y (some g)) (hg : g < base) : OwnM Y base v ms :=
  Ow.kept h k (.inr fun e => by have := (Ow.under h g (by first | exact e | exact e.symm)).1; omega)
theorem MvSt.below {w X Y : World} {g base Q : Nat} {u1 u2 vo : Value} {l : Ln} {ms : List Mv} (h : MvSt w g base Q u1 u2 vo l ms X) (k : Below X.heap.size X Y) : MvSt w g base Q u1 u2 vo l ms Y := by
  obtain ⟨q, hq, hr⟩ := h.rd
  exact ⟨⟨q, hq, hr.below k hr.lt⟩, h.own.below k, h.box.below k, Ow.below h.out k, grown_late h.grw (grown_of_below k none) (fun _ e => by cases e), h.hg, h.hb⟩
theorem MvSt.pick {w X Y : World} {g base Q q : Nat} {u1 u2 vo : Value} {l : Ln} {ms : List Mv} (h : MvSt w g base Q u1 u2 vo l ms X) (k : X.grownBy Y (some g)) (hr : Rdr Y g q) : MvSt w g base q u1 u2 vo l ms Y := by
  have a := h.hg
  have b := h.hb
  exact ⟨⟨q, Nat.le_refl _, hr⟩, h.own.pickL k a, h.box.kept k (fun c e => by simp only [Option.some.injEq] at e; omega), OwnM.pickM h.out k (by omega), grown_trans h.grw k, a, b⟩
/-- A move put behind the others. -/
theorem MvSt.push {w X Y : World} {g base Q : Nat} {u1 u2 vo vo' : Value} {l : Ln} {ms : List Mv} {m : Mv} (h : MvSt w g base Q u1 u2 vo l ms X) (k : X.grownBy Y vo.ownBlock) (ho : OwnM Y w.heap.size vo' (ms ++ [m])) : MvSt w g base Q u1 u2 vo' l (ms ++ [m]) Y := by
  have a := h.hg
  have b := h.hb
  obtain ⟨q, hq, hr⟩ := h.rd
  obtain ⟨v1, v2, e, o1, o2, ap⟩ := h.own
  simp only [Value.agg.injEq, Array.mk.injEq, List.cons.injEq, and_true] at e
  obtain ⟨rfl, rfl⟩ := e
  have lo : ∀ c, vo.ownBlock = some c → w.heap.size ≤ c := fun c e => (Ow.under h.out c e).1
  have n1 := (apart_types o1 h.out (by decide)).1
  have n2 := (apart_types (ownI_ow o2) h.out (by decide)).1
  refine ⟨⟨q, hq, hr.grown k (fun c e => by have := lo c e; omega)⟩, ⟨u1, u2, rfl, Ow.kept o1 k n1, o2.kept k n2, ap⟩, h.box.kept k (fun c e e2 => ?_), ho, grown_late h.grw k lo, a, b⟩
  exact away_types h.out h.box (by decide) (by rw [e2]; exact e)
/-- The line behind a move stored into its box. -/
theorem MvSt.store {w X : World} {g base b2 Q : Nat} {u1 u2 vo v1 v2 : Value} {l x : Ln} {ms : List Mv} (h : MvSt w g base Q u1 u2 vo l ms X) (o : OwnLine X b2 (.agg #[v1, v2]) x) (hb2 : w.heap.size < b2) :
    MvSt w g base Q v1 v2 vo x ms ((X.setCell ⟨w.heap.size, 0, none⟩ v1).setCell ⟨w.heap.size, 1, none⟩ v2) := by
  have a := h.hg
  have b := h.hb
  obtain ⟨q, hq, hr⟩ := h.rd
  obtain ⟨y1, y2, e, o1, o2, ap⟩ := o
  simp only [Value.agg.injEq, Array.mk.injEq, List.cons.injEq, and_true] at e
  obtain ⟨rfl, rfl⟩ := e
  have n := away_types h.out h.box (by decide)
  refine ⟨⟨q, hq, hr.pair (by omega) _ _⟩, ⟨v1, v2, rfl, ?_, ?_, ap⟩, stored_pair h.box, ?_, grown_pair h.grw (Nat.le_refl _) _ _, a, b⟩
  · exact Ow.mono (Ow.setBelow (Ow.setBelow o1 (a := ⟨w.heap.size, 0, none⟩) hb2 _) (a := ⟨w.heap.size, 1, none⟩) hb2 _) (by omega)
  · exact ((o2.setBelow (a := ⟨w.heap.size, 0, none⟩) hb2 _).setBelow (a := ⟨w.heap.size, 1, none⟩) hb2 _).mono (by omega)
  · have h1 := ownsRow_setCell_other h.out (a := ⟨w.heap.size, 0, none⟩) n v1
    exact ownsRow_setCell_other h1 (a := ⟨w.heap.size, 1, none⟩) n v2
/-- Letters of one byte. -/
def Ones (ms : List Mv) : Prop := ∀ i, i < ms.length → (ms.getD i noMv).2.size = 1
theorem Ones.snoc {ms : List Mv} {m : Mv} (h : Ones ms) (hm : m.2.size = 1) : Ones (ms ++ [m]) := by
  intro i hi
  rw [List.length_append, List.length_singleton] at hi
  by_cases e : i < ms.length
  · have q : (ms ++ [m]).getD i noMv = ms.getD i noMv := by simp [List.getD_eq_getElem?_getD, List.getElem?_append_left e]
    rw [q]; exact h i e
  · have e2 : i = ms.length := by omega
    subst e2
    have q : (ms ++ [m]).getD ms.length noMv = m := by simp [List.getD_eq_getElem?_getD]
    rw [q]; exact hm
/-- Drawn moves. -/
def DrawnMoves (w : World) (g p : Nat) (e : Ending) (w' : World) : Prop :=
  ∃ (v : Value) (ms : List Mv) (q : Nat), e = .returned v ∧ OwnM w' w.heap.size v ms ∧ ms.length ≤ 13 ∧ Ones ms ∧ Rdr w' g q ∧ q ≤ p + 20 ∧ w.grownBy w' (some g)

set_option maxRecDepth 100000 in
set_option maxHeartbeats 4000000 in
theorem drawMoves {w : World} {g p base : Nat} {v : Value} {l : Ln} (h : Rdr w g p) (hp : p ≤ 1000) (ho : OwnLine w base v l) (hg : g < base) (hb : base ≤ w.heap.size) (hl1 : l.1.length ≤ 5) (hl2 : l.2.length ≤ 6) :
    Calls Try.prog 53 #[.pointer (some ⟨g, 0, none⟩), v] w (DrawnMoves w g p) := by
  obtain ⟨i0, hi, hz0, hz1, hz2⟩ := info_parts info_move
  obtain ⟨a1, n1, c1, a2, n2, c2, rfl⟩ := own_form ho
  obtain ⟨W, hW⟩ : ∃ X, X = (w.alloc (.cells #[.slice a1 n1 c1, .slice a2 n2 c2] 26)).alloc (.cells #[] 40) := ⟨_, rfl⟩
  have hws : (w.alloc (.cells #[.slice a1 n1 c1, .slice a2 n2 c2] 26)).heap.size = w.heap.size + 1 := by simp
  have b1 := below_alloc w (.cells #[.slice a1 n1 c1, .slice a2 n2 c2] 26)
  have b2 := below_alloc (w.alloc (.cells #[.slice a1 n1 c1, .slice a2 n2 c2] 26)) (.cells #[] 40)
  have b0 := chain b1 b2
  have om : OwnM W w.heap.size (.slice (some ⟨w.heap.size + 1, 0, none⟩) 0 0) [] := by
    have r := World.ownsRow_lit (w.alloc (.cells #[.slice a1 n1 c1, .slice a2 n2 c2] 26)) (e := 40) (size := 2) #[] 0 (Nat.le_refl _) (by simp [maxLen]) (by simp)
    rw [hW, ← hws]
    exact Ow.mono (show Ow _ _ 40 2 _ 0 (mvF []) from r) (by omega)
  have st : MvSt w g base p (.slice a1 n1 c1) (.slice a2 n2 c2) (.slice (some ⟨w.heap.size + 1, 0, none⟩) 0 0) l [] W := by
    refine ⟨⟨p, Nat.le_refl _, ?_⟩, ?_, ?_, om, ?_, hg, hb⟩
    · rw [hW]; exact h.below b0 h.lt
    · rw [hW]; exact ho.below b0
    · rw [hW]; exact (Pair.new w _ _ _).alloc _
    · rw [hW]; exact grown_of_below b0 (some g)
  have HW := Lib.hid hW.symm
  have ST := Lib.hid st
  clear hW b1 b2 b0 om st h ho
  go_enter Try.func53, Try.ntmps53
  go_upto_region 2 with fail
  obtain ⟨q0, hq0, hr0⟩ := ST.out.rd
  rw [HW.out]
  go_wp2_with (go_at_call 48; refine (pick hr0 (by omega) (by omega) (by omega)).mono ?_)
  rintro e w2 ⟨N, rfl, hN0, hN1, hr2, g2⟩
  have hN2 := hN1 (by omega)
  have S2 := Lib.hid ((ST.out.pick g2 hr2))
  have O2 := Lib.hid (show Ones [] from fun i hi => by simp at hi)
  clear hr0 hr2 g2 hN1
  go_wp2_with fail
  go_loopw [5, 7, 8, 9] (fun o i _ _ wr => ∃ (k Q : Nat) (l' : Ln) (ms : List Mv) (u1 u2 : Value), (k : Int) ≤ N ∧ i = .int .i64 k ∧ Q ≤ p + 1 + k ∧ ms.length ≤ k ∧ (l'.1.length ≤ 5 ∧ l'.2.length ≤ 6) ∧ Hid (Ones ms) ∧ Hid (MvSt w g base Q u1 u2 o l' ms wr)) (fun _ i _ _ _ => (12 - intOf i).toNat)
  case atStart => exact ⟨0, q0 + 1, l, [], _, _, by omega, rfl, by omega, by simp, ⟨hl1, hl2⟩, O2, S2⟩
  case round =>
    obtain ⟨k, Q, l', ms, u1, u2, hk, rfl, hQ, hml, hll, OM, SS⟩ := hrel
    obtain ⟨aL, nL, cL, aT, nT, cT, e⟩ := own_form SS.out.own
    simp only [Value.agg.injEq, Array.mk.injEq, List.cons.injEq, and_true] at e
    obtain ⟨rfl, rfl⟩ := e
    have hk12 : k ≤ 11 := by omega
    by_cases hlt : (k : Int) < N
    · have x0 := SS.out.box.cell0
      have x1 := SS.out.box.cell1
      have LM := Lib.hid (specLineMoves (SS.out.own.lineV (by omega) (by omega)))
      have SZ := fun i (hi : i < (lnMoves l').length) => lnMoves_one hi
      have DO := fun i (hi : i < (lnMoves l').length) => lnMoves_do hi
      have LL := lnMoves_len l'
      obtain ⟨ns, hns⟩ : ∃ ns, ns = lnMoves l' := ⟨_, rfl⟩
      rw [← hns] at LM LL
      simp only [← hns] at SZ DO
      have SZ := Lib.hid SZ
      have DO := Lib.hid DO
      clear hns
      go_wp2_with (go_at_call 29; refine LM.out.mono ?_)
      rintro e w4 ⟨vm, rfl, om, b4⟩
      have S4 := Lib.hid (SS.out.below b4)
      have OW := Lib.hid om
      clear x0 x1 b4
      rcases Ow.shape om with ⟨rfl, h0⟩ | ⟨gm, cm, rfl, hgm, hgl, hnc⟩
      · clear om
        go_wp2_with fail
        go_ret
        obtain ⟨q, hq, hr⟩ := S4.out.rd
        exact ⟨_, ms, q, rfl, S4.out.out, by omega, OM.out, hr, by omega, S4.out.grw⟩
      by_cases hm0 : ns.length = 0
      · have t0 : ((ns.length : Int) == 0) = true := by rw [hm0]; rfl
        clear hm0 om
        go_wp2_with fail
        go_ret
        obtain ⟨q, hq, hr⟩ := S4.out.rd
        exact ⟨_, ms, q, rfl, S4.out.out, by omega, OM.out, hr, by omega, S4.out.grw⟩
      have t0 : ((ns.length : Int) == 0) = false := beq_eq_false_iff_ne.2 (by omega)
      have hn35 : ns.length ≤ 35 := by omega
      have hn1 : 0 < ns.length := by omega
      obtain ⟨q4, hq4, hr4⟩ := S4.out.rd
      have hgw : g < w.heap.size := Nat.lt_of_lt_of_le S4.out.hg S4.out.hb
      have hws4 : w.heap.size ≤ wr.heap.size := SS.out.grw.size
      clear hm0 om
      go_wp2_with (go_at_call 48; refine (pick hr4 (by omega) (by omega) (by omega)).mono ?_)
      rintro e w6 ⟨r6, rfl, h60, h61, hr6, g6⟩
      have h62 := h61 (by omega)
      obtain ⟨j, rfl⟩ : ∃ j : Nat, r6 = j := ⟨r6.toNat, by omega⟩
      have hj : j < ns.length := by omega
      have O6 := OwnM.pickM OW.out g6 (by omega)
      have m0 := Ow.cell O6 (q := j * 2) (by omega)
      have m1 := Ow.cell O6 (q := j * 2 + 1) (by omega)
      rw [mvF0] at m0
      rw [mvF1] at m1
      have hsz := SZ.out j hj
      obtain ⟨x, hxd, hxl1, hxl2⟩ := DO.out j hj
      obtain ⟨s, hs⟩ : ∃ s, s = (ns.getD j noMv).1 := ⟨_, rfl⟩
      obtain ⟨S, hS⟩ : ∃ s, s = (ns.getD j noMv).2 := ⟨_, rfl⟩
      have hxd : lnStep l' (s, S) = some x := by rw [hs, hS]; exact hxd
      rw [← hs] at m0
      rw [← hS] at m1 hsz
      have m0' : w6.cell? ⟨gm, 0 + j * 2, none⟩ = some (.int .i64 s) := by rw [Nat.zero_add]; exact m0
      have m1' : w6.cell? ⟨gm, 0 + j * 2 + 1, none⟩ = some (.string S) := by rw [Nat.zero_add]; exact m1
      have S6 := Lib.hid (S4.out.pick g6 hr6)
      have hw6 : w4.heap.size ≤ w6.heap.size := g6.size
      have pm := Pair.new w6 (.int .i64 s) (.string S) 40
      have q7 := below_alloc w6 (.cells #[.int .i64 s, .string S] 40)
      obtain ⟨V, hV⟩ : ∃ X, X = w6.alloc (.cells #[.int .i64 s, .string S] 40) := ⟨_, rfl⟩
      rw [← hV] at pm q7
      have HV := Lib.hid hV.symm
      have SV := Lib.hid (S6.out.below q7)
      have PM := Lib.hid pm
      obtain ⟨C, hC⟩ : ∃ C, C = w6.heap.size := ⟨_, rfl⟩
      have hCn : ∀ c, u5.ownBlock = some c → c < C := fun c e => by have := (Ow.under S6.out.out c e).2; omega
      have hCw : w.heap.size ≤ C := by omega
      rw [← hC] at pm
      have PM := Lib.hid pm
      have HSZ := Lib.hid hsz
      have HXD := Lib.hid hxd
      clear hr4 hr6 g6 O6 hs hS h61 hV q7 hsz hxd
      go_upto_region 10 with fail
      rw [HV.out, ← hC]
      clear m0 m1 m0' m1' hC HV
      have y0 := pm.cell0
      have y1 := pm.cell1
      clear pm
      obtain ⟨XS, hXS⟩ : ∃ XS, XS = (List.range (ms.length * 2)).map (mvF ms) := ⟨_, rfl⟩
      have ownA : (V.alloc (.cells #[.int .i64 s, .string S] 40)).ownsRow w.heap.size 40 2 u5 ms.length XS := by
        have := Ow.below SV.out.out (below_alloc V (.cells #[.int .i64 s, .string S] 40))
        unfold Ow at this
        rw [← hXS] at this
        exact this
      have hsV : w.heap.size ≤ V.heap.size := SV.out.grw.size
      have XSH := Lib.hid hXS
      clear hXS
      go_wp2_with (at_builtin; refine wpList_append_own _ rfl _ _ 47 rfl w.heap.size 40 i0 (.agg #[.int .i64 0, .string ⟨#[]⟩]) 2 24 Try.underlying47 hi hz0 hz1 hz2 rfl (by decide) _ _ _ rfl ownA ⟨V.heap.size, 0, none⟩ 1 1 [.int .i64 s, .string S] rfl rfl ?c1 ?c2 ?c3 ?c4 ?c5 ?_)
      case c1 => exact lit_two _ _ _ _
      case c2 => intro u hu; simp at hu; rcases hu with rfl | rfl <;> rfl
      case c3 => simp only [maxLen]; omega
      case c4 => omega
      case c5 => simp; omega
      intro v' w7 hown' hgrow _
      have hO7 : OwnM w7 w.heap.size v' (ms ++ [(s, S)]) := by
        unfold OwnM Ow
        rw [mvs_cells, ← XSH.out, List.length_append]
        exact hown'
      have S7 := Lib.hid ((SV.out.below (below_alloc V (.cells #[.int .i64 s, .string S] 40))).push hgrow hO7)
      have P7 := Lib.hid ((PM.out.alloc (.cells #[.int .i64 s, .string S] 40)).kept hgrow (fun c e e2 => by have := hCn c e; omega))
      have O7 := Lib.hid (OM.out.snoc (m := (s, S)) HSZ.out)
      clear hown' hgrow hO7 y0 y1 ownA
      have x0 := S7.out.box.cell0
      have x1 := S7.out.box.cell1
      have f0 := S7.out.box.frozen 0
      have f1 := S7.out.box.frozen 1
      have z0 := P7.out.cell0
      have z1 := P7.out.cell1
      have LS := specLineStep (s := s) (S := S) (S7.out.own.lineV (by omega) (by omega))
      rw [HXD.out] at LS
      have LS := Lib.hid (show Calls Try.prog 18 #[.agg #[.slice aL nL cL, .slice aT nT cT], .agg #[.int .i64 s, .string S]] w7 (MadeLineB w7 x true) from LS)
      have hw7 : w.heap.size < w7.heap.size := S7.out.box.lt
      go_wp2_with (go_at_call 18; refine LS.out.mono ?_)
      rintro e w8 ⟨v8, rfl, o8, b8⟩
      obtain ⟨a3, n3, d3, a4, n4, d4, rfl⟩ := own_form o8
      have S8 := S7.out.below b8
      have S9 := Lib.hid (S8.store o8 hw7)
      clear x0 x1 f0 f1 z0 z1
      have x0 := S8.box.cell0
      have x1 := S8.box.cell1
      have f0 := S8.box.frozen 0
      have f1 := S8.box.frozen 1
      clear S8 o8 b8
      go_wp2_with fail
      go_roundw
      case rel => exact ⟨k + 1, q4 + 1, x, ms ++ [(s, S)], _, _, by omega, by go_num, by omega, by simp; omega, by omega, O7, S9⟩
      case measure => simp [intOf]; omega
    · clear hk
      obtain ⟨q4, hq4, hr4⟩ := SS.out.rd
      go_wp2_with (go_at_call 48; refine (pick hr4 (by omega) (by omega) (by omega)).mono ?_)
      rintro e w4 ⟨r, rfl, h40, h41, hr5, g5⟩
      have S5 := Lib.hid (SS.out.pick g5 hr5)
      clear hr4 hr5 g5 h41
      by_cases h0 : r = 0
      · subst h0
        obtain ⟨q5, hq5, hr5⟩ := S5.out.rd
        go_wp2_with (go_at_call 48; refine (pick hr5 (by omega) (by omega) (by omega)).mono ?_)
        rintro e w6 ⟨s, rfl, h60, h61, hr6, g6⟩
        have SV := Lib.hid (S5.out.pick g6 hr6)
        clear hr5 hr6 g6 h61
        obtain ⟨XS, hXS⟩ : ∃ XS, XS = (List.range (ms.length * 2)).map (mvF ms) := ⟨_, rfl⟩
        have ownA : (w6.alloc (.cells #[.int .i64 s, .string ⟨#[101]⟩] 40)).ownsRow w.heap.size 40 2 u5 ms.length XS := by
          have := Ow.below SV.out.out (below_alloc w6 (.cells #[.int .i64 s, .string ⟨#[101]⟩] 40))
          unfold Ow at this
          rw [← hXS] at this
          exact this
        have hsV : w.heap.size ≤ w6.heap.size := SV.out.grw.size
        have XSH := Lib.hid hXS
        clear hXS
        go_wp2_with (at_builtin; refine wpList_append_own _ rfl _ _ 47 rfl w.heap.size 40 i0 (.agg #[.int .i64 0, .string ⟨#[]⟩]) 2 24 Try.underlying47 hi hz0 hz1 hz2 rfl (by decide) _ _ _ rfl ownA ⟨w6.heap.size, 0, none⟩ 1 1 [.int .i64 s, .string ⟨#[101]⟩] rfl rfl ?c1 ?c2 ?c3 ?c4 ?c5 ?_)
        case c1 => exact lit_two _ _ _ _
        case c2 => intro u hu; simp at hu; rcases hu with rfl | rfl <;> rfl
        case c3 => simp only [maxLen]; omega
        case c4 => omega
        case c5 => simp; omega
        intro v' w7 hown' hgrow _
        have hO7 : OwnM w7 w.heap.size v' (ms ++ [(s, ⟨#[101]⟩)]) := by
          unfold OwnM Ow
          rw [mvs_cells, ← XSH.out, List.length_append]
          exact hown'
        have S7 := Lib.hid ((SV.out.below (below_alloc w6 (.cells #[.int .i64 s, .string ⟨#[101]⟩] 40))).push hgrow hO7)
        have O7 := Lib.hid (OM.out.snoc (m := (s, ⟨#[101]⟩)) rfl)
        clear hown' hgrow ownA
        obtain ⟨q7, hq7, hr7⟩ := S7.out.rd
        go_wp2_with fail
        go_ret
        exact ⟨_, _, q7, rfl, S7.out.out, by simp; omega, O7.out, hr7, by omega, S7.out.grw⟩
      · have t0 : (r == 0) = false := beq_eq_false_iff_ne.2 h0
        clear h0
        obtain ⟨q7, hq7, hr7⟩ := S5.out.rd
        go_wp2_with fail
        go_ret
        exact ⟨_, ms, q7, rfl, S5.out.out, by omega, OM.out, hr7, by omega, S5.out.grw⟩

end Go.Proofs.Ytpofkfcjnhoamaa

/-
  A drawn line with drawn moves. For codes of at most 1048576 bytes.
-/
namespace Go.Proofs.Ytpofkfcjnhoamaa
open Go.RowKit Go.Sort
set_option linter.unusedVariables false

/-- A drawn line and drawn moves. -/
def DrawnLineR (w : World) (e : Ending) (w' : World) : Prop := ∃ (v u : Value) (l : Ln) (ms : List Mv), e = .returned (.tuple #[v, u]) ∧ OwnM w' w.heap.size u ms ∧ ms.length ≤ 13 ∧ Ones ms ∧ MadeLn w v l w'
def GR (u1 u2 : Value) (g b0 : Nat) (i : Nat) (v : Value) (X : World) : Prop :=
  match i with
  | 0 => v = .agg #[u1, u2]
  | 1 => v = .pointer (some ⟨g, 0, none⟩)
  | 2 => v = .agg #[u1, u2]
  | 3 => ∃ ms : List Mv, OwnM X b0 v ms ∧ ms.length ≤ 13 ∧ Ones ms
  | 5 => ∃ ms : List Mv, OwnM X b0 v ms ∧ ms.length ≤ 13 ∧ Ones ms
  | _ => True
theorem GR.kept {u1 u2 : Value} {g b0 : Nat} (i : Nat) (v : Value) (X Y : World) (k : ∀ v ms, OwnM X b0 v ms → OwnM Y b0 v ms) (h : GR u1 u2 g b0 i v X) : GR u1 u2 g b0 i v Y := by
  unfold GR at h ⊢
  split at h <;> first | exact h | (obtain ⟨ms, h1, h2⟩ := h; exact ⟨ms, k _ _ h1, h2⟩)
def RWr (w : World) (g Bx base : Nat) (u1 u2 : Value) (l : Ln) (Q b0 : Nat) (D : Nat → Bool) (X : World) : Prop := RW w g Bx base u1 u2 l (D 4) (Q + (if D 3 then 20 else 0)) X ∧ b0 ≤ X.heap.size
theorem RWr.same {w : World} {g Bx base : Nat} {u1 u2 : Value} {l : Ln} {Q b0 : Nat} {D D' : Nat → Bool} {X : World} (h : RWr w g Bx base u1 u2 l Q b0 D X) (h3 : D' 3 = D 3) (h4 : D' 4 = D 4) : RWr w g Bx base u1 u2 l Q b0 D' X := by
  unfold RWr at h ⊢
  rw [h3, h4]
  exact h

set_option maxRecDepth 100000 in
set_option maxHeartbeats 2000000 in
theorem drawLineRun {w : World} {a : Option Addr} {len cap : Nat} {zs : List Int} (h : IsRowK .u8 w a len cap zs) (hl : len ≤ 1048576) :
    Calls Try.prog 22 #[.slice a len cap] w (DrawnLineR w) := by
  have q0 := Pair.new w (.slice none 0 0) (.slice none 0 0) 26
  have b0 := below_alloc w (.cells #[.slice none 0 0, .slice none 0 0] 26)
  obtain ⟨W, hW⟩ : ∃ X, X = w.alloc (.cells #[.slice none 0 0, .slice none 0 0] 26) := ⟨_, rfl⟩
  rw [← hW] at q0 b0
  have OP := Lib.hid (openRd (w := W) (IsRowK.below h b0) hl)
  have HW := Lib.hid hW.symm
  have B0 := Lib.hid b0
  have Q0 := Lib.hid q0
  have QL := Lib.hid q0.lt
  clear hW q0 b0 h
  go_enter Try.func22, Try.ntmps22
  go_upto_region 1 with fail
  rw [HW.out]
  go_upto_region 2 with (go_at_call 39; refine OP.out.mono ?_; rintro e w1 ⟨g, rfl, hg, hr, b1⟩)
  have DL := Lib.hid (drawLine hr (by omega))
  have HG := Lib.hid (And.intro hg hr.lt)
  have P1 := Lib.hid (Q0.out.below b1)
  have B1 := Lib.hid (B0.out.trans (b1.mono B0.out.size))
  have S1 := Lib.hid b1.size
  clear hg hr b1
  go_upto_region 3 with (go_at_call 38; refine DL.out.mono ?_; rintro e w2 ⟨l, q, v, rfl, o, ⟨-, hl1⟩, hl2, rd, hq, k⟩; obtain ⟨a1, n1, c1, a2, n2, c2, rfl⟩ := own_form o)
  have qb := Pair.new w2 (.slice a1 n1 c1) (.slice a2 n2 c2) 26
  have k1 := below_alloc w2 (.cells #[.slice a1 n1 c1, .slice a2 n2 c2] 26)
  have rw0 : RW w g w2.heap.size w1.heap.size (.slice a1 n1 c1) (.slice a2 n2 c2) l false 40 (w2.alloc (.cells #[.slice a1 n1 c1, .slice a2 n2 c2] 26)) := by
    have h1 := HG.out
    have h2 := QL.out
    have h3 := S1.out
    have p2 := P1.out.kept k (fun c e => by simp only [Option.some.injEq] at e; omega)
    have b2 := B1.out.grown k (by omega) (fun c e => by simp only [Option.some.injEq] at e; omega)
    exact ⟨⟨q, by omega, rd.below k1 rd.lt⟩, o.below k1, qb, ⟨_, _, p2.below k1, ⟨⟨_, _, _, rfl⟩, ⟨_, _, _, rfl⟩⟩, fun e => by cases e⟩, b2.trans (k1.mono b2.size), by omega, by omega, k.size⟩
  obtain ⟨V, hV⟩ : ∃ X, X = w2.alloc (.cells #[.slice a1 n1 c1, .slice a2 n2 c2] 26) := ⟨_, rfl⟩
  rw [← hV] at rw0 ⊢
  obtain ⟨Bx, hBx⟩ : ∃ b, b = w2.heap.size := ⟨_, rfl⟩
  rw [← hBx] at rw0 ⊢
  obtain ⟨base, hbase⟩ : ∃ b, b = w1.heap.size := ⟨_, rfl⟩
  rw [← hbase] at rw0
  have R0 := Lib.hid rw0
  have hb0 : w.heap.size < V.heap.size ∧ g < V.heap.size := by have := rw0.hg; have := rw0.hgb; have := rw0.hb; have := rw0.box.lt; omega
  have HB := Lib.hid (show w.heap.size ≤ base by have := B0.out.size; have := S1.out; omega)
  clear hV hBx hbase rw0 qb k1 o rd k
  obtain ⟨b0, hb00⟩ : ∃ b, b = V.heap.size := ⟨_, rfl⟩
  rw [← hb00] at hb0
  have HB0 := Lib.hid (show b0 ≤ V.drew.heap.size from by rw [hb00]; exact Nat.le_refl _)
  obtain ⟨hb1, hb2⟩ := hb0
  clear hb00
  refine wp_region_goodsL (G := GR (.slice a1 n1 c1) (.slice a2 n2 c2) g b0) (R := RWr w g Bx base (.slice a1 n1 c1) (.slice a2 n2 c2) l 40 b0) (T := fun _ X Y => ∀ v ms, OwnM X b0 v ms → OwnM Y b0 v ms) (by kernel_rfl) (by kernel_rfl) ?start (fun _ i _ v X Y _ _ _ h => GR.kept i v X Y h) ⟨?s0, ?s1, ?s2, ?s3, ?s4, ?s5, trivial⟩ ?hend
  case start =>
    intro D hD
    unfold RWr
    rw [hD, hD]
    exact ⟨R0.out.below ((Below.refl _ _).drew), HB0.out⟩
  case s0 =>
    intro ac wc D D' hDk hDk' hdo hcl hR hrest hdep K hK
    have e0 : ac.tmps.getD 5 undef = .pointer (some ⟨Bx, 0, none⟩) := hrest 5 (by kernel_rfl)
    have f0 := slot_of e0
    have c0 := hR.1.box.cell0
    have c1' := hR.1.box.cell1
    clear hdep hrest
    go_simp
    exact hK _ _ rfl (hR.same (hdo 3 (by decide)) (hdo 4 (by decide))) (fun _ _ h => h)
  case s1 =>
    intro ac wc D D' hDk hDk' hdo hcl hR hrest hdep K hK
    have e0 : ac.tmps.getD 4 undef = .pointer (some ⟨g, 0, none⟩) := hrest 4 (by kernel_rfl)
    have f0 := slot_of e0
    clear hdep hrest
    go_simp
    exact hK _ _ rfl (hR.same (hdo 3 (by decide)) (hdo 4 (by decide))) (fun _ _ h => h)
  case s2 =>
    intro ac wc D D' hDk hDk' hdo hcl hR hrest hdep K hK
    have e0 : ac.tmps.getD 5 undef = .pointer (some ⟨Bx, 0, none⟩) := hrest 5 (by kernel_rfl)
    have f0 := slot_of e0
    have c0 := hR.1.box.cell0
    have c1' := hR.1.box.cell1
    clear hdep hrest
    go_simp
    exact hK _ _ rfl (hR.same (hdo 3 (by decide)) (hdo 4 (by decide))) (fun _ _ h => h)
  case s3 =>
    intro ac wc D D' hDk hDk' hdo hcl hR hrest hdep K hK
    have e0 : ac.tmps.getD 11 undef = .pointer (some ⟨g, 0, none⟩) := hdep 1 (by kernel_rfl)
    have e1 : ac.tmps.getD 12 undef = .agg #[.slice a1 n1 c1, .slice a2 n2 c2] := hdep 2 (by kernel_rfl)
    have f0 := slot_of e0
    have f1 := slot_of e1
    clear hdep hrest
    unfold RWr at hR
    rw [hDk] at hR
    obtain ⟨hR, hbs⟩ := hR
    obtain ⟨q1, hq1, hr1⟩ := hR.rd
    simp only [Bool.false_eq_true, if_false] at hq1
    have DM := Lib.hid (drawMoves hr1 (by omega) hR.own hR.hgb (by have := hR.hb; have := hR.box.lt; omega) hl1 hl2)
    go_simp
    refine DM.out.mono ?_
    rintro e w4 ⟨u, ms, q4, rfl, hom, hml, hon, hr4, hq4, g4⟩
    refine hK _ _ ⟨ms, Ow.mono hom hbs, hml, hon⟩ ?_ (fun v ns h => OwnM.pickM h g4 hb2)
    unfold RWr
    rw [hDk', hdo 4 (by decide)]
    exact ⟨(hR.grown g4 hr4).more (by simp only [if_true]; omega), Nat.le_trans hbs g4.size⟩
  case s4 =>
    intro ac wc D D' hDk hDk' hdo hcl hR hrest hdep K hK
    have e0 : ac.tmps.getD 2 undef = .pointer (some ⟨w.heap.size, 0, none⟩) := hrest 2 (by kernel_rfl)
    have e1 : ac.tmps.getD 10 undef = .agg #[.slice a1 n1 c1, .slice a2 n2 c2] := hdep 0 (by kernel_rfl)
    have f0 := slot_of e0
    have f1 := slot_of e1
    clear hdep hrest
    obtain ⟨hR, hbs⟩ := hR
    obtain ⟨x, y, hp2, -⟩ := hR.res
    have c0 := hp2.cell0
    have c1' := hp2.cell1
    have d0 := hp2.frozen 0
    have d1 := hp2.frozen 1
    have HE := Lib.hid (show RWr w g Bx base (.slice a1 n1 c1) (.slice a2 n2 c2) l 40 b0 D' _ from by
      unfold RWr
      rw [hDk', hdo 3 (by decide)]
      exact ⟨hR.store, by rw [Go.Deep.nblk_setCell, Go.Deep.nblk_setCell]; exact hbs⟩)
    have HT := Lib.hid (fun (v : Value) (ns : List Mv) (h : OwnM wc b0 v ns) => (show OwnM ((wc.setCell ⟨w.heap.size, 0, none⟩ (.slice a1 n1 c1)).setCell ⟨w.heap.size, 1, none⟩ (.slice a2 n2 c2)) b0 v ns from Ow.setBelow (Ow.setBelow h (a := ⟨w.heap.size, 0, none⟩) hb1 _) (a := ⟨w.heap.size, 1, none⟩) hb1 _))
    clear hR hp2
    go_simp
    exact hK undef _ trivial HE.out HT.out
  case s5 =>
    intro ac wc D D' hDk hDk' hdo hcl hR hrest hdep K hK
    obtain ⟨ms, hom, hml, hon⟩ : ∃ ms : List Mv, OwnM wc b0 (ac.tmps.getD 13 undef) ms ∧ ms.length ≤ 13 ∧ Ones ms := hdep 3 (by kernel_rfl)
    obtain ⟨u, hu⟩ : ∃ u, u = ac.tmps.getD 13 undef := ⟨_, rfl⟩
    rw [← hu] at hom
    have f0 := slot_of hu.symm
    have HO := Lib.hid hom
    clear hdep hrest hu hom
    go_simp
    exact hK _ _ ⟨ms, HO.out, hml, hon⟩ (hR.same (hdo 3 (by decide)) (hdo 4 (by decide))) (fun _ _ h => h)
  case hend =>
    rintro ⟨tm, df⟩ w' D hD hsz hdf hR hrest hgood
    have hdf' : df = [] := hdf
    subst hdf'
    unfold RWr at hR
    rw [hD 4 (by decide)] at hR
    obtain ⟨hR, hbs⟩ := hR
    obtain ⟨x1, y1, hp, -, hxy⟩ := hR.res
    obtain ⟨rfl, rfl⟩ := hxy rfl
    obtain ⟨ms, hom, hml, hon⟩ : ∃ ms : List Mv, OwnM w' b0 (tm.getD 3 undef) ms ∧ ms.length ≤ 13 ∧ Ones ms := hgood 5 (by decide)
    obtain ⟨u, hu⟩ : ∃ u, u = tm.getD 3 undef := ⟨_, rfl⟩
    rw [← hu] at hom
    have e' : tm[3]?.getD undef = _ := slot_of (a := ⟨tm, []⟩) hu.symm
    have hw2 : tm.getD 2 undef = .pointer (some ⟨w.heap.size, 0, none⟩) := hrest 2 (by kernel_rfl)
    have hw3 : tm[2]?.getD undef = _ := slot_of (a := ⟨tm, []⟩) hw2
    have r0 := hp.cell0
    have r1 := hp.cell1
    have HN := Lib.hid (And.intro (hR.own.mono HB.out) (And.intro hR.bel (Ow.mono hom (by omega : w.heap.size ≤ b0))))
    clear hp hgood hR hom hu
    go_wp2_with fail
    refine bodyPost_ret (v := .tuple #[.agg #[.slice a1 n1 c1, .slice a2 n2 c2], u]) (by simp [results, Try.results22, go_sem, r0, r1, e', hw3]) rfl ⟨_, u, l, ms, rfl, HN.out.2.2, hml, hon, HN.out.1, hl1, hl2, HN.out.2.1⟩

end Go.Proofs.Ytpofkfcjnhoamaa
