/-
  Drawn lines with a number. For codes of at most 1048576 bytes.
-/
import Derived.Test.YtpofkfcjnhoamaaDrawLV
import Derived.Test.YtpofkfcjnhoamaaGoods3
namespace Go.Proofs.Ytpofkfcjnhoamaa
open Go.RowKit Go.Sort
set_option linter.unusedVariables false

theorem rdr_line : 107 ≠ 26 := by decide
/-- What is written into a line's box leaves a reader as it is. -/
theorem Rdr.line {X : World} {g p R i : Nat} {x y v : Value} (h : Rdr X g p) (hq : Pair X R x y 26) (hn : ∀ q : Int, x ≠ .int .u8 q ∧ y ≠ .int .u8 q) : Rdr (X.setCell ⟨R, i, none⟩ v) g p := by
  obtain ⟨rv, n, hg, hb, hne⟩ := h
  have hgR : R ≠ g := by
    intro e
    subst e
    unfold Pair at hq
    rw [hg] at hq
    simp only [Option.some.injEq, Obj.cells.injEq] at hq
    exact rdr_line hq.2.1
  have kk := grown_set X R i v
  refine ⟨rv, n, (kk.block g (Array.getElem?_eq_some_iff.1 hg).1 (fun e => hgR (Option.some.inj e).symm)).trans hg, ?_, hne⟩
  obtain ⟨a, cap, rfl, hm, hc⟩ := hb
  refine ⟨a, cap, rfl, hm, ?_⟩
  rcases hc with h0 | ⟨b, o, rfl, hlt, hcell⟩
  · exact .inl h0
  · rcases Nat.eq_zero_or_pos n with h0 | h0
    · exact .inl h0
    have hbR : b ≠ R := by
      intro e
      subst e
      obtain ⟨x', hx', -⟩ := hcell 0 h0
      unfold Pair at hq
      unfold World.cell? at hx'
      simp only [hq] at hx'
      have hmem := Array.mem_of_getElem? hx'
      simp only [List.mem_toArray, List.mem_cons, List.not_mem_nil, or_false] at hmem
      have := hn x'
      rcases hmem with e | e
      · exact this.1 e.symm
      · exact this.2 e.symm
    refine .inr ⟨b, o, rfl, Nat.lt_of_lt_of_le hlt kk.size, fun j hj => ?_⟩
    obtain ⟨x', hx', hr⟩ := hcell j hj
    exact ⟨x', (World.cell?_of_block (kk.block b hlt (fun e => hbR (Option.some.inj e)))).trans hx', hr⟩
/-- A slice. -/
def IsSl (v : Value) : Prop := ∃ a n c, v = .slice a n c
theorem IsSl.no {v : Value} (h : IsSl v) (q : Int) : v ≠ .int .u8 q := by obtain ⟨_, _, _, rfl⟩ := h; intro e; cases e

/-- A drawn line in its box; the reader; the result's box, stored or not. -/
structure RW (w : World) (g Bx base : Nat) (u1 u2 : Value) (l : Ln) (b : Bool) (Q : Nat) (X : World) : Prop where
  rd : ∃ q, q ≤ Q ∧ Rdr X g q
  own : OwnLine X base (.agg #[u1, u2]) l
  box : Pair X Bx u1 u2 26
  res : ∃ x y, Pair X w.heap.size x y 26 ∧ (IsSl x ∧ IsSl y) ∧ (b = true → x = u1 ∧ y = u2)
  bel : Below w.heap.size w X
  hg : w.heap.size < g
  hgb : g < base
  hb : base ≤ Bx
theorem RW.below {w X Y : World} {g Bx base Q : Nat} {u1 u2 : Value} {l : Ln} {b : Bool} (h : RW w g Bx base u1 u2 l b Q X) (k : Below X.heap.size X Y) : RW w g Bx base u1 u2 l b Q Y := by
  obtain ⟨q, hq, hr⟩ := h.rd
  obtain ⟨x, y, hp, hs⟩ := h.res
  exact ⟨⟨q, hq, hr.below k hr.lt⟩, h.own.below k, h.box.below k, ⟨x, y, hp.below k, hs⟩, h.bel.trans (k.mono h.bel.size), h.hg, h.hgb, h.hb⟩
theorem RW.more {w X : World} {g Bx base Q Q' : Nat} {u1 u2 : Value} {l : Ln} {b : Bool} (h : RW w g Bx base u1 u2 l b Q X) (hQ : Q ≤ Q') : RW w g Bx base u1 u2 l b Q' X := by
  obtain ⟨q, hq, hr⟩ := h.rd
  exact ⟨⟨q, by omega, hr⟩, h.own, h.box, h.res, h.bel, h.hg, h.hgb, h.hb⟩
theorem RW.grown {w X Y : World} {g Bx base Q : Nat} {u1 u2 : Value} {l : Ln} {b : Bool} (h : RW w g Bx base u1 u2 l b Q X) (k : X.grownBy Y (some g)) {q : Nat} (hr : Rdr Y g q) : RW w g Bx base u1 u2 l b q Y := by
  obtain ⟨x, y, hp, hs⟩ := h.res
  have a1 := h.hg
  have a2 := h.hgb
  have a3 := h.hb
  obtain ⟨v1, v2, e, o1, o2, ap⟩ := h.own
  simp only [Value.agg.injEq, Array.mk.injEq, List.cons.injEq, and_true] at e
  obtain ⟨rfl, rfl⟩ := e
  refine ⟨⟨q, Nat.le_refl _, hr⟩, ⟨u1, u2, rfl, Ow.kept o1 k (.inr fun e => ?_), o2.kept k (.inr fun e => ?_), ap⟩, h.box.kept k (fun c e => by simp only [Option.some.injEq] at e; omega), ⟨x, y, hp.kept k (fun c e => by simp only [Option.some.injEq] at e; omega), hs⟩, h.bel.grown k h.bel.size (fun c e => by simp only [Option.some.injEq] at e; omega), a1, a2, a3⟩
  · have := (Ow.under o1 g (by first | exact e | exact e.symm)).1; omega
  · have := (o2.under g (by first | exact e | exact e.symm)).1; omega
theorem RW.store {w X : World} {g Bx base Q : Nat} {u1 u2 : Value} {l : Ln} {b : Bool} (h : RW w g Bx base u1 u2 l b Q X) : RW w g Bx base u1 u2 l true Q ((X.setCell ⟨w.heap.size, 0, none⟩ u1).setCell ⟨w.heap.size, 1, none⟩ u2) := by
  obtain ⟨q, hq, hr⟩ := h.rd
  obtain ⟨x, y, hp, ⟨hx, hy⟩, -⟩ := h.res
  have a1 := h.hg
  have a2 := h.hgb
  have a3 := h.hb
  obtain ⟨v1, v2, e, o1, o2, -⟩ := id h.own
  simp only [Value.agg.injEq, Array.mk.injEq, List.cons.injEq, and_true] at e
  obtain ⟨rfl, rfl⟩ := e
  have s1 : IsSl u1 := by obtain ⟨a, c, rfl⟩ := Ow.slice o1; exact ⟨_, _, _, rfl⟩
  have s2 : IsSl u2 := by obtain ⟨a, n, c, rfl⟩ := own_is_slice o2; exact ⟨_, _, _, rfl⟩
  have r := line_ret (lo := base) h.own hp (by omega) (Nat.le_refl _)
  refine ⟨⟨q, hq, ?_⟩, r.2, (h.box.other (a := ⟨w.heap.size, 0, none⟩) (by simp only; omega) u1).other (a := ⟨w.heap.size, 1, none⟩) (by simp only; omega) u2, ⟨u1, u2, r.1, ⟨s1, s2⟩, fun _ => ⟨rfl, rfl⟩⟩, (h.bel.setCell (p := ⟨w.heap.size, 0, none⟩) (Nat.le_refl _) _).setCell (p := ⟨w.heap.size, 1, none⟩) (Nat.le_refl _) _, a1, a2, a3⟩
  exact (hr.line hp (fun q => ⟨hx.no q, hy.no q⟩)).line (hp.set0 u1) (fun q => ⟨s1.no q, hy.no q⟩)

/-- A drawn line with a number. -/
def DrawnLineN (w : World) (e : Ending) (w' : World) : Prop := ∃ (v : Value) (l : Ln) (k : Int), e = .returned (.tuple #[v, .int .i64 k]) ∧ (-1 ≤ k ∧ k ≤ 5) ∧ MadeLn w v l w'
theorem one_most (b : Bool) : (if b = true then 1 else 0) ≤ 1 := by cases b <;> decide
def GW (u1 u2 : Value) (g : Nat) (i : Nat) (v : Value) (_ : World) : Prop :=
  match i with
  | 0 => v = .agg #[u1, u2]
  | 1 => v = .pointer (some ⟨g, 0, none⟩)
  | 2 => ∃ r : Int, v = .int .i64 r ∧ 0 ≤ r ∧ r < 6
  | 3 => v = .pointer (some ⟨g, 0, none⟩)
  | 4 => ∃ r : Int, v = .int .i64 r ∧ 0 ≤ r ∧ r < 12
  | 5 => ∃ r : Int, v = .int .i64 r ∧ 0 ≤ r ∧ r ≤ 1
  | 6 => ∃ r : Int, v = .int .i64 r ∧ -1 ≤ r ∧ r ≤ 5
  | 8 => ∃ r : Int, v = .int .i64 r ∧ -1 ≤ r ∧ r ≤ 5
  | _ => True
def RWw (w : World) (g Bx base : Nat) (u1 u2 : Value) (l : Ln) (Q : Nat) (D : Nat → Bool) (X : World) : Prop := RW w g Bx base u1 u2 l (D 7) (Q + (if D 2 then 1 else 0) + (if D 4 then 1 else 0)) X
theorem RWw.same {w : World} {g Bx base : Nat} {u1 u2 : Value} {l : Ln} {Q : Nat} {D D' : Nat → Bool} {X : World} (h : RWw w g Bx base u1 u2 l Q D X) (h2 : D' 2 = D 2) (h4 : D' 4 = D 4) (h7 : D' 7 = D 7) : RWw w g Bx base u1 u2 l Q D' X := by
  unfold RWw at h ⊢
  rw [h2, h4, h7]
  exact h

set_option maxRecDepth 100000 in
set_option maxHeartbeats 2000000 in
theorem drawLineWaits {w : World} {a : Option Addr} {len cap : Nat} {zs : List Int} (h : IsRowK .u8 w a len cap zs) (hl : len ≤ 1048576) :
    Calls Try.prog 14 #[.slice a len cap] w (DrawnLineN w) := by
  have q0 := Pair.new w (.slice none 0 0) (.slice none 0 0) 26
  have b0 := below_alloc w (.cells #[.slice none 0 0, .slice none 0 0] 26)
  obtain ⟨W, hW⟩ : ∃ X, X = w.alloc (.cells #[.slice none 0 0, .slice none 0 0] 26) := ⟨_, rfl⟩
  rw [← hW] at q0 b0
  have OP := Lib.hid (openRd (w := W) (IsRowK.below h b0) hl)
  have HW := Lib.hid hW.symm
  have B0 := Lib.hid b0
  have Q0 := Lib.hid q0
  have QL := Lib.hid q0.lt
  clear hW q0 b0 h
  go_enter Try.func14, Try.ntmps14
  go_upto_region 1 with fail
  rw [HW.out]
  go_upto_region 2 with (go_at_call 39; refine OP.out.mono ?_; rintro e w1 ⟨g, rfl, hg, hr, b1⟩)
  have DL := Lib.hid (drawLine hr (by omega))
  have HG := Lib.hid (And.intro hg hr.lt)
  have P1 := Lib.hid (Q0.out.below b1)
  have B1 := Lib.hid (B0.out.trans (b1.mono B0.out.size))
  have S1 := Lib.hid b1.size
  clear hg hr b1
  go_upto_region 3 with (go_at_call 38; refine DL.out.mono ?_; rintro e w2 ⟨l, q, v, rfl, o, ⟨-, hl1⟩, hl2, rd, hq, k⟩; obtain ⟨a1, n1, c1, a2, n2, c2, rfl⟩ := own_form o)
  have qb := Pair.new w2 (.slice a1 n1 c1) (.slice a2 n2 c2) 26
  have k1 := below_alloc w2 (.cells #[.slice a1 n1 c1, .slice a2 n2 c2] 26)
  have rw0 : RW w g w2.heap.size w1.heap.size (.slice a1 n1 c1) (.slice a2 n2 c2) l false 40 (w2.alloc (.cells #[.slice a1 n1 c1, .slice a2 n2 c2] 26)) := by
    have h1 := HG.out
    have h2 := QL.out
    have h3 := S1.out
    have p2 := P1.out.kept k (fun c e => by simp only [Option.some.injEq] at e; omega)
    have b2 := B1.out.grown k (by omega) (fun c e => by simp only [Option.some.injEq] at e; omega)
    exact ⟨⟨q, by omega, rd.below k1 rd.lt⟩, o.below k1, qb, ⟨_, _, p2.below k1, ⟨⟨_, _, _, rfl⟩, ⟨_, _, _, rfl⟩⟩, fun e => by cases e⟩, b2.trans (k1.mono b2.size), by omega, by omega, k.size⟩
  obtain ⟨V, hV⟩ : ∃ X, X = w2.alloc (.cells #[.slice a1 n1 c1, .slice a2 n2 c2] 26) := ⟨_, rfl⟩
  rw [← hV] at rw0 ⊢
  obtain ⟨Bx, hBx⟩ : ∃ b, b = w2.heap.size := ⟨_, rfl⟩
  rw [← hBx] at rw0 ⊢
  obtain ⟨base, hbase⟩ : ∃ b, b = w1.heap.size := ⟨_, rfl⟩
  rw [← hbase] at rw0
  have R0 := Lib.hid rw0
  have HB := Lib.hid (show w.heap.size ≤ base by have := B0.out.size; have := S1.out; omega)
  clear hV hBx hbase rw0 qb k1 o rd k
  refine wp_region_goodsL (G := GW (.slice a1 n1 c1) (.slice a2 n2 c2) g) (R := RWw w g Bx base (.slice a1 n1 c1) (.slice a2 n2 c2) l 40) (T := fun _ _ _ => True) (by kernel_rfl) (by kernel_rfl) ?start (fun _ _ _ _ _ _ _ _ _ _ h => h) ⟨?s0, ?s1, ?s2, ?s3, ?s4, ?s5, ?s6, ?s7, ?s8, trivial⟩ ?hend
  case start =>
    intro D hD
    unfold RWw
    rw [hD, hD, hD]
    exact R0.out.below ((Below.refl _ _).drew)
  case s0 =>
    intro ac wc D D' hDk hDk' hdo hcl hR hrest hdep K hK
    have e0 : ac.tmps.getD 5 undef = .pointer (some ⟨Bx, 0, none⟩) := hrest 5 (by kernel_rfl)
    have f0 := slot_of e0
    have c0 := hR.box.cell0
    have c1' := hR.box.cell1
    clear hdep hrest
    go_simp
    exact hK _ _ rfl (hR.same (hdo 2 (by decide)) (hdo 4 (by decide)) (hdo 7 (by decide))) trivial
  case s1 =>
    intro ac wc D D' hDk hDk' hdo hcl hR hrest hdep K hK
    have e0 : ac.tmps.getD 4 undef = .pointer (some ⟨g, 0, none⟩) := hrest 4 (by kernel_rfl)
    have f0 := slot_of e0
    clear hdep hrest
    go_simp
    exact hK _ _ rfl (hR.same (hdo 2 (by decide)) (hdo 4 (by decide)) (hdo 7 (by decide))) trivial
  case s2 =>
    intro ac wc D D' hDk hDk' hdo hcl hR hrest hdep K hK
    have e0 : ac.tmps.getD 11 undef = .pointer (some ⟨g, 0, none⟩) := hdep 1 (by kernel_rfl)
    have f0 := slot_of e0
    clear hdep hrest
    unfold RWw at hR
    rw [hDk] at hR
    obtain ⟨q1, hq1, hr1⟩ := hR.rd
    simp only [Bool.false_eq_true, if_false] at hq1
    have hq2 : q1 ≤ 41 := by have := one_most (D 2); have := one_most (D 4); omega
    go_simp
    refine (pick (n := 6) hr1 (by omega) (by omega) (by omega)).mono ?_
    rintro e w4 ⟨r, rfl, hr0, hr1, hr4, g4⟩
    refine hK _ _ ⟨r, rfl, hr0, hr1 (by omega)⟩ ?_ trivial
    unfold RWw
    rw [hDk', hdo 4 (by decide), hdo 7 (by decide)]
    exact (hR.grown g4 hr4).more (by simp only [if_true]; omega)
  case s3 =>
    intro ac wc D D' hDk hDk' hdo hcl hR hrest hdep K hK
    have e0 : ac.tmps.getD 4 undef = .pointer (some ⟨g, 0, none⟩) := hrest 4 (by kernel_rfl)
    have f0 := slot_of e0
    clear hdep hrest
    go_simp
    exact hK _ _ rfl (hR.same (hdo 2 (by decide)) (hdo 4 (by decide)) (hdo 7 (by decide))) trivial
  case s4 =>
    intro ac wc D D' hDk hDk' hdo hcl hR hrest hdep K hK
    have e0 : ac.tmps.getD 13 undef = .pointer (some ⟨g, 0, none⟩) := hdep 3 (by kernel_rfl)
    have f0 := slot_of e0
    clear hdep hrest
    unfold RWw at hR
    rw [hDk] at hR
    obtain ⟨q1, hq1, hr1⟩ := hR.rd
    simp only [Bool.false_eq_true, if_false] at hq1
    have hq2 : q1 ≤ 41 := by have := one_most (D 2); have := one_most (D 4); omega
    go_simp
    refine (pick (n := 12) hr1 (by omega) (by omega) (by omega)).mono ?_
    rintro e w4 ⟨r, rfl, hr0, hr1, hr4, g4⟩
    refine hK _ _ ⟨r, rfl, hr0, hr1 (by omega)⟩ ?_ trivial
    unfold RWw
    rw [hDk', hdo 2 (by decide), hdo 7 (by decide)]
    exact (hR.grown g4 hr4).more (by simp only [if_true]; omega)
  case s5 =>
    intro ac wc D D' hDk hDk' hdo hcl hR hrest hdep K hK
    obtain ⟨r, e0, hr0, hr1⟩ : ∃ r : Int, ac.tmps.getD 14 undef = .int .i64 r ∧ 0 ≤ r ∧ r < 12 := hdep 4 (by kernel_rfl)
    have f0 := slot_of e0
    obtain ⟨d, hd, hd0, hd1⟩ : ∃ d, r.tdiv 11 = d ∧ 0 ≤ d ∧ d ≤ 1 := by
      refine ⟨_, rfl, ?_⟩
      rw [Int.tdiv_eq_ediv_of_nonneg hr0]
      omega
    have hd2 : r / 11 = d := by rw [← hd, Int.tdiv_eq_ediv_of_nonneg hr0]
    have hw : IntKind.i64.wrap d = d := IntWalk.i64_in _ (by omega)
    clear hdep hrest
    go_simp
    exact hK _ _ ⟨d, rfl, hd0, hd1⟩ (hR.same (hdo 2 (by decide)) (hdo 4 (by decide)) (hdo 7 (by decide))) trivial
  case s6 =>
    intro ac wc D D' hDk hDk' hdo hcl hR hrest hdep K hK
    obtain ⟨r, e0, hr0, hr1⟩ : ∃ r : Int, ac.tmps.getD 12 undef = .int .i64 r ∧ 0 ≤ r ∧ r < 6 := hdep 2 (by kernel_rfl)
    obtain ⟨d, e1, hd0, hd1⟩ : ∃ r : Int, ac.tmps.getD 15 undef = .int .i64 r ∧ 0 ≤ r ∧ r ≤ 1 := hdep 5 (by kernel_rfl)
    have f0 := slot_of e0
    have f1 := slot_of e1
    have hw : IntKind.i64.wrap (r - d) = r - d := IntWalk.i64_in _ (by omega)
    clear hdep hrest
    go_simp
    exact hK (.int .i64 (r - d)) _ ⟨r - d, rfl, by omega, by omega⟩ (hR.same (hdo 2 (by decide)) (hdo 4 (by decide)) (hdo 7 (by decide))) trivial
  case s7 =>
    intro ac wc D D' hDk hDk' hdo hcl hR hrest hdep K hK
    have e0 : ac.tmps.getD 2 undef = .pointer (some ⟨w.heap.size, 0, none⟩) := hrest 2 (by kernel_rfl)
    have e1 : ac.tmps.getD 10 undef = .agg #[.slice a1 n1 c1, .slice a2 n2 c2] := hdep 0 (by kernel_rfl)
    have f0 := slot_of e0
    have f1 := slot_of e1
    clear hdep hrest
    obtain ⟨x, y, hp, -⟩ := hR.res
    have c0 := hp.cell0
    have c1' := hp.cell1
    have d0 := hp.frozen 0
    have d1 := hp.frozen 1
    have HE := Lib.hid (show RWw w g Bx base (.slice a1 n1 c1) (.slice a2 n2 c2) l 40 D' _ from by
      unfold RWw at hR ⊢
      rw [hDk', hdo 2 (by decide), hdo 4 (by decide)]
      exact hR.store)
    clear hR hp
    go_simp
    exact hK undef _ trivial HE.out trivial
  case s8 =>
    intro ac wc D D' hDk hDk' hdo hcl hR hrest hdep K hK
    obtain ⟨r, e0, hr0, hr1⟩ : ∃ r : Int, ac.tmps.getD 16 undef = .int .i64 r ∧ -1 ≤ r ∧ r ≤ 5 := hdep 6 (by kernel_rfl)
    have f0 := slot_of e0
    clear hdep hrest
    go_simp
    exact hK _ _ ⟨r, rfl, hr0, hr1⟩ (hR.same (hdo 2 (by decide)) (hdo 4 (by decide)) (hdo 7 (by decide))) trivial
  case hend =>
    rintro ⟨tm, df⟩ w' D hD hsz hdf hR hrest hgood
    have hdf' : df = [] := hdf
    subst hdf'
    obtain ⟨x, e, hx0, hx1⟩ : ∃ r : Int, tm.getD 3 undef = .int .i64 r ∧ -1 ≤ r ∧ r ≤ 5 := hgood 8 (by decide)
    have e' : tm[3]?.getD undef = _ := slot_of (a := ⟨tm, []⟩) e
    unfold RWw at hR
    rw [hD 7 (by decide)] at hR
    obtain ⟨x1, y1, hp, -, hxy⟩ := hR.res
    obtain ⟨rfl, rfl⟩ := hxy rfl
    have hw2 : tm.getD 2 undef = .pointer (some ⟨w.heap.size, 0, none⟩) := hrest 2 (by kernel_rfl)
    have hw3 : tm[2]?.getD undef = _ := slot_of (a := ⟨tm, []⟩) hw2
    have r0 := hp.cell0
    have r1 := hp.cell1
    have HN := Lib.hid (And.intro (hR.own.mono HB.out) hR.bel)
    clear hp hgood hR
    go_wp2_with fail
    refine bodyPost_ret (v := .tuple #[.agg #[.slice a1 n1 c1, .slice a2 n2 c2], .int .i64 x]) (by simp [results, Try.results14, go_sem, r0, r1, e', hw3]) rfl ⟨_, l, x, rfl, ⟨hx0, hx1⟩, HN.out.1, hl1, hl2, HN.out.2⟩

end Go.Proofs.Ytpofkfcjnhoamaa
