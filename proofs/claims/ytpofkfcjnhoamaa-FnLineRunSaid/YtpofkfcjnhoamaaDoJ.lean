/-
  A move that is done on a line of the program's own. For valid lines.
-/
import Derived.Test.YtpofkfcjnhoamaaLineI
import Derived.Test.YtpofkfcjnhoamaaBlockE
import Derived.Test.YtpofkfcjnhoamaaMvsL
import Derived.Deep.RegionLaw
import Derived.Deep.RegionHeld3
namespace Go.Proofs.Ytpofkfcjnhoamaa
open Go.RowKit Go.Sort

theorem one_byte {S : ByteArray} {c : UInt8} : decide (S = ⟨#[c]⟩) = decide (S.size = 1 ∧ bt S 0 = c.toNat) := by
  by_cases h : S = ⟨#[c]⟩
  · subst h
    rw [decide_eq_true rfl, decide_eq_true ⟨rfl, rfl⟩]
  · rw [decide_eq_false h, decide_eq_false]
    rintro ⟨h1, h2⟩
    apply h
    obtain ⟨⟨xs⟩⟩ := S
    match xs, h1 with
    | [x], _ =>
      have e : x.toNat = c.toNat := by
        have : ((x.toNat : Nat) : Int) = c.toNat := h2
        omega
      rw [UInt8.toNat_inj.1 e]
theorem beq_lit (S : ByteArray) (c : UInt8) : (S.toList == (⟨#[c]⟩ : ByteArray).toList) = decide (S.size = 1 ∧ bt S 0 = c.toNat) := by
  rw [← one_byte]
  by_cases h : S = ⟨#[c]⟩
  · subst h; simp
  · rw [decide_eq_false h]
    rw [ByteArray.toList_eq, ByteArray.toList_eq, beq_eq_false_iff_ne]
    exact fun q => h (by rw [ByteArray.ext_iff, ← Array.toList_inj]; exact q)
theorem isE_lit (S : ByteArray) : (S.toList == [(101 : UInt8)]) = isE S := by
  have := beq_lit S 101
  rw [show (⟨#[101]⟩ : ByteArray).toList = [(101 : UInt8)] by rw [ByteArray.toList_eq]] at this
  exact this
theorem isL_lit (S : ByteArray) : (S.toList == [(108 : UInt8)]) = isL S := by
  have := beq_lit S 108
  rw [show (⟨#[108]⟩ : ByteArray).toList = [(108 : UInt8)] by rw [ByteArray.toList_eq]] at this
  exact this
/-- A store into a list of the call's own. -/
theorem OwnI.set {w : World} {base g cap n : Nat} {ts : List Int} (h : OwnI w base (.slice (some ⟨g, 0, none⟩) n cap) ts) (hn : n = ts.length) (i : Nat) (x : Int) :
    OwnI (w.setCell ⟨g, i, none⟩ (.int .i64 x)) base (.slice (some ⟨g, 0, none⟩) n cap) (ts.set i x) ∧ w.grownBy (w.setCell ⟨g, i, none⟩ (.int .i64 x)) (some g) := by
  subst hn
  have hs := World.ownsRow.stored h i (.int .i64 x)
  refine ⟨?_, hs.2⟩
  have e : (ts.map (Value.int .i64)).set i (.int .i64 x) = (ts.set i x).map (Value.int .i64) := by rw [List.map_set]
  have := hs.1
  rw [e] at this
  unfold OwnI
  rw [List.length_set]
  exact this
theorem OwnI.cellAt {w : World} {base g cap n : Nat} {ts : List Int} (h : OwnI w base (.slice (some ⟨g, 0, none⟩) n cap) ts) (hn : n = ts.length) {i : Nat} (hi : i < ts.length) : w.cell? ⟨g, i, none⟩ = some (.int .i64 (ts.getD i 0)) ∧ w.frozen? ⟨g, i, none⟩ = false := by
  subst hn
  refine ⟨?_, World.ownsRow.frozenAt h i⟩
  rw [World.ownsRow.cellAt h i (by simpa using hi)]
  simp [hi]

set_option maxHeartbeats 2000000 in
theorem goOn {w : World} {B base : Nat} {u1 u2 : Value} {ts : List Int} {m : Mv} (p : Pair w B u1 u2 67) (o : OwnI w base u2 ts) (hB : u2.ownBlock ≠ some B) (ht : ts.length ≤ 5) (h0 : 0 ≤ m.1) (h5 : m.1 ≤ 5) :
    Calls Try.prog 81 #[.pointer (some ⟨B, 0, none⟩), .agg #[.int .i64 m.1, .string m.2]] w fun e w' => e = .returned (.bool (goTo ts m).isSome) ∧ OwnI w' base u2 ((goTo ts m).getD ts) ∧ w.grownBy w' u2.ownBlock := by
  have p0 := Pair.new w (.int .i64 m.1) (.string m.2) 40
  have q0 := below_alloc w (.cells #[.int .i64 m.1, .string m.2] 40)
  have pt := p.alloc (.cells #[.int .i64 m.1, .string m.2] 40)
  have ot := o.below q0
  obtain ⟨W, hW⟩ : ∃ X, X = w.alloc (.cells #[.int .i64 m.1, .string m.2] 40) := ⟨_, rfl⟩
  rw [← hW] at p0 q0 pt ot
  have HW := Lib.hid hW.symm
  have e0 := p0.cell0
  have e1 := p0.cell1
  have t1 := pt.cell1
  have G0 := Lib.hid (show w.grownBy W u2.ownBlock from ⟨q0.os, q0.tape, q0.output, q0.size, fun k hk _ => q0.block k hk⟩)
  have OT := Lib.hid ot
  have IX := Lib.hid (fun x => indexI (w := W) x (ot.ints (by omega)))
  have BP := Lib.hid (boxPlace m.1 (by omega))
  have SP := Lib.hid (sectionPlace m.1 (by omega))
  have hE := isE_lit m.2
  have hL := isL_lit m.2
  have SH := Lib.hid (fun i (hi : i < ts.length) => show ∃ g cap, u2 = .slice (some ⟨g, 0, none⟩) ts.length cap from by
    rcases ot.shape with ⟨_, rfl⟩ | ⟨g, cap, h, _⟩
    · simp at hi
    · exact ⟨g, cap, h⟩)
  obtain ⟨a2, n2, c2, rfl⟩ := own_is_slice o
  have GT := Lib.hid (show goTo ts m = (if isE m.2 then (fst ts (2 * m.1)).map fun i => ts.set i (2 * m.1 + 1) else if isL m.2 then (fst ts (2 * m.1 + 1)).map fun i => ts.set i (2 * m.1 + 1 + 1) else some ts) from rfl)
  clear hW p0 q0 pt ot p o
  cases hE1 : isE m.2
  · cases hL1 : isL m.2
    · rw [hE1] at hE
      rw [hL1] at hL
      have E := Lib.hid (show goTo ts m = some ts by rw [GT.out, hE1, hL1]; rfl)
      clear hE1 hL1
      go_enter Try.func81, Try.ntmps81
      go_wp2_with fail
      rw [HW.out]
      refine (BP.out _).mono ?_
      rintro e w1 ⟨rfl, rfl⟩
      go_wp2_with fail
      go_ret
      exact ⟨by rw [E.out]; rfl, by rw [E.out]; exact OT.out, G0.out⟩
    · rw [hE1] at hE
      rw [hL1] at hL
      obtain ⟨j, hj⟩ : ∃ j, j = fst ts (2 * m.1 + 1) := ⟨_, rfl⟩
      have E := Lib.hid (show goTo ts m = j.map fun i => ts.set i (2 * m.1 + 1 + 1) by rw [GT.out, hE1, hL1, hj]; rfl)
      have IX1 := Lib.hid (IX.out (2 * m.1 + 1))
      rw [fstI_opt, ← hj] at IX1
      have J := Lib.hid hj
      clear hE1 hL1 hj
      cases j with
      | none =>
        simp only [optI] at IX1
        go_enter Try.func81, Try.ntmps81
        go_wp2_with fail
        rw [HW.out]
        go_wp2_with (first
          | (go_at_call 44; refine (BP.out _).mono ?_; rintro e w1 ⟨rfl, rfl⟩)
          | (go_at_call 47; refine (SP.out _).mono ?_; rintro e w1 ⟨rfl, rfl⟩)
          | (go_at_call 46; refine IX1.out.mono ?_; rintro e w1 ⟨rfl, rfl⟩))
        go_ret
        exact ⟨by rw [E.out]; rfl, by rw [E.out]; exact OT.out, G0.out⟩
      | some i =>
        simp only [optI] at IX1
        obtain ⟨hi, hx, _⟩ := fst_is J.out.symm
        obtain ⟨g, cap, hg⟩ := SH.out i hi
        simp only [Value.slice.injEq] at hg
        obtain ⟨rfl, rfl, rfl⟩ := hg
        obtain ⟨z0, z1⟩ := OT.out.cellAt rfl hi
        rw [hx] at z0
        have hil : (i : Int) < (ts.length : Int) := by omega
        have hi5 : (i : Int) ≤ 5 := by omega
        have hi0 : decide ((i : Int) < 0) = false := decide_eq_false (by omega)
        have ST := Lib.hid (OT.out.set rfl i (2 * m.1 + 1 + 1))
        have GG := Lib.hid (grown_trans G0.out ST.out.2)
        clear hx
        go_enter Try.func81, Try.ntmps81
        go_wp2_with fail
        rw [HW.out]
        go_wp2_with (first
          | (go_at_call 44; refine (BP.out _).mono ?_; rintro e w1 ⟨rfl, rfl⟩)
          | (go_at_call 47; refine (SP.out _).mono ?_; rintro e w1 ⟨rfl, rfl⟩)
          | (go_at_call 46; refine IX1.out.mono ?_; rintro e w1 ⟨rfl, rfl⟩))
        go_ret
        exact ⟨by rw [E.out]; rfl, by rw [E.out]; exact ST.out.1, GG.out⟩
  · rw [hE1] at hE
    obtain ⟨j, hj⟩ : ∃ j, j = fst ts (2 * m.1) := ⟨_, rfl⟩
    have E := Lib.hid (show goTo ts m = j.map fun i => ts.set i (2 * m.1 + 1) by rw [GT.out, hE1, hj]; rfl)
    have IX1 := Lib.hid (IX.out (2 * m.1))
    rw [fstI_opt, ← hj] at IX1
    have J := Lib.hid hj
    clear hE1 hL hj
    cases j with
    | none =>
      simp only [optI] at IX1
      go_enter Try.func81, Try.ntmps81
      go_wp2_with fail
      rw [HW.out]
      go_wp2_with (first
        | (go_at_call 44; refine (BP.out _).mono ?_; rintro e w1 ⟨rfl, rfl⟩)
        | (go_at_call 46; refine IX1.out.mono ?_; rintro e w1 ⟨rfl, rfl⟩))
      go_ret
      exact ⟨by rw [E.out]; rfl, by rw [E.out]; exact OT.out, G0.out⟩
    | some i =>
      simp only [optI] at IX1
      obtain ⟨hi, hx, _⟩ := fst_is J.out.symm
      obtain ⟨g, cap, hg⟩ := SH.out i hi
      simp only [Value.slice.injEq] at hg
      obtain ⟨rfl, rfl, rfl⟩ := hg
      obtain ⟨z0, z1⟩ := OT.out.cellAt rfl hi
      rw [hx] at z0
      have hil : (i : Int) < (ts.length : Int) := by omega
      have hi5 : (i : Int) ≤ 5 := by omega
      have hi0 : decide ((i : Int) < 0) = false := decide_eq_false (by omega)
      have ST := Lib.hid (OT.out.set rfl i (2 * m.1 + 1))
      have GG := Lib.hid (grown_trans G0.out ST.out.2)
      clear hx
      go_enter Try.func81, Try.ntmps81
      go_wp2_with fail
      rw [HW.out]
      go_wp2_with (first
        | (go_at_call 44; refine (BP.out _).mono ?_; rintro e w1 ⟨rfl, rfl⟩)
        | (go_at_call 46; refine IX1.out.mono ?_; rintro e w1 ⟨rfl, rfl⟩))
      go_ret
      exact ⟨by rw [E.out]; rfl, by rw [E.out]; exact ST.out.1, GG.out⟩

end Go.Proofs.Ytpofkfcjnhoamaa

/-
  A move that is done on a line of the program's own. For valid lines.
-/
namespace Go.Proofs.Ytpofkfcjnhoamaa
open Go.RowKit Go.Sort

/-- Where the step ends: the call ahead of the new block, or behind it. -/
theorem do_endA {wr wA : World} (z : Below wr.heap.size wr wA) (t : Bool) (n : Int) (i o : Bool) :
    ∃ g, Value.pointer (some ⟨wA.heap.size, 0, none⟩) = Value.pointer (some ⟨g, 0, none⟩) ∧ Value.bool t = Value.bool t ∧ wr.heap.size ≤ g ∧
      Tri3 (wA.alloc (.cells #[.int .i64 n, .bool i, .bool o] 33)) g (.int .i64 n) (.bool i) (.bool o) 33 ∧ Below wr.heap.size wr (wA.alloc (.cells #[.int .i64 n, .bool i, .bool o] 33)) :=
  ⟨_, rfl, rfl, z.size, Tri3.new _ _ _ _ _, z.alloc z.size _⟩
theorem do_endB {wr wA : World} {x y z' : Value} (bA : Below (wr.alloc (.cells #[.int .i64 0, .bool false, .bool false] 33)).drew.heap.size (wr.alloc (.cells #[.int .i64 0, .bool false, .bool false] 33)).drew wA) (z : Tri3 wA wr.heap.size x y z' 33) (t : Bool) (n : Int) (i o : Bool) :
    ∃ g, Value.pointer (some ⟨wr.heap.size, 0, none⟩) = Value.pointer (some ⟨g, 0, none⟩) ∧ Value.bool t = Value.bool t ∧ wr.heap.size ≤ g ∧
      Tri3 (((wA.setCell ⟨wr.heap.size, 0, none⟩ (.int .i64 n)).setCell ⟨wr.heap.size, 1, none⟩ (.bool i)).setCell ⟨wr.heap.size, 2, none⟩ (.bool o)) g (.int .i64 n) (.bool i) (.bool o) 33 ∧
      Below wr.heap.size wr (((wA.setCell ⟨wr.heap.size, 0, none⟩ (.int .i64 n)).setCell ⟨wr.heap.size, 1, none⟩ (.bool i)).setCell ⟨wr.heap.size, 2, none⟩ (.bool o)) :=
  have d0 : Below wr.heap.size wr (wr.alloc (.cells #[.int .i64 0, .bool false, .bool false] 33)).drew := (below_alloc _ _).drew
  ⟨_, rfl, rfl, Nat.le_refl _, z.stored _ _ _, stored_below (d0.trans (bA.mono d0.size)) (Nat.le_refl _) _ _ _⟩

theorem OwnB.set3 {w : World} {base g cap n : Nat} {bs : List Blk} (h : OwnB w base (.slice (some ⟨g, 0, none⟩) n cap) bs) (hn : n = bs.length) {i : Nat} (hi : i < bs.length) (b : Blk) :
    OwnB (((w.setCell ⟨g, i * 3, none⟩ (.int .i64 b.1)).setCell ⟨g, i * 3 + 1, none⟩ (.bool b.2.1)).setCell ⟨g, i * 3 + 2, none⟩ (.bool b.2.2)) base (.slice (some ⟨g, 0, none⟩) n cap) (bs.set i b) ∧
    w.grownBy (((w.setCell ⟨g, i * 3, none⟩ (.int .i64 b.1)).setCell ⟨g, i * 3 + 1, none⟩ (.bool b.2.1)).setCell ⟨g, i * 3 + 2, none⟩ (.bool b.2.2)) (some g) := by
  subst hn
  obtain ⟨s1, g1⟩ := Ow.set h (i * 3) (.int .i64 b.1)
  obtain ⟨s2, g2⟩ := s1.set (i * 3 + 1) (.bool b.2.1)
  obtain ⟨s3, g3⟩ := s2.set (i * 3 + 2) (.bool b.2.2)
  refine ⟨?_, grown_trans (grown_trans g1 g2) g3⟩
  unfold OwnB
  rw [List.length_set]
  exact s3.congr fun q _ => (bkF_set hi b q).symm

/-- A line of the program's own that lies in a box. -/
structure Held (w : World) (B base : Nat) (u1 u2 : Value) (l : Ln) : Prop where
  box : Pair w B u1 u2 67
  blocks : OwnB w base u1 l.1
  trains : OwnI w base u2 l.2
  away1 : u1.ownBlock ≠ some B
  away2 : u2.ownBlock ≠ some B
  apart : u1.ownBlock ≠ u2.ownBlock ∨ (u1.ownBlock = none ∧ u2.ownBlock = none)
theorem Held.below {w w' : World} {B base : Nat} {u1 u2 : Value} {l : Ln} (h : Held w B base u1 u2 l) (hb : Below w.heap.size w w') : Held w' B base u1 u2 l :=
  ⟨h.box.below hb, Ow.below h.blocks hb, h.trains.below hb, h.away1, h.away2, h.apart⟩

theorem Held.drew {w : World} {B base : Nat} {u1 u2 : Value} {l : Ln} (h : Held w B base u1 u2 l) : Held w.drew B base u1 u2 l := ⟨h.box, h.blocks, h.trains, h.away1, h.away2, h.apart⟩
theorem Held.step {w w' : World} {B base : Nat} {u1 u2 : Value} {l : Ln} {ts : List Int} (h : Held w B base u1 u2 l) (o : OwnI w' base u2 ts) (g : w.grownBy w' u2.ownBlock) : Held w' B base u1 u2 (l.1, ts) := by
  refine ⟨h.box.kept g (fun c e q => h.away2 (by rw [e, q])), Ow.kept h.blocks g ?_, o, h.away1, h.away2, h.apart⟩
  rcases h.apart with q | q
  · exact .inr q
  · exact .inl q.1
theorem Held.put {w : World} {B base g n c : Nat} {u2 : Value} {l : Ln} (h : Held w B base (.slice (some ⟨g, 0, none⟩) n c) u2 l) (hn : n = l.1.length) {i : Nat} (hi : i < l.1.length) (b : Blk) :
    Held (((w.setCell ⟨g, i * 3, none⟩ (.int .i64 b.1)).setCell ⟨g, i * 3 + 1, none⟩ (.bool b.2.1)).setCell ⟨g, i * 3 + 2, none⟩ (.bool b.2.2)) B base (.slice (some ⟨g, 0, none⟩) n c) u2 (l.1.set i b, l.2) := by
  obtain ⟨s, gr⟩ := OwnB.set3 h.blocks hn hi b
  refine ⟨h.box.kept gr (fun c e q => h.away1 ?_), s, h.trains.kept gr ?_, h.away1, h.away2, h.apart⟩
  · simp only [Option.some.injEq] at e
    subst e
    rw [q]
    rfl
  · rcases h.apart with q | q
    · exact .inr (fun e => q (by rw [e]; rfl))
    · exact .inl q.2
theorem lnDo_off {l : Ln} {m : Mv} (h : ¬ (0 ≤ m.1 ∧ m.1 < (l.1.length : Int))) : lnDo l m = none := by unfold lnDo; rw [if_neg h]
theorem lnDo_on {l : Ln} {S : ByteArray} {K : Nat} (h : K < l.1.length) : lnDo l ((K : Int), S) = (bkOne (l.1.getD K nb) S).bind fun b => (goTo l.2 ((K : Int), S)).map fun ts => (l.1.set K b, ts) := by
  unfold lnDo
  rw [if_pos ⟨by simp only; omega, by simp only; omega⟩]
  rfl

set_option maxHeartbeats 8000000 in
theorem doMove {w : World} {B base : Nat} {u1 u2 : Value} {l : Ln} {s : Int} {S : ByteArray} (h : Held w B base u1 u2 l) (hl : l.1.length ≤ 5 ∧ l.2.length ≤ 5) (hS : S.size ≤ 2097152) (hbase : base ≤ w.heap.size) :
    Calls Try.prog 54 #[.pointer (some ⟨B, 0, none⟩), .agg #[.int .i64 s, .string S]] w fun e w' => e = .returned (.bool (lnDo l (s, S)).isSome) ∧ Held w' B base u1 u2 ((lnDo l (s, S)).getD l) ∧ Below base w w' := by
  have p0 := Pair.new w (.int .i64 s) (.string S) 40
  have q0 := below_alloc w (.cells #[.int .i64 s, .string S] 40)
  have hW0 := h.below q0
  obtain ⟨W, hW⟩ : ∃ X, X = w.alloc (.cells #[.int .i64 s, .string S] 40) := ⟨_, rfl⟩
  rw [← hW] at p0 q0 hW0
  have HW := Lib.hid hW.symm
  have e0 := p0.cell0
  have e1 := p0.cell1
  have t0 := hW0.box.cell0
  have Q0 := Lib.hid (q0.mono hbase)
  have P0 := Lib.hid p0
  have H0 := Lib.hid hW0
  have SZ := Lib.hid q0.size
  have HT0 := Lib.hid h.trains.under
  obtain ⟨a1, c1, rfl⟩ := Ow.slice h.blocks
  have HA := Lib.hid (hasL (a := a1) (n := l.1.length) (c := c1) s)
  have E0 := fun d os => cell_regrown e0 d os
  have T0 := fun d os => cell_regrown t0 d os
  clear hW p0 q0 hW0 h
  by_cases hk : 0 ≤ s ∧ s < (l.1.length : Int)
  · rw [decide_eq_true hk] at HA
    obtain ⟨K, rfl⟩ : ∃ K : Nat, s = K := ⟨s.toNat, by omega⟩
    have hK : K < l.1.length := by omega
    have hki : (K : Int) < (l.1.length : Int) := hk.2
    have hK5 : (K : Int) ≤ 5 := by omega
    have DO := Lib.hid (lnDo_on (S := S) hK)
    have HAQ := Lib.hid (fun d os => Calls.regrown_of (d := d) (os := os) ((HA.out (grow (redrawn W d) os)).mono fun _ _ ⟨he, hw⟩ => ⟨he, hw ▸ Below.refl _ _⟩))
    obtain ⟨g1, rfl, hg1⟩ : ∃ g, a1 = some ⟨g, 0, none⟩ ∧ g < W.heap.size := by
      rcases Ow.shape H0.out.blocks with ⟨_, h0⟩ | ⟨g, cap, e, _, hg, _⟩
      · omega
      · simp only [Value.slice.injEq] at e
        exact ⟨g, e.1, hg⟩
    obtain ⟨x, hx⟩ : ∃ x, x = l.1.getD K nb := ⟨_, rfl⟩
    have X := Lib.hid hx
    have IM := Lib.hid (implStepE x S hS)
    obtain ⟨o, ho⟩ : ∃ o, o = bkOne x S := ⟨_, rfl⟩
    rw [← ho] at IM
    rw [← hx, ← ho] at DO
    obtain ⟨y, hy⟩ : ∃ y, y = o.getD nb := ⟨_, rfl⟩
    obtain ⟨t, ht⟩ : ∃ t, t = o.isSome := ⟨_, rfl⟩
    rw [← hy, ← ht] at IM
    have HO := Lib.hid (And.intro hy ht)
    clear hk hx ho hy ht HA
    go_enter Try.func54, Try.ntmps54
    go_upto_region 1 with fail
    rw [HW.out]
    refine wp_region_quiet_below (by kernel_rfl) (by kernel_rfl) ?_
    repeat (go_big_quiet_step (exact HAQ.out _ _))
    refine wpQuiet_nil ?_
    intro _ hw'
    obtain ⟨⟨dq, osq⟩, hw''⟩ := hw'
    subst hw''
    have bV := below_regrown W dq osq
    obtain ⟨V, hV⟩ : ∃ V, V = grow (redrawn W dq) osq := ⟨_, rfl⟩
    rw [← hV] at bV
    have HV := Lib.hid hV.symm
    have HH := Lib.hid (H0.out.below bV)
    have PP := Lib.hid (P0.out.below bV)
    have BV := Lib.hid (Q0.out.trans (bV.mono (Nat.le_trans hbase SZ.out)))
    have VS := Lib.hid (Nat.le_trans SZ.out bV.size)
    have v0 := HH.out.box.cell0
    have s0 := PP.out.cell0
    have s1 := PP.out.cell1
    have b0 : V.cell? ⟨g1, K * 3, none⟩ = some (.int .i64 x.1) := by rw [X.out, ← bkF0]; exact Ow.cell HH.out.blocks (by omega)
    have b1 : V.cell? ⟨g1, K * 3 + 1, none⟩ = some (.bool x.2.1) := by rw [X.out, ← bkF1]; exact Ow.cell HH.out.blocks (by omega)
    have b2 : V.cell? ⟨g1, K * 3 + 2, none⟩ = some (.bool x.2.2) := by rw [X.out, ← bkF2]; exact Ow.cell HH.out.blocks (by omega)
    have hg1V : g1 < V.heap.size := Nat.lt_of_lt_of_le hg1 bV.size
    clear hV bV E0 T0 e0 e1 t0
    go_upto_region 3 with fail
    rw [HV.out]
    go_cut [5, 6] (fun p q wx => ∃ (g : Nat), p = .pointer (some ⟨g, 0, none⟩) ∧ q = .bool t ∧ V.heap.size ≤ g ∧ Tri3 wx g (.int .i64 y.1) (.bool y.2.1) (.bool y.2.2) 33 ∧ Below V.heap.size V wx)
    case first =>
      have d0 : Below V.heap.size V V.drew := (Below.refl _ _).drew
      have d1 : Below V.heap.size V (V.alloc (.cells #[.int .i64 0, .bool false, .bool false] 33)).drew := (below_alloc _ _).drew
      have lB : B < V.heap.size := HH.out.box.lt
      have lP : w.heap.size < V.heap.size := PP.out.lt
      have CL := Lib.hid (fun (X : World) (b : Below V.heap.size V X) => show X.cell? ⟨B, 0, none⟩ = some (.slice (some ⟨g1, 0, none⟩) l.1.length c1) ∧ X.cell? ⟨w.heap.size, 0, none⟩ = some (.int .i64 (K : Int)) ∧ X.cell? ⟨w.heap.size, 1, none⟩ = some (.string S) ∧ X.cell? ⟨g1, K * 3, none⟩ = some (.int .i64 x.1) ∧ X.cell? ⟨g1, K * 3 + 1, none⟩ = some (.bool x.2.1) ∧ X.cell? ⟨g1, K * 3 + 2, none⟩ = some (.bool x.2.2) from
        ⟨(b.cell (p := ⟨B, 0, none⟩) lB).trans v0, (b.cell (p := ⟨w.heap.size, 0, none⟩) lP).trans s0, (b.cell (p := ⟨w.heap.size, 1, none⟩) lP).trans s1, (b.cell (p := ⟨g1, K * 3, none⟩) hg1V).trans b0, (b.cell (p := ⟨g1, K * 3 + 1, none⟩) hg1V).trans b1, (b.cell (p := ⟨g1, K * 3 + 2, none⟩) hg1V).trans b2⟩)
      go_region_held3 (fun X => X.cell? ⟨B, 0, none⟩ = some (.slice (some ⟨g1, 0, none⟩) l.1.length c1) ∧ X.cell? ⟨w.heap.size, 0, none⟩ = some (.int .i64 (K : Int)) ∧ X.cell? ⟨w.heap.size, 1, none⟩ = some (.string S) ∧ X.cell? ⟨g1, K * 3, none⟩ = some (.int .i64 x.1) ∧ X.cell? ⟨g1, K * 3 + 1, none⟩ = some (.bool x.2.1) ∧ X.cell? ⟨g1, K * 3 + 2, none⟩ = some (.bool x.2.2))
        (first
          | exact CL.out _ d0
          | exact CL.out _ (d0.alloc d0.size _)
          | exact CL.out _ ((Below.alloc (Below.refl _ _) (Nat.le_refl _) _).drew)
          | exact CL.out _ z
          | exact CL.out _ (z.alloc z.size _)
          | exact CL.out _ d1
          | exact CL.out _ (d1.trans (bA.mono d1.size))
          | exact CL.out _ (stored_below (d1.trans (bA.mono d1.size)) (Nat.le_refl _) _ _ _)
          | go_keep)
        (first
          | (go_at_call 20; refine (IM.out _).mono ?_; rintro e wA ⟨rfl, bA⟩; first | (have z : Tri3 wA V.heap.size (.int .i64 0) (.bool false) (.bool false) 33 := (Tri3.new V.drew (.int .i64 0) (.bool false) (.bool false) 33).below bA; have z0 := z.cell0; have z1 := z.cell1; have z2 := z.cell2; have y0 := z.frozen 0; have y1 := z.frozen 1; have y2 := z.frozen 2) | (have z := d0.trans bA)))
      all_goals (go_wp2_with fail; go_meet; first
        | with_reducible exact do_endA z _ _ _ _
        | with_reducible exact do_endB bA z _ _ _ _)
    case rest =>
    obtain ⟨g, rfl, rfl, hgV, tg, bx⟩ := hcut
    have HX := Lib.hid (HH.out.below bx)
    have PX := Lib.hid (PP.out.below bx)
    have TG := Lib.hid tg
    have BX := Lib.hid (BV.out.trans (bx.mono (Nat.le_trans hbase VS.out)))
    have XS := Lib.hid (Nat.le_trans VS.out bx.size)
    have GX := Lib.hid tg.lt
    clear tg bx v0 s0 s1 b0 b1 b2
    cases t
    · have E := Lib.hid (show lnDo l ((K : Int), S) = none by
        have h2 := HO.out.2
        rw [DO.out]
        cases o
        · rfl
        · cases h2)
      go_wp2_with fail
      go_ret
      exact ⟨by rw [E.out]; rfl, by rw [E.out]; exact HX.out, BX.out⟩
    · have E0 := Lib.hid (show lnDo l ((K : Int), S) = (goTo l.2 ((K : Int), S)).map fun ts => (l.1.set K y, ts) by
        have h1 := HO.out.1
        have h2 := HO.out.2
        rw [DO.out, h1]
        cases o
        · cases h2
        · rfl)
      have GO := Lib.hid (goOn (m := ((K : Int), S)) HX.out.box HX.out.trains HX.out.away2 hl.2 (by simp only; omega) (by simp only; omega))
      obtain ⟨r, hr⟩ : ∃ r, r = goTo l.2 ((K : Int), S) := ⟨_, rfl⟩
      rw [← hr] at GO E0
      have R := Lib.hid hr
      have s0 := PX.out.cell0
      have s1 := PX.out.cell1
      have s2 := TG.out.cell0
      clear hr
      have AB := Lib.hid (show base ≤ g1 ∧ g1 < V.heap.size from ⟨(Ow.under HH.out.blocks g1 rfl).1, hg1V⟩)
      have BS := Lib.hid (Nat.le_trans hbase XS.out)
      cases r with
      | none =>
        have E := Lib.hid (show lnDo l ((K : Int), S) = none by rw [E0.out]; rfl)
        go_wp2_with (go_at_call 81; refine GO.out.mono ?_; rintro e w5 ⟨rfl, o5, g5⟩)
        go_ret
        exact ⟨by rw [E.out]; rfl, by rw [E.out]; exact HX.out.step o5 g5, BX.out.grown g5 BS.out (fun c e => (HT0.out c e).1)⟩
      | some ts =>
        have E := Lib.hid (show lnDo l ((K : Int), S) = some (l.1.set K y, ts) by rw [E0.out]; rfl)
        go_wp2_with (go_at_call 81; refine GO.out.mono ?_; rintro e w5 ⟨rfl, o5, g5⟩)
        have B5 := Lib.hid (BX.out.grown g5 BS.out (fun c e => (HT0.out c e).1))
        have H5 := Lib.hid (HX.out.step o5 g5)
        have M5 := PX.out.kept g5 (fun c e q => by have := (HT0.out c e).2; omega)
        have T5 := TG.out.of (g5.block _ TG.out.lt (fun e => by have := (HT0.out _ e.symm).2; have := VS.out; omega))
        have z0 := H5.out.box.cell0
        have z1 := M5.cell0
        have z2 := T5.cell0
        have z3 := T5.cell1
        have z4 := T5.cell2
        have d0 : w5.cell? ⟨g1, K * 3, none⟩ = some _ := Ow.cell H5.out.blocks (q := K * 3) (show K * 3 < l.1.length * 3 by omega)
        have d1 : w5.cell? ⟨g1, K * 3 + 1, none⟩ = some _ := Ow.cell H5.out.blocks (q := K * 3 + 1) (show K * 3 + 1 < l.1.length * 3 by omega)
        have d2 : w5.cell? ⟨g1, K * 3 + 2, none⟩ = some _ := Ow.cell H5.out.blocks (q := K * 3 + 2) (show K * 3 + 2 < l.1.length * 3 by omega)
        have f0 := Ow.frozen H5.out.blocks (K * 3)
        have f1 := Ow.frozen H5.out.blocks (K * 3 + 1)
        have f2 := Ow.frozen H5.out.blocks (K * 3 + 2)
        have HP := Lib.hid (H5.out.put rfl hK y)
        have BP := Lib.hid (((B5.out.setCell (p := ⟨g1, K * 3, none⟩) AB.out.1 (.int .i64 y.1)).setCell (p := ⟨g1, K * 3 + 1, none⟩) AB.out.1 (.bool y.2.1)).setCell (p := ⟨g1, K * 3 + 2, none⟩) AB.out.1 (.bool y.2.2))
        clear o5 g5 M5 T5 s0 s1 s2
        go_region
        all_goals (go_wp2_with fail; go_ret; exact ⟨by rw [E.out]; rfl, by rw [E.out]; exact HP.out.drew, BP.out.drew⟩)
  · have E := Lib.hid (lnDo_off (l := l) (m := (s, S)) hk)
    rw [decide_eq_false hk] at HA
    have HAQ := Lib.hid (fun d os => Calls.regrown_of (d := d) (os := os) ((HA.out (grow (redrawn W d) os)).mono fun _ _ ⟨he, hw⟩ => ⟨he, hw ▸ Below.refl _ _⟩))
    clear hk
    go_enter Try.func54, Try.ntmps54
    go_upto_region 1 with fail
    rw [HW.out]
    refine wp_region_quiet_below (by kernel_rfl) (by kernel_rfl) ?_
    repeat (go_big_quiet_step (exact HAQ.out _ _))
    refine wpQuiet_nil ?_
    intro _ hw'
    obtain ⟨⟨dq, osq⟩, hw''⟩ := hw'
    subst hw''
    go_wp2_with fail
    go_ret
    exact ⟨by rw [E.out]; rfl, by rw [E.out]; exact H0.out.below (below_regrown W dq osq), Q0.out.trans ((below_regrown W dq osq).mono (Nat.le_trans hbase SZ.out))⟩

end Go.Proofs.Ytpofkfcjnhoamaa
