/-
  A move that is done on a line of the program's own. For valid lines.
-/
import Derived.Test.YtpofkfcjnhoamaaLineI
import Derived.Test.YtpofkfcjnhoamaaBlockE
import Derived.Test.YtpofkfcjnhoamaaMvsL
namespace Go.Proofs.Ytpofkfcjnhoamaa
open Go.RowKit Go.Sort

theorem one_byte {S : ByteArray} {c : UInt8} : decide (S = ⟨#[c]⟩) = decide (S.size = 1 ∧ bt S 0 = c.toNat) := by
  by_cases h : S = ⟨#[c]⟩
  · subst h
    rw [decide_eq_true rfl, decide_eq_true ⟨rfl, rfl⟩]
  · rw [decide_eq_false h, decide_eq_false]
    rintro ⟨h1, h2⟩
    apply h
    obtain ⟨⟨xs⟩⟩ := S
    match xs, h1 with
    | [x], _ =>
      have e : x.toNat = c.toNat := by
        have : ((x.toNat : Nat) : Int) = c.toNat := h2
        omega
      rw [UInt8.toNat_inj.1 e]
theorem beq_lit (S : ByteArray) (c : UInt8) : (S.toList == (⟨#[c]⟩ : ByteArray).toList) = decide (S.size = 1 ∧ bt S 0 = c.toNat) := by
  rw [← one_byte]
  by_cases h : S = ⟨#[c]⟩
  · subst h; simp
  · rw [decide_eq_false h]
    rw [ByteArray.toList_eq, ByteArray.toList_eq, beq_eq_false_iff_ne]
    exact fun q => h (by rw [ByteArray.ext_iff, ← Array.toList_inj]; exact q)
theorem isE_lit (S : ByteArray) : (S.toList == [(101 : UInt8)]) = isE S := by
  have := beq_lit S 101
  rw [show (⟨#[101]⟩ : ByteArray).toList = [(101 : UInt8)] by rw [ByteArray.toList_eq]] at this
  exact this
theorem isL_lit (S : ByteArray) : (S.toList == [(108 : UInt8)]) = isL S := by
  have := beq_lit S 108
  rw [show (⟨#[108]⟩ : ByteArray).toList = [(108 : UInt8)] by rw [ByteArray.toList_eq]] at this
  exact this
/-- A store into a list of the call's own. -/
theorem OwnI.set {w : World} {base g cap n : Nat} {ts : List Int} (h : OwnI w base (.slice (some ⟨g, 0, none⟩) n cap) ts) (hn : n = ts.length) (i : Nat) (x : Int) :
    OwnI (w.setCell ⟨g, i, none⟩ (.int .i64 x)) base (.slice (some ⟨g, 0, none⟩) n cap) (ts.set i x) ∧ w.grownBy (w.setCell ⟨g, i, none⟩ (.int .i64 x)) (some g) := by
  subst hn
  have hs := World.ownsRow.stored h i (.int .i64 x)
  refine ⟨?_, hs.2⟩
  have e : (ts.map (Value.int .i64)).set i (.int .i64 x) = (ts.set i x).map (Value.int .i64) := by rw [List.map_set]
  have := hs.1
  rw [e] at this
  unfold OwnI
  rw [List.length_set]
  exact this
theorem OwnI.cellAt {w : World} {base g cap n : Nat} {ts : List Int} (h : OwnI w base (.slice (some ⟨g, 0, none⟩) n cap) ts) (hn : n = ts.length) {i : Nat} (hi : i < ts.length) : w.cell? ⟨g, i, none⟩ = some (.int .i64 (ts.getD i 0)) ∧ w.frozen? ⟨g, i, none⟩ = false := by
  subst hn
  refine ⟨?_, World.ownsRow.frozenAt h i⟩
  rw [World.ownsRow.cellAt h i (by simpa using hi)]
  simp [hi]

set_option maxHeartbeats 2000000 in
theorem goOn {w : World} {B base : Nat} {u1 u2 : Value} {ts : List Int} {m : Mv} (p : Pair w B u1 u2 67) (o : OwnI w base u2 ts) (hB : u2.ownBlock ≠ some B) (ht : ts.length ≤ 5) (h0 : 0 ≤ m.1) (h5 : m.1 ≤ 5) :
    Calls Try.prog 81 #[.pointer (some ⟨B, 0, none⟩), .agg #[.int .i64 m.1, .string m.2]] w fun e w' => e = .returned (.bool (goTo ts m).isSome) ∧ OwnI w' base u2 ((goTo ts m).getD ts) ∧ w.grownBy w' u2.ownBlock := by
  have p0 := Pair.new w (.int .i64 m.1) (.string m.2) 40
  have q0 := below_alloc w (.cells #[.int .i64 m.1, .string m.2] 40)
  have pt := p.alloc (.cells #[.int .i64 m.1, .string m.2] 40)
  have ot := o.below q0
  obtain ⟨W, hW⟩ : ∃ X, X = w.alloc (.cells #[.int .i64 m.1, .string m.2] 40) := ⟨_, rfl⟩
  rw [← hW] at p0 q0 pt ot
  have HW := Lib.hid hW.symm
  have e0 := p0.cell0
  have e1 := p0.cell1
  have t1 := pt.cell1
  have G0 := Lib.hid (show w.grownBy W u2.ownBlock from ⟨q0.os, q0.tape, q0.output, q0.size, fun k hk _ => q0.block k hk⟩)
  have OT := Lib.hid ot
  have IX := Lib.hid (fun x => indexI (w := W) x (ot.ints (by omega)))
  have BP := Lib.hid (boxPlace m.1 (by omega))
  have SP := Lib.hid (sectionPlace m.1 (by omega))
  have hE := isE_lit m.2
  have hL := isL_lit m.2
  have SH := Lib.hid (fun i (hi : i < ts.length) => show ∃ g cap, u2 = .slice (some ⟨g, 0, none⟩) ts.length cap from by
    rcases ot.shape with ⟨_, rfl⟩ | ⟨g, cap, h, _⟩
    · simp at hi
    · exact ⟨g, cap, h⟩)
  obtain ⟨a2, n2, c2, rfl⟩ := own_is_slice o
  have GT := Lib.hid (show goTo ts m = (if isE m.2 then (fst ts (2 * m.1)).map fun i => ts.set i (2 * m.1 + 1) else if isL m.2 then (fst ts (2 * m.1 + 1)).map fun i => ts.set i (2 * m.1 + 1 + 1) else some ts) from rfl)
  clear hW p0 q0 pt ot p o
  cases hE1 : isE m.2
  · cases hL1 : isL m.2
    · rw [hE1] at hE
      rw [hL1] at hL
      have E := Lib.hid (show goTo ts m = some ts by rw [GT.out, hE1, hL1]; rfl)
      clear hE1 hL1
      go_enter Try.func81, Try.ntmps81
      go_wp2_with fail
      rw [HW.out]
      refine (BP.out _).mono ?_
      rintro e w1 ⟨rfl, rfl⟩
      go_wp2_with fail
      go_ret
      exact ⟨by rw [E.out]; rfl, by rw [E.out]; exact OT.out, G0.out⟩
    · rw [hE1] at hE
      rw [hL1] at hL
      obtain ⟨j, hj⟩ : ∃ j, j = fst ts (2 * m.1 + 1) := ⟨_, rfl⟩
      have E := Lib.hid (show goTo ts m = j.map fun i => ts.set i (2 * m.1 + 1 + 1) by rw [GT.out, hE1, hL1, hj]; rfl)
      have IX1 := Lib.hid (IX.out (2 * m.1 + 1))
      rw [fstI_opt, ← hj] at IX1
      have J := Lib.hid hj
      clear hE1 hL1 hj
      cases j with
      | none =>
        simp only [optI] at IX1
        go_enter Try.func81, Try.ntmps81
        go_wp2_with fail
        rw [HW.out]
        go_wp2_with (first
          | (go_at_call 44; refine (BP.out _).mono ?_; rintro e w1 ⟨rfl, rfl⟩)
          | (go_at_call 47; refine (SP.out _).mono ?_; rintro e w1 ⟨rfl, rfl⟩)
          | (go_at_call 46; refine IX1.out.mono ?_; rintro e w1 ⟨rfl, rfl⟩))
        go_ret
        exact ⟨by rw [E.out]; rfl, by rw [E.out]; exact OT.out, G0.out⟩
      | some i =>
        simp only [optI] at IX1
        obtain ⟨hi, hx, _⟩ := fst_is J.out.symm
        obtain ⟨g, cap, hg⟩ := SH.out i hi
        simp only [Value.slice.injEq] at hg
        obtain ⟨rfl, rfl, rfl⟩ := hg
        obtain ⟨z0, z1⟩ := OT.out.cellAt rfl hi
        rw [hx] at z0
        have hil : (i : Int) < (ts.length : Int) := by omega
        have hi5 : (i : Int) ≤ 5 := by omega
        have hi0 : decide ((i : Int) < 0) = false := decide_eq_false (by omega)
        have ST := Lib.hid (OT.out.set rfl i (2 * m.1 + 1 + 1))
        have GG := Lib.hid (grown_trans G0.out ST.out.2)
        clear hx
        go_enter Try.func81, Try.ntmps81
        go_wp2_with fail
        rw [HW.out]
        go_wp2_with (first
          | (go_at_call 44; refine (BP.out _).mono ?_; rintro e w1 ⟨rfl, rfl⟩)
          | (go_at_call 47; refine (SP.out _).mono ?_; rintro e w1 ⟨rfl, rfl⟩)
          | (go_at_call 46; refine IX1.out.mono ?_; rintro e w1 ⟨rfl, rfl⟩))
        go_ret
        exact ⟨by rw [E.out]; rfl, by rw [E.out]; exact ST.out.1, GG.out⟩
  · rw [hE1] at hE
    obtain ⟨j, hj⟩ : ∃ j, j = fst ts (2 * m.1) := ⟨_, rfl⟩
    have E := Lib.hid (show goTo ts m = j.map fun i => ts.set i (2 * m.1 + 1) by rw [GT.out, hE1, hj]; rfl)
    have IX1 := Lib.hid (IX.out (2 * m.1))
    rw [fstI_opt, ← hj] at IX1
    have J := Lib.hid hj
    clear hE1 hL hj
    cases j with
    | none =>
      simp only [optI] at IX1
      go_enter Try.func81, Try.ntmps81
      go_wp2_with fail
      rw [HW.out]
      go_wp2_with (first
        | (go_at_call 44; refine (BP.out _).mono ?_; rintro e w1 ⟨rfl, rfl⟩)
        | (go_at_call 46; refine IX1.out.mono ?_; rintro e w1 ⟨rfl, rfl⟩))
      go_ret
      exact ⟨by rw [E.out]; rfl, by rw [E.out]; exact OT.out, G0.out⟩
    | some i =>
      simp only [optI] at IX1
      obtain ⟨hi, hx, _⟩ := fst_is J.out.symm
      obtain ⟨g, cap, hg⟩ := SH.out i hi
      simp only [Value.slice.injEq] at hg
      obtain ⟨rfl, rfl, rfl⟩ := hg
      obtain ⟨z0, z1⟩ := OT.out.cellAt rfl hi
      rw [hx] at z0
      have hil : (i : Int) < (ts.length : Int) := by omega
      have hi5 : (i : Int) ≤ 5 := by omega
      have hi0 : decide ((i : Int) < 0) = false := decide_eq_false (by omega)
      have ST := Lib.hid (OT.out.set rfl i (2 * m.1 + 1))
      have GG := Lib.hid (grown_trans G0.out ST.out.2)
      clear hx
      go_enter Try.func81, Try.ntmps81
      go_wp2_with fail
      rw [HW.out]
      go_wp2_with (first
        | (go_at_call 44; refine (BP.out _).mono ?_; rintro e w1 ⟨rfl, rfl⟩)
        | (go_at_call 46; refine IX1.out.mono ?_; rintro e w1 ⟨rfl, rfl⟩))
      go_ret
      exact ⟨by rw [E.out]; rfl, by rw [E.out]; exact ST.out.1, GG.out⟩

end Go.Proofs.Ytpofkfcjnhoamaa
