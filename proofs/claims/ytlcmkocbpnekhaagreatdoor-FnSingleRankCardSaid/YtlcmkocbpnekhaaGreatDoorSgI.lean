/-
  How many orders a line has: the model's and the program's.
-/
import Derived.Test.YtlcmkocbpnekhaaGreatDoorSgH
namespace Go.Proofs.YtlcmkocbpnekhaaGreatDoor
open Go.RowKit Go.Sort

def mny (u d : Nat) : Nat := (allF (u + d) u d).length
theorem allF_down (n u : Nat) : (allF n u 0).length = 1 ∨ n ≠ u := by
  induction n generalizing u with
  | zero => exact .inl rfl
  | succ n ih =>
    by_cases h : n + 1 = u
    · subst h
      rcases ih n with h1 | h1
      · left; simp [allF, h1]
      · exact absurd rfl h1
    · exact .inr h
theorem allF_up (n d : Nat) : (allF n 0 d).length = 1 ∨ n ≠ d := by
  induction n generalizing d with
  | zero => exact .inl rfl
  | succ n ih =>
    by_cases h : n + 1 = d
    · subst h
      rcases ih n with h1 | h1
      · left; simp [allF, h1]
      · exact absurd rfl h1
    · exact .inr h
theorem mny_u0 (u : Nat) : mny u 0 = 1 := by
  unfold mny; rcases allF_down (u + 0) u with h | h
  · exact h
  · exact absurd rfl h
theorem mny_0d (d : Nat) : mny 0 d = 1 := by
  unfold mny; rcases allF_up (0 + d) d with h | h
  · exact h
  · exact absurd (Nat.zero_add d) h
theorem allF_two (n u d : Nat) : allF (n + 1) (u + 1) (d + 1) = (allF n (u + 1) d).map (fun o => sD ++ o) ++ (allF n u (d + 1)).map (fun o => sU ++ o) := by
  rw [allF, if_pos (Nat.zero_lt_succ d), if_pos (Nat.zero_lt_succ u)]; rfl
theorem mny_succ (u d : Nat) : mny (u + 1) (d + 1) = mny u (d + 1) + mny (u + 1) d := by
  unfold mny
  rw [show u + 1 + (d + 1) = (u + d + 1) + 1 by omega, allF_two, List.length_append, List.length_map, List.length_map, show u + 1 + d = u + d + 1 by omega, show u + (d + 1) = u + d + 1 by omega]
  omega
theorem mny_le {u d : Nat} (h : u + d ≤ 12) : mny u d ≤ 4096 := allF_many h
def manyV (s : Sg) : Int := if sgB s then (mny s.A.length s.B.length : Nat) else -1
theorem manyV_no {s : Sg} (h : sgB s = false) : manyV s = -1 := by simp [manyV, h]
theorem manyV_yes {s : Sg} (h : sgB s = true) : manyV s = (mny s.A.length s.B.length : Nat) := by simp [manyV, h]
theorem ords_len (s : Sg) : (ords s).length = mny s.A.length s.B.length := rfl

set_option maxHeartbeats 2000000 in
theorem specManyN (n : Nat) : ∀ (u d : Nat) (w : World), u + d = n → n ≤ 12 →
    Calls Tryz.prog 19 #[.int .i64 u, .int .i64 d] w fun e w' => e = .returned (.int .i64 (mny u d : Nat)) ∧ w = w' := by
  induction n with
  | zero =>
    intro u d w h hn
    obtain rfl : u = 0 := by omega
    obtain rfl : d = 0 := by omega
    go_enter Tryz.func19, Tryz.ntmps19
    go_wp2_with fail
    go_ret
    exact ⟨rfl, rfl⟩
  | succ n ih =>
    intro u d w h hn
    rcases Nat.eq_zero_or_pos u with h0 | h0
    · subst h0
      have E := Lib.hid (mny_0d d)
      clear ih h hn
      go_enter Tryz.func19, Tryz.ntmps19
      go_wp2_with fail
      go_ret
      exact ⟨by rw [E.out]; rfl, rfl⟩
    rcases Nat.eq_zero_or_pos d with h1 | h1
    · subst h1
      have E := Lib.hid (mny_u0 u)
      have t1 : ((u : Int) == 0) = false := by simp; omega
      clear ih h hn h0
      go_enter Tryz.func19, Tryz.ntmps19
      go_wp2_with fail
      go_ret
      exact ⟨by rw [E.out]; rfl, rfl⟩
    obtain ⟨v, rfl⟩ : ∃ v, u = v + 1 := ⟨u - 1, by omega⟩
    obtain ⟨b, rfl⟩ : ∃ v, d = v + 1 := ⟨d - 1, by omega⟩
    have E := mny_succ v b
    have C1 := Lib.hid (fun X => ih v (b + 1) X (by omega) (by omega))
    have C2 := Lib.hid (fun X => ih (v + 1) b X (by omega) (by omega))
    have m1 := mny_le (u := v) (d := b + 1) (by omega)
    have m2 := mny_le (u := v + 1) (d := b) (by omega)
    obtain ⟨x, hx⟩ : ∃ x, x = mny v (b + 1) := ⟨_, rfl⟩
    obtain ⟨y, hy⟩ : ∃ x, x = mny (v + 1) b := ⟨_, rfl⟩
    obtain ⟨z, hz⟩ : ∃ x, x = mny (v + 1) (b + 1) := ⟨_, rfl⟩
    rw [← hx] at C1 m1 E
    rw [← hy] at C2 m2 E
    rw [← hz] at E ⊢
    have EZ := Lib.hid (show Value.int .i64 ((x : Int) + (y : Int)) = .int .i64 (z : Int) by rw [E]; simp)
    clear E
    obtain ⟨ku, hku⟩ : ∃ x, x = v + 1 := ⟨_, rfl⟩
    obtain ⟨kd, hkd⟩ : ∃ x, x = b + 1 := ⟨_, rfl⟩
    have t1 : ((ku : Int) == 0) = false := by rw [hku]; simp; omega
    have t2 : ((kd : Int) == 0) = false := by rw [hkd]; simp; omega
    have m1' : (x : Int) ≤ 4096 := by omega
    have m2' : (y : Int) ≤ 4096 := by omega
    have hw1 : IntKind.i64.wrap ((ku : Int) - 1) = (v : Int) := by rw [hku, show (((v + 1 : Nat) : Int)) - 1 = (v : Int) by omega]; exact IntWalk.i64_in _ (by omega)
    have hw2 : IntKind.i64.wrap ((kd : Int) - 1) = (b : Int) := by rw [hkd, show (((b + 1 : Nat) : Int)) - 1 = (b : Int) by omega]; exact IntWalk.i64_in _ (by omega)
    have hw1' : wrap64 ((ku : Int) - 1) = (v : Int) := by rw [← IntWalk.i64_left]; exact hw1
    have hw2' : wrap64 ((kd : Int) - 1) = (b : Int) := by rw [← IntWalk.i64_left]; exact hw2
    have hw3 : wrap64 ((x : Int) + (y : Int)) = (x : Int) + (y : Int) := IntWalk.wrap64_in _ (by omega)
    rw [← hku, ← hkd] at ⊢
    rw [← hkd] at C1
    rw [← hku] at C2
    clear ih h hn h0 h1 hx hy hz hku hkd m1 m2
    go_enter Tryz.func19, Tryz.ntmps19
    go_wp2_with (first
      | (go_at_call_of 19 (Value.int .i64 (v : Int)); with_reducible refine (C1.out _).mono ?_; rintro e w1 ⟨rfl, rfl⟩)
      | (go_at_call_of 19 (Value.int .i64 (b : Int)); with_reducible refine (C2.out _).mono ?_; rintro e w1 ⟨rfl, rfl⟩))
    go_ret
    exact ⟨congrArg Ending.returned EZ.out, rfl⟩

set_option maxHeartbeats 2000000 in
theorem specMany {w : World} {v : Value} {s : Sg} (h : SgV w v s) :
    Calls Tryz.prog 27 #[v] w fun e w' => e = .returned (.int .i64 (manyV s)) ∧ Below w.heap.size w w' := by
  have SV := Lib.hid (fun (X : World) (b : Below w.heap.size w X) => specSingle (h.below b))
  obtain ⟨a, n, c, a', n', c', rfl, i1, i2⟩ := h.form
  have hn := slice_len i1
  have hn' := slice_len i2
  obtain ⟨r, hr⟩ : ∃ r, r = s.run := ⟨_, rfl⟩
  obtain ⟨hd, hh⟩ : ∃ r, r = s.head := ⟨_, rfl⟩
  rw [← hr, ← hh] at SV ⊢
  have ea := below_alloc w (.cells #[.slice a n c, .slice a' n' c', .int .i64 r, .int .i64 hd] 25)
  have pa := Quad.new w (.slice a n c) (.slice a' n' c') (.int .i64 r) (.int .i64 hd) 25
  obtain ⟨W, hW⟩ : ∃ W, W = w.alloc (.cells #[.slice a n c, .slice a' n' c', .int .i64 r, .int .i64 hd] 25) := ⟨_, rfl⟩
  rw [← hW] at ea pa
  have p0 := pa.cell0
  have p1 := pa.cell1
  have p2 := pa.cell2
  have p3 := pa.cell3
  have HW := Lib.hid hW.symm
  have EA := Lib.hid ea
  have PA := Lib.hid pa
  obtain ⟨t, ht⟩ : ∃ t, t = sgB s := ⟨_, rfl⟩
  rw [← ht] at SV
  cases t
  · have E := Lib.hid (manyV_no ht.symm)
    clear ht hn hn' h i1 i2 ea pa hW hr hh
    go_enter Tryz.func27, Tryz.ntmps27
    go_upto_region 1 with fail
    rw [HW.out]
    go_wp2_with (go_at_call 17; refine (SV.out _ EA.out).mono ?_; rintro e w2 ⟨rfl, b2⟩)
    go_ret
    exact ⟨ret_int E.out.symm, EA.out.trans (b2.mono EA.out.size)⟩
  have E := manyV_yes ht.symm
  rw [← hn, ← hn'] at E
  have E := Lib.hid E
  have LA := (sgB_of ht.symm).lenA
  have LB := (sgB_of ht.symm).lenB
  have C := Lib.hid (fun X => specManyN (n + n') n n' X rfl (by omega))
  clear ht hn hn' h i1 i2 ea pa hW hr hh LA LB
  go_enter Tryz.func27, Tryz.ntmps27
  go_upto_region 1 with fail
  rw [HW.out]
  go_wp2_with (first
    | (go_at_call 17; refine (SV.out _ EA.out).mono ?_; rintro e w2 ⟨rfl, b2⟩; have c0 := (PA.out.below b2).cell0; have c1 := (PA.out.below b2).cell1)
    | (go_at_call 19; refine (C.out _).mono ?_; rintro e w3 ⟨rfl, rfl⟩))
  go_ret
  exact ⟨ret_int E.out.symm, EA.out.trans (b2.mono EA.out.size)⟩

/-- What the callback that counts keeps. -/
def CntInv (w : World) (b : Nat) (done : List ByteArray) (X : World) : Prop := Uno X b (.int .i64 (done.length : Nat)) 3 ∧ Below w.heap.size w X
theorem func_many (args : Array Value) (X : World) : (callFunc 25 args).run Tryz.prog X = .ok (.enter 25 args) X := by kernel_rfl

set_option maxHeartbeats 1000000 in
theorem countOne {w X : World} {b : Nat} {done : List ByteArray} {o : ByteArray} (hb : w.heap.size ≤ b) (hl : done.length < 4096) (h : CntInv w b done X) :
    Calls Tryz.prog 25 (#[.string o] ++ #[.pointer (some ⟨b, 0, none⟩)]) X fun e X' => e = .returned (.tuple #[]) ∧ CntInv w b (done ++ [o]) X' := by
  obtain ⟨hu, hbel⟩ := h
  have c0 := hu.cell
  have f0 := hu.frozen 0
  have HU := Lib.hid (hu.set (.int .i64 ((done.length : Nat) + 1 : Int)))
  have HB := Lib.hid (hbel.setCell (p := ⟨b, 0, none⟩) hb (.int .i64 ((done.length : Nat) + 1 : Int)))
  have E := Lib.hid (show ((done ++ [o]).length : Int) = (done.length : Int) + 1 by rw [List.length_append]; simp)
  obtain ⟨n, hn⟩ : ∃ n, n = done.length := ⟨_, rfl⟩
  rw [← hn] at c0 HU HB E hl
  have hl' : (n : Int) < 4096 := by omega
  clear hn hu hbel hb
  show Calls Tryz.prog 25 #[.string o, .pointer (some ⟨b, 0, none⟩)] X _
  go_enter Tryz.func25, Tryz.ntmps25
  go_wp2_with fail
  go_end0
  exact ⟨rfl, by unfold CntInv; rw [E.out]; exact ⟨HU.out, HB.out⟩⟩

set_option maxHeartbeats 2000000 in
theorem implMany {w : World} {v : Value} {s : Sg} (h : SgV w v s) :
    Calls Tryz.prog 10 #[v] w fun e w' => e = .returned (.int .i64 (manyV s)) ∧ Below w.heap.size w w' := by
  have SV := Lib.hid (fun (X : World) (b : Below w.heap.size w X) => implSingle (h.below b))
  have HV := Lib.hid h
  obtain ⟨a, n, c, a', n', c', rfl, i1, i2⟩ := h.form
  obtain ⟨r, hr⟩ : ∃ r, r = s.run := ⟨_, rfl⟩
  obtain ⟨hd, hh⟩ : ∃ r, r = s.head := ⟨_, rfl⟩
  rw [← hr, ← hh] at SV HV ⊢
  have ea := below_alloc w (.cells #[.slice a n c, .slice a' n' c', .int .i64 r, .int .i64 hd] 25)
  have pa := Quad.new w (.slice a n c) (.slice a' n' c') (.int .i64 r) (.int .i64 hd) 25
  obtain ⟨W, hW⟩ : ∃ W, W = w.alloc (.cells #[.slice a n c, .slice a' n' c', .int .i64 r, .int .i64 hd] 25) := ⟨_, rfl⟩
  rw [← hW] at ea pa
  have p0 := pa.cell0
  have p1 := pa.cell1
  have p2 := pa.cell2
  have p3 := pa.cell3
  have HW := Lib.hid hW.symm
  have EA := Lib.hid ea
  have PA := Lib.hid pa
  obtain ⟨t, ht⟩ : ∃ t, t = sgB s := ⟨_, rfl⟩
  rw [← ht] at SV
  cases t
  · have E := Lib.hid (manyV_no ht.symm)
    clear ht h i1 i2 ea pa hW hr hh
    go_enter Tryz.func10, Tryz.ntmps10
    go_upto_region 1 with fail
    rw [HW.out]
    go_wp2_with (go_at_call 13; refine (SV.out _ EA.out).mono ?_; rintro e w2 ⟨rfl, b2⟩)
    go_ret
    exact ⟨ret_int E.out.symm, EA.out.trans (b2.mono EA.out.size)⟩
  have HT := Lib.hid ht.symm
  have E := Lib.hid ((manyV_yes ht.symm).trans (by rw [← ords_len]))
  clear ht h i1 i2 ea pa hW hr hh
  go_enter Tryz.func10, Tryz.ntmps10
  go_upto_region 1 with fail
  rw [HW.out]
  go_upto_region 3 with (go_at_call 13; refine (SV.out _ EA.out).mono ?_; rintro e w2 ⟨rfl, b2⟩)
  have B2 := Lib.hid (EA.out.trans (b2.mono EA.out.size))
  have P2 := Lib.hid (PA.out.below b2)
  have u3 := Uno.new w2 (.int .i64 0) 3
  have b3 := below_alloc w2 (.cells #[.int .i64 0] 3)
  obtain ⟨w3, hw3⟩ : ∃ X, X = w2.alloc (.cells #[.int .i64 0] 3) := ⟨_, rfl⟩
  rw [← hw3] at u3 b3
  have q0 := (P2.out.below b3).cell0
  have q1 := (P2.out.below b3).cell1
  have q2 := (P2.out.below b3).cell2
  have q3 := (P2.out.below b3).cell3
  have HW3 := Lib.hid hw3.symm
  have EO := Lib.hid (eachOrder func_many (fun done X o _ hl hI => countOne (w := w2) (b := w2.heap.size) (o := o) (Nat.le_refl _) hl hI) (HV.out.below (B2.out.trans (b3.mono B2.out.size))) HT.out (fun ob => ⟨u3.alloc ob, b3.alloc b3.size ob⟩))
  clear b2 u3 b3 hw3 p0 p1 p2 p3
  go_upto_region 4 with fail
  rw [HW3.out]
  go_upto_region 5 with (go_at_call 15; refine EO.out.mono ?_; rintro e w4 ⟨rfl, hI⟩)
  obtain ⟨u4, b4⟩ := hI
  have c4 := u4.cell
  have B4 := Lib.hid (B2.out.trans (b4.mono B2.out.size))
  clear b4 u4
  go_wp2_with fail
  go_ret
  exact ⟨ret_int E.out.symm, B4.out⟩

end Go.Proofs.YtlcmkocbpnekhaaGreatDoor
