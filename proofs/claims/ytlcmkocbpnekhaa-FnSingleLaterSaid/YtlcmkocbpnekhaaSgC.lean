/-
  Is a text an order of a line's trains; the ready times in an order; how long after the one ahead: the model's and the program's. For texts of at most 1048576 bytes.
-/
import Derived.Test.YtlcmkocbpnekhaaSgB
import Derived.Test.YtlcmkocbpnekhaaPartL
import Derived.Test.YtlcmkocbpnekhaaDirA
namespace Go.Proofs.Ytlcmkocbpnekhaa
open Go.RowKit Go.Sort

theorem beq_dec (a b : Int) : (a == b) = decide (a = b) := by
  by_cases h : a = b
  · subst h; simp
  · simp [h]

theorem count_U (S : ByteArray) : Lib.countByte S.data.toList 85 = upTo S S.size := by
  have h := count_is S 85
  have e : (((85 : UInt8).toNat : Nat) : Int) = 85 := by decide
  rw [e] at h
  rw [h, cntF_up]
theorem count_D (S : ByteArray) : Lib.countByte S.data.toList 68 = dnTo S S.size := by
  have h := count_is S 68
  have e : (((68 : UInt8).toNat : Nat) : Int) = 68 := by decide
  rw [e] at h
  rw [h]; rfl

set_option maxHeartbeats 4000000 in
theorem implOrder {w : World} {v : Value} {s : Sg} {S : ByteArray} (h : SgV w v s) (hS : S.size ≤ 1048576) :
    Calls Try.prog 41 #[v, .string S] w fun e w' => e = .returned (.bool (ordB s.A.length s.B.length S)) ∧ Below w.heap.size w w' := by
  have FO := ordB_counts s.A.length s.B.length S
  have hle := up_dn_le S S.size
  obtain ⟨a, n, c, a', n', c', rfl, i1, i2⟩ := h.form
  have hn : n = s.A.length := by obtain ⟨_, _, e, _⟩ := i1; simp only [Value.slice.injEq] at e; exact e.2.1
  have hn' : n' = s.B.length := by obtain ⟨_, _, e, _⟩ := i2; simp only [Value.slice.injEq] at e; exact e.2.1
  obtain ⟨xs, ys, r, hd⟩ := s
  simp only at FO hn hn' ⊢
  rw [← hn, ← hn'] at FO
  rw [← hn, ← hn']
  have ea := below_alloc w (.cells #[.slice a n c, .slice a' n' c', .int .i64 r, .int .i64 hd] 25)
  have pa := Quad.new w (.slice a n c) (.slice a' n' c') (.int .i64 r) (.int .i64 hd) 25
  obtain ⟨W, hW⟩ : ∃ W, W = w.alloc (.cells #[.slice a n c, .slice a' n' c', .int .i64 r, .int .i64 hd] 25) := ⟨_, rfl⟩
  rw [← hW] at ea pa
  have C1 := Lib.hid (fun (X : World) => (Try.strings_Count_one S 85 X))
  have C2 := Lib.hid (fun (X : World) => (Try.strings_Count_one S 68 X))
  have k1 := count_U S
  have k2 := count_D S
  rw [k1] at C1
  rw [k2] at C2
  obtain ⟨up, hup⟩ : ∃ x, x = upTo S S.size := ⟨_, rfl⟩
  obtain ⟨dn, hdn⟩ : ∃ x, x = dnTo S S.size := ⟨_, rfl⟩
  rw [← hup] at C1 FO hle
  rw [← hdn] at C2 FO hle
  have hup' : (up : Int) ≤ 1048576 := by omega
  have hdn' : (dn : Int) ≤ 1048576 := by omega
  have hS' : (S.size : Int) ≤ 1048576 := by omega
  have hw1 : IntKind.i64.wrap ((up : Int) + (dn : Int)) = (up : Int) + (dn : Int) := IntWalk.i64_in _ (by omega)
  have hw2 : wrap64 ((up : Int) + (dn : Int)) = (up : Int) + (dn : Int) := by rw [← IntWalk.i64_left]; exact hw1
  obtain ⟨res, hres⟩ : ∃ res, res = ordB n n' S := ⟨_, rfl⟩
  rw [← hres] at FO ⊢
  rw [← beq_dec, ← beq_dec, ← beq_dec] at FO
  obtain ⟨t1, ht1⟩ : ∃ t, t = ((up : Int) == (n : Int)) := ⟨_, rfl⟩
  obtain ⟨t2, ht2⟩ : ∃ t, t = ((dn : Int) == (n' : Int)) := ⟨_, rfl⟩
  obtain ⟨t3, ht3⟩ : ∃ t, t = ((up : Int) + (dn : Int) == (S.size : Int)) := ⟨_, rfl⟩
  rw [← ht1, ← ht2, ← ht3] at FO
  have T1 := ht1.symm
  have T2 := ht2.symm
  have T3 := ht3.symm
  have p0 := pa.cell0
  have p1 := pa.cell1
  have HW := Lib.hid hW.symm
  have EA := Lib.hid ea
  have FO := Lib.hid FO
  clear ht1 ht2 ht3 hres hup hdn k1 k2 hle hn hn' h i1 i2 ea pa hW
  go_enter Try.func41, Try.ntmps41
  go_upto_region 1 with fail
  rw [HW.out]
  cases t1
  · have E := Lib.hid (show res = false by rw [FO.out]; simp)
    clear T2 T3
    go_wp2_with (first
      | (go_at_call_of 69 (Value.string ⟨#[85]⟩); refine (C1.out _).mono ?_; rintro e w2 ⟨rfl, rfl⟩)
      | (go_at_call_of 69 (Value.string ⟨#[68]⟩); refine (C2.out _).mono ?_; rintro e w2 ⟨rfl, rfl⟩))
    go_ret
    exact ⟨ret_bool E.out.symm, EA.out⟩
  cases t2
  · have E := Lib.hid (show res = false by rw [FO.out]; simp)
    clear T3
    go_wp2_with (first
      | (go_at_call_of 69 (Value.string ⟨#[85]⟩); refine (C1.out _).mono ?_; rintro e w2 ⟨rfl, rfl⟩)
      | (go_at_call_of 69 (Value.string ⟨#[68]⟩); refine (C2.out _).mono ?_; rintro e w2 ⟨rfl, rfl⟩))
    go_ret
    exact ⟨ret_bool E.out.symm, EA.out⟩
  have E := Lib.hid (show t3 = res by rw [FO.out]; simp)
  go_wp2_with (first
    | (go_at_call_of 69 (Value.string ⟨#[85]⟩); refine (C1.out _).mono ?_; rintro e w2 ⟨rfl, rfl⟩)
    | (go_at_call_of 69 (Value.string ⟨#[68]⟩); refine (C2.out _).mono ?_; rintro e w2 ⟨rfl, rfl⟩))
  go_ret
  exact ⟨ret_bool E.out, EA.out⟩

theorem index_at {S : ByteArray} {k : Nat} (h : k < S.size) : ∀ (w : World), (Instr.index 9 (.string S) (.int .i64 k)).run Try.prog w = .ok (.int .u8 (bt S k)) w := by
  intro w
  rw [run_index_string _ _ _ _ _ Try.underlying9, dif_pos ⟨by omega, by omega⟩, ← bt_get h]
  rfl

set_option maxHeartbeats 4000000 in
theorem specOrder {w : World} {v : Value} {s : Sg} {S : ByteArray} (h : SgV w v s) (hu : s.A.length ≤ 6) (hd : s.B.length ≤ 6) (hS : S.size ≤ 1048576) :
    Calls Try.prog 45 #[v, .string S] w fun e w' => e = .returned (.bool (ordB s.A.length s.B.length S)) ∧ Below w.heap.size w w' := by
  have FO := ordB_dir (S := S) hu hd
  have hle := upTo_le S S.size
  obtain ⟨a, n, c, a', n', c', rfl, i1, i2⟩ := h.form
  have hn : n = s.A.length := by obtain ⟨_, _, e, _⟩ := i1; simp only [Value.slice.injEq] at e; exact e.2.1
  have hn' : n' = s.B.length := by obtain ⟨_, _, e, _⟩ := i2; simp only [Value.slice.injEq] at e; exact e.2.1
  obtain ⟨xs, ys, r, hd2⟩ := s
  simp only at FO hn hn' hu hd ⊢
  rw [← hn, ← hn'] at FO
  rw [← hn] at hu
  rw [← hn'] at hd
  rw [← hn, ← hn']
  have ea := below_alloc w (.cells #[.slice a n c, .slice a' n' c', .int .i64 r, .int .i64 hd2] 25)
  have pa := Quad.new w (.slice a n c) (.slice a' n' c') (.int .i64 r) (.int .i64 hd2) 25
  obtain ⟨W, hW⟩ : ∃ W, W = w.alloc (.cells #[.slice a n c, .slice a' n' c', .int .i64 r, .int .i64 hd2] 25) := ⟨_, rfl⟩
  rw [← hW] at ea pa
  have DV := Lib.hid (fun (X : World) => specDirections S (by omega) X)
  obtain ⟨res, hres⟩ : ∃ res, res = ordB n n' S := ⟨_, rfl⟩
  rw [← hres] at FO ⊢
  obtain ⟨t0, ht0⟩ : ∃ t, t = dirB S := ⟨_, rfl⟩
  rw [← ht0] at FO DV
  rw [← beq_dec, ← beq_dec] at FO
  have CE := Lib.hid (fun (w1 : World) (b1 : Below W.heap.size W w1) => (pa.below b1))
  have HW := Lib.hid hW.symm
  have EA := Lib.hid ea
  have hS' : (S.size : Int) ≤ 1048576 := by omega
  have hu' : (n : Int) ≤ 6 := by omega
  have hd' : (n' : Int) ≤ 6 := by omega
  have HSZ := Lib.hid hS
  have FO := Lib.hid FO
  clear ht0 hres hle hn hn' h i1 i2 ea pa hW hS hu hd
  go_enter Try.func45, Try.ntmps45
  go_upto_region 1 with fail
  rw [HW.out]
  go_wp2_with fail
  go_loopw [5, 6] (fun u i wr => ∃ k : Nat, k ≤ S.size ∧ i = .int .i64 k ∧ u = .int .i64 (upTo S k : Nat) ∧ Below W.heap.size W wr) (fun _ i _ => S.size - (intOf i).toNat)
  case atStart => exact ⟨0, by omega, rfl, rfl, below_self _⟩
  case round =>
    obtain ⟨k, hk, rfl, rfl, hbel⟩ := hrel
    by_cases hlt : k < S.size
    · have hki : (k : Int) < (S.size : Int) := by omega
      have hix := index_at hlt
      have UU := Lib.hid (@upTo_U S k)
      have UD := Lib.hid (@upTo_D S k)
      have hup := upTo_le S k
      obtain ⟨m, hm⟩ : ∃ m, m = upTo S k := ⟨_, rfl⟩
      rw [← hm] at UU UD hup ⊢
      have hm' : (m : Int) ≤ 1048576 := by omega
      obtain ⟨x, hx⟩ : ∃ x, x = bt S k := ⟨_, rfl⟩
      rw [← hx] at hix UU UD
      clear hx hm hup
      by_cases h1 : x = 85
      · have E := Lib.hid (UU.out h1)
        subst h1
        go_wp2_with fail
        go_roundw
        case rel => exact ⟨k + 1, by omega, by go_num, by rw [E.out]; go_num, hbel⟩
        case measure => simp [intOf]; omega
      · have E := Lib.hid (UD.out h1)
        have t1 : (x == 85) = false := by simp [h1]
        clear h1
        go_wp2_with fail
        go_roundw
        case rel => exact ⟨k + 1, by omega, by go_num, by rw [E.out], hbel⟩
        case measure => simp [intOf]; omega
    · obtain rfl : k = S.size := by omega
      obtain ⟨m, hm⟩ : ∃ m, m = upTo S S.size := ⟨_, rfl⟩
      have FO := FO.out
      rw [← hm] at FO ⊢
      obtain ⟨t1, ht1⟩ : ∃ t, t = ((m : Int) == (n : Int)) := ⟨_, rfl⟩
      obtain ⟨t2, ht2⟩ : ∃ t, t = ((S.size : Int) == (n : Int) + (n' : Int)) := ⟨_, rfl⟩
      rw [← ht1, ← ht2] at FO
      have T1 := ht1.symm
      have T2 := ht2.symm
      have FO := Lib.hid FO
      have hw1 : IntKind.i64.wrap ((n : Int) + (n' : Int)) = (n : Int) + (n' : Int) := IntWalk.i64_in _ (by omega)
      have hw2 : wrap64 ((n : Int) + (n' : Int)) = (n : Int) + (n' : Int) := by rw [← IntWalk.i64_left]; exact hw1
      clear ht1 ht2 hm hlt hk
      cases t0
      · have E := Lib.hid (show res = false by rw [FO.out]; simp)
        go_wp2_with (go_at_call 71; refine (DV.out _).mono ?_; rintro e w2 ⟨rfl, b2⟩; have B2 := hbel.trans (b2.mono hbel.size); have c0 := (CE.out _ B2).cell0; have c1 := (CE.out _ B2).cell1)
        go_ret
        exact ⟨ret_bool E.out.symm, EA.out.trans (B2.mono EA.out.size)⟩
      cases t1
      · have E := Lib.hid (show res = false by rw [FO.out]; simp)
        go_wp2_with (go_at_call 71; refine (DV.out _).mono ?_; rintro e w2 ⟨rfl, b2⟩; have B2 := hbel.trans (b2.mono hbel.size); have c0 := (CE.out _ B2).cell0; have c1 := (CE.out _ B2).cell1)
        go_ret
        exact ⟨ret_bool E.out.symm, EA.out.trans (B2.mono EA.out.size)⟩
      have E := Lib.hid (show t2 = res by rw [FO.out]; simp)
      go_wp2_with (go_at_call 71; refine (DV.out _).mono ?_; rintro e w2 ⟨rfl, b2⟩; have B2 := hbel.trans (b2.mono hbel.size); have c0 := (CE.out _ B2).cell0; have c1 := (CE.out _ B2).cell1)
      go_ret
      exact ⟨ret_bool E.out, EA.out.trans (B2.mono EA.out.size)⟩

set_option maxHeartbeats 1000000 in
theorem apart_is {w : World} {u1 u2 : Value} {r hd x y : Int} :
    Calls Try.prog 43 #[.agg #[u1, u2, .int .i64 r, .int .i64 hd], .int .u8 x, .int .u8 y] w fun e w' => e = .returned (.int .i64 (if y = x then hd else r)) ∧ Below w.heap.size w w' := by
  have ea := below_alloc w (.cells #[u1, u2, .int .i64 r, .int .i64 hd] 25)
  have pa := Quad.new w u1 u2 (.int .i64 r) (.int .i64 hd) 25
  obtain ⟨W, hW⟩ : ∃ W, W = w.alloc (.cells #[u1, u2, .int .i64 r, .int .i64 hd] 25) := ⟨_, rfl⟩
  rw [← hW] at ea pa
  have p2 := pa.cell2
  have p3 := pa.cell3
  have HW := Lib.hid hW.symm
  clear hW
  by_cases h : y = x
  · rw [if_pos h]
    have t : (y == x) = true := by simp [h]
    clear h
    go_enter Try.func43, Try.ntmps43
    go_upto_region 1 with fail
    rw [HW.out]
    go_wp2_with fail
    go_ret
    exact ⟨rfl, ea⟩
  · rw [if_neg h]
    have t : (y == x) = false := by simp [h]
    clear h
    go_enter Try.func43, Try.ntmps43
    go_upto_region 1 with fail
    rw [HW.out]
    go_wp2_with fail
    go_ret
    exact ⟨rfl, ea⟩

end Go.Proofs.Ytlcmkocbpnekhaa
