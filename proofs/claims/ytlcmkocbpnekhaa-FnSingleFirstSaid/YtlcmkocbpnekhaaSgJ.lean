/-
  The order in which trains go as they are ready: the model's and the program's SingleFirst.
-/
import Derived.Test.YtlcmkocbpnekhaaSgH
import Derived.Test.YtlcmkocbpnekhaaBuilder
namespace Go.Proofs.Ytlcmkocbpnekhaa
open Go.RowKit Go.Sort

/-! ### Plainly -/
def tkU (s : Sg) (i j : Nat) : Bool := decide (j = s.B.length ∨ (i < s.A.length ∧ s.A.getD i 0 ≤ s.B.getD j 0))
def fiA (s : Sg) : Nat → Nat
  | 0 => 0
  | k + 1 => fiA s k + (if tkU s (fiA s k) (k - fiA s k) then 1 else 0)
theorem fiA_le (s : Sg) (k : Nat) : fiA s k ≤ k := by
  induction k with
  | zero => exact Nat.le_refl _
  | succ k ih => simp only [fiA]; split <;> omega
theorem fiA_range (s : Sg) (k : Nat) (hk : k ≤ s.A.length + s.B.length) : fiA s k ≤ s.A.length ∧ k - fiA s k ≤ s.B.length := by
  induction k with
  | zero => simp [fiA]
  | succ k ih =>
    have h1 := ih (by omega)
    have h2 := fiA_le s k
    simp only [fiA]
    by_cases h : tkU s (fiA s k) (k - fiA s k) = true
    · rw [if_pos h]
      have := of_decide_eq_true h
      omega
    · rw [if_neg h]
      have hn : ¬ (k - fiA s k = s.B.length ∨ (fiA s k < s.A.length ∧ s.A.getD (fiA s k) 0 ≤ s.B.getD (k - fiA s k) 0)) := fun q => h (decide_eq_true q)
      omega
def fsL (s : Sg) (k : Nat) : UInt8 := if tkU s (fiA s k) (k - fiA s k) then 85 else 68
def fsTo (s : Sg) (k : Nat) : List UInt8 := (List.range k).map (fsL s)
def fsT (s : Sg) (k : Nat) : ByteArray := ⟨(fsTo s k).toArray⟩
theorem fsTo_succ (s : Sg) (k : Nat) : fsTo s (k + 1) = fsTo s k ++ [fsL s k] := by simp [fsTo, List.range_succ]
theorem fsTo_len (s : Sg) (k : Nat) : (fsTo s k).length = k := by simp [fsTo]
theorem fsT_size (s : Sg) (k : Nat) : (fsT s k).size = k := by
  show (fsTo s k).toArray.size = k
  rw [List.size_toArray, fsTo_len]
theorem fsT_U {s : Sg} {k : Nat} (h : tkU s (fiA s k) (k - fiA s k) = true) : fsT s k ++ ⟨#[85]⟩ = fsT s (k + 1) := by
  unfold fsT
  rw [fsTo_succ]
  have : fsL s k = 85 := by unfold fsL; rw [if_pos h]
  rw [this]
  apply ByteArray.ext
  simp
theorem fsT_D {s : Sg} {k : Nat} (h : tkU s (fiA s k) (k - fiA s k) = false) : fsT s k ++ ⟨#[68]⟩ = fsT s (k + 1) := by
  unfold fsT
  rw [fsTo_succ]
  have : fsL s k = 68 := by unfold fsL; rw [h]; rfl
  rw [this]
  apply ByteArray.ext
  simp
theorem fiA_U {s : Sg} {k : Nat} (h : tkU s (fiA s k) (k - fiA s k) = true) : fiA s (k + 1) = fiA s k + 1 := by simp [fiA, h]
theorem fiA_D {s : Sg} {k : Nat} (h : tkU s (fiA s k) (k - fiA s k) = false) : fiA s (k + 1) = fiA s k := by simp [fiA, h]
def fsV (s : Sg) : ByteArray := if sgB s then fsT s (s.A.length + s.B.length) else ⟨#[]⟩
theorem fsV_no {s : Sg} (h : sgB s = false) : fsV s = ⟨#[]⟩ := by simp [fsV, h]
theorem fsV_yes {s : Sg} (h : sgB s = true) : fsV s = fsT s (s.A.length + s.B.length) := by simp [fsV, h]
/-- The four ways of a round. -/
theorem tk_end {s : Sg} {i : Nat} : tkU s i s.B.length = true := decide_eq_true (.inl rfl)
theorem tk_noA {s : Sg} {j : Nat} (h : j < s.B.length) : tkU s s.A.length j = false := decide_eq_false (fun q => by omega)
theorem tk_le {s : Sg} {i j : Nat} (hi : i < s.A.length) (h : s.A.getD i 0 ≤ s.B.getD j 0) : tkU s i j = true := decide_eq_true (.inr ⟨hi, h⟩)
theorem tk_gt {s : Sg} {i j : Nat} (hj : j < s.B.length) (h : s.B.getD j 0 < s.A.getD i 0) : tkU s i j = false := decide_eq_false (fun q => by omega)

set_option maxRecDepth 100000 in
set_option maxHeartbeats 4000000 in
theorem specFirst {w : World} {v : Value} {s : Sg} (h : SgV w v s) :
    Calls Try.prog 31 #[v] w fun e w' => e = .returned (.tuple #[.string (fsV s), .bool (sgB s)]) ∧ Below w.heap.size w w' := by
  have SV := Lib.hid (fun (X : World) (b : Below w.heap.size w X) => specSingle (h.below b))
  obtain ⟨a, n, c, a', n', c', rfl, i1, i2⟩ := h.form
  have hn := slice_len i1
  have hn' := slice_len i2
  obtain ⟨r, hr⟩ : ∃ r, r = s.run := ⟨_, rfl⟩
  obtain ⟨hd, hh⟩ : ∃ r, r = s.head := ⟨_, rfl⟩
  rw [← hr, ← hh] at SV ⊢
  have ea := below_alloc w (.cells #[.slice a n c, .slice a' n' c', .int .i64 r, .int .i64 hd] 25)
  have pa := Quad.new w (.slice a n c) (.slice a' n' c') (.int .i64 r) (.int .i64 hd) 25
  obtain ⟨W, hW⟩ : ∃ W, W = w.alloc (.cells #[.slice a n c, .slice a' n' c', .int .i64 r, .int .i64 hd] 25) := ⟨_, rfl⟩
  rw [← hW] at ea pa
  have p0 := pa.cell0
  have p1 := pa.cell1
  have p2 := pa.cell2
  have p3 := pa.cell3
  have HW := Lib.hid hW.symm
  have EA := Lib.hid ea
  have PA := Lib.hid pa
  have I1 := Lib.hid i1
  have I2 := Lib.hid i2
  obtain ⟨t, ht⟩ : ∃ t, t = sgB s := ⟨_, rfl⟩
  rw [← ht] at SV
  cases t
  · have E := Lib.hid (fsV_no ht.symm)
    have HT := Lib.hid ht.symm
    clear ht hn hn' h i1 i2 ea pa hW hr hh
    go_enter Try.func31, Try.ntmps31
    go_upto_region 1 with fail
    rw [HW.out]
    go_wp2_with (go_at_call 44; refine (SV.out _ EA.out).mono ?_; rintro e w2 ⟨rfl, b2⟩)
    go_ret2
    exact ⟨by rw [E.out, HT.out]; rfl, EA.out.trans (b2.mono EA.out.size)⟩
  have E := Lib.hid (fsV_yes ht.symm)
  have HT := Lib.hid ht.symm
  have LA := (sgB_of ht.symm).lenA
  have LB := (sgB_of ht.symm).lenB
  have FR := Lib.hid (fiA_range s)
  have N := Lib.hid (And.intro hn hn')
  have la : (n : Int) ≤ 6 := by omega
  have lb : (n' : Int) ≤ 6 := by omega
  clear ht h i1 i2 ea pa hW hr hh LA LB hn hn'
  go_enter Try.func31, Try.ntmps31
  go_upto_region 1 with fail
  rw [HW.out]
  go_wp2_with (go_at_call 44; refine (SV.out _ EA.out).mono ?_; rintro e w2 ⟨rfl, b2⟩)
  have P2 := Lib.hid (PA.out.below b2)
  have B2 := Lib.hid (EA.out.trans (b2.mono EA.out.size))
  clear b2 p0 p1 p2 p3
  go_loopw [4, 5, 6] (fun o x y wr => ∃ (k i j : Nat), k ≤ n + n' ∧ x = .int .i64 i ∧ y = .int .i64 j ∧ o = .string (fsT s k) ∧ Hid (i = fiA s k ∧ j = k - fiA s k) ∧ Hid (Quad wr w.heap.size (.slice a n c) (.slice a' n' c') (.int .i64 r) (.int .i64 hd) 25) ∧ Hid (Below w.heap.size w wr)) (fun _ x y _ => n + n' - (intOf x).toNat - (intOf y).toNat)
  case atStart => exact ⟨0, 0, 0, by omega, rfl, rfl, rfl, Lib.hid ⟨rfl, rfl⟩, P2, B2⟩
  case round =>
    obtain ⟨k, i, j, hk, rfl, rfl, rfl, hij, hp, hbel⟩ := hrel
    have fr := FR.out k (by have := N.out; omega)
    have fl := fiA_le s k
    rw [← hij.out.1] at fr fl
    have hjk := hij.out.2
    rw [← hij.out.1] at hjk
    have z0 := hp.out.cell0
    have z1 := hp.out.cell1
    obtain ⟨n1, n2⟩ := N.out
    have hi : i ≤ n := by omega
    have hj : j ≤ n' := by omega
    have hij2 : i + j = k := by omega
    have SZ := fsT_size s k
    have pu := add_text (fsT s k) ⟨#[85]⟩ (by rw [SZ, show (⟨#[85]⟩ : ByteArray).size = 1 from rfl]; omega)
    have pd := add_text (fsT s k) ⟨#[68]⟩ (by rw [SZ, show (⟨#[68]⟩ : ByteArray).size = 1 from rfl]; omega)
    by_cases hjn : j = n'
    · by_cases hin : i < n
      · have e1 : (i : Int) < (n : Int) := by omega
        have e3 : ((j : Int) == (n' : Int)) = true := by rw [hjn]; simp
        have hkk : k + 1 ≤ n + n' := by omega
        have TK := Lib.hid (show tkU s (fiA s k) (k - fiA s k) = true by rw [← hij.out.1, ← hjk]; exact (by rw [hjn, n2]; exact tk_end))
        have F1 := fsT_U TK.out
        rw [F1] at pu
        have F2 := Lib.hid (fiA_U TK.out)
        obtain ⟨T0, hT0⟩ : ∃ x, x = fsT s k := ⟨_, rfl⟩
        rw [← hT0] at pu ⊢
        clear hT0 F1 pd SZ fl fr hjk n1 n2
        have c0 := fun d os => cell_regrown z0 d os
        have c1 := fun d os => cell_regrown z1 d os
        clear hi hj hjn hin
        go_upto_region 7 with fail
        refine wp_region_quiet_below (by kernel_rfl) (by kernel_rfl) ?_
        repeat (go_big_quiet_step (skip))
        refine wpQuiet_nil ?_
        intro _ hw'
        obtain ⟨⟨dq, osq⟩, hw''⟩ := hw'
        subst hw''
        have BR := below_regrown wr dq osq
        have hp := Lib.hid (hp.out.below BR)
        have hbel := Lib.hid (hbel.out.trans (BR.mono hbel.out.size))
        clear BR
        clear z0 z1 c0 c1
        go_wp2_with fail
        go_roundw
        case rel => exact ⟨k + 1, i + 1, j, by omega, by go_num, rfl, rfl, Lib.hid ⟨by rw [F2.out, ← hij.out.1], by rw [F2.out, ← hij.out.1]; omega⟩, hp, hbel⟩
        case measure => simp [intOf]; omega
      · have e1 : decide ((i : Int) < (n : Int)) = false := decide_eq_false (by omega)
        have e2 : decide ((j : Int) < (n' : Int)) = false := decide_eq_false (by omega)
        have EE := Lib.hid (show fsT s k = fsV s by rw [E.out, show k = s.A.length + s.B.length by omega])
        clear pu pd SZ hi hj
        go_wp2_with fail
        go_ret2
        exact ⟨by rw [EE.out, HT.out]; rfl, hbel.out⟩
    · have hjl : j < n' := by omega
      have e3 : ((j : Int) == (n' : Int)) = false := by simp; omega
      have hkk : k + 1 ≤ n + n' := by omega
      by_cases hin : i < n
      · have e1 : decide ((i : Int) < (n : Int)) = true := decide_eq_true (by omega)
        obtain ⟨ba, oa, ca, ea1, hba, hca⟩ := ints_at I1.out (by omega)
        simp only [Value.slice.injEq] at ea1
        obtain ⟨rfl, -, rfl⟩ := ea1
        obtain ⟨bb, ob, cb, eb1, hbb, hcb⟩ := ints_at I2.out (by omega)
        simp only [Value.slice.injEq] at eb1
        obtain ⟨rfl, -, rfl⟩ := eb1
        have x0 := (hbel.out.cell (p := ⟨ba, oa + i, none⟩) hba).trans (hca i (by omega))
        have y0 := (hbel.out.cell (p := ⟨bb, ob + j, none⟩) hbb).trans (hcb j (by omega))
        have hii : (i : Int) < (n : Int) := by omega
        have hji : (j : Int) < (n' : Int) := by omega
        rcases Int.lt_or_le (s.B.getD j 0) (s.A.getD i 0) with hxy | hxy
        · have e4 : decide (s.A.getD i 0 ≤ s.B.getD j 0) = false := decide_eq_false (by omega)
          have TK := Lib.hid (show tkU s (fiA s k) (k - fiA s k) = false by rw [← hij.out.1, ← hjk]; exact tk_gt (by omega) hxy)
          have F1 := fsT_D TK.out
          rw [F1] at pd
          have F2 := Lib.hid (fiA_D TK.out)
          obtain ⟨T0, hT0⟩ : ∃ x, x = fsT s k := ⟨_, rfl⟩
          rw [← hT0] at pd ⊢
          clear hT0 F1 pu SZ fl fr hjk n1 n2
          obtain ⟨x, hx⟩ : ∃ x, x = s.A.getD i 0 := ⟨_, rfl⟩
          obtain ⟨y, hy⟩ : ∃ x, x = s.B.getD j 0 := ⟨_, rfl⟩
          rw [← hx] at x0 e4
          rw [← hy] at y0 e4
          have c0 := fun d os => cell_regrown z0 d os
          have c1 := fun d os => cell_regrown z1 d os
          have c2 := fun d os => cell_regrown x0 d os
          have c3 := fun d os => cell_regrown y0 d os
          clear hx hy hxy hi hj hjn hin hca hcb hba hbb
          go_upto_region 7 with fail
          refine wp_region_quiet_below (by kernel_rfl) (by kernel_rfl) ?_
          repeat (go_big_quiet_step (skip))
          refine wpQuiet_nil ?_
          intro _ hw'
          obtain ⟨⟨dq, osq⟩, hw''⟩ := hw'
          subst hw''
          have BR := below_regrown wr dq osq
          have hp := Lib.hid (hp.out.below BR)
          have hbel := Lib.hid (hbel.out.trans (BR.mono hbel.out.size))
          clear BR
          clear z0 z1 c0 c1 c2 c3 x0 y0
          go_wp2_with fail
          go_roundw
          case rel => exact ⟨k + 1, i, j + 1, by omega, rfl, by go_num, rfl, Lib.hid ⟨by rw [F2.out, ← hij.out.1], by rw [F2.out, ← hij.out.1]; omega⟩, hp, hbel⟩
          case measure => simp [intOf]; omega
        · have e4 : decide (s.A.getD i 0 ≤ s.B.getD j 0) = true := decide_eq_true hxy
          have TK := Lib.hid (show tkU s (fiA s k) (k - fiA s k) = true by rw [← hij.out.1, ← hjk]; exact tk_le (by omega) hxy)
          have F1 := fsT_U TK.out
          rw [F1] at pu
          have F2 := Lib.hid (fiA_U TK.out)
          obtain ⟨T0, hT0⟩ : ∃ x, x = fsT s k := ⟨_, rfl⟩
          rw [← hT0] at pu ⊢
          clear hT0 F1 pd SZ fl fr hjk n1 n2
          obtain ⟨x, hx⟩ : ∃ x, x = s.A.getD i 0 := ⟨_, rfl⟩
          obtain ⟨y, hy⟩ : ∃ x, x = s.B.getD j 0 := ⟨_, rfl⟩
          rw [← hx] at x0 e4
          rw [← hy] at y0 e4
          have c0 := fun d os => cell_regrown z0 d os
          have c1 := fun d os => cell_regrown z1 d os
          have c2 := fun d os => cell_regrown x0 d os
          have c3 := fun d os => cell_regrown y0 d os
          clear hx hy hxy hi hj hjn hin hca hcb hba hbb
          go_upto_region 7 with fail
          refine wp_region_quiet_below (by kernel_rfl) (by kernel_rfl) ?_
          repeat (go_big_quiet_step (skip))
          refine wpQuiet_nil ?_
          intro _ hw'
          obtain ⟨⟨dq, osq⟩, hw''⟩ := hw'
          subst hw''
          have BR := below_regrown wr dq osq
          have hp := Lib.hid (hp.out.below BR)
          have hbel := Lib.hid (hbel.out.trans (BR.mono hbel.out.size))
          clear BR
          clear z0 z1 c0 c1 c2 c3 x0 y0
          go_wp2_with fail
          go_roundw
          case rel => exact ⟨k + 1, i + 1, j, by omega, by go_num, rfl, rfl, Lib.hid ⟨by rw [F2.out, ← hij.out.1], by rw [F2.out, ← hij.out.1]; omega⟩, hp, hbel⟩
          case measure => simp [intOf]; omega
      · have hin' : i = n := by omega
        have e1 : decide ((i : Int) < (n : Int)) = false := decide_eq_false (by omega)
        have e2 : (j : Int) < (n' : Int) := by omega
        have e1n : decide (i < n) = false := decide_eq_false (by omega)
        have TK := Lib.hid (show tkU s (fiA s k) (k - fiA s k) = false by rw [← hij.out.1, ← hjk]; exact (by rw [hin', n1]; exact tk_noA (by omega)))
        have F1 := fsT_D TK.out
        rw [F1] at pd
        have F2 := Lib.hid (fiA_D TK.out)
        obtain ⟨T0, hT0⟩ : ∃ x, x = fsT s k := ⟨_, rfl⟩
        rw [← hT0] at pd ⊢
        clear hT0 F1 pu SZ fl fr hjk n1 n2
        have c0 := fun d os => cell_regrown z0 d os
        have c1 := fun d os => cell_regrown z1 d os
        clear hi hj hjn hin hin'
        go_upto_region 7 with fail
        refine wp_region_quiet_below (by kernel_rfl) (by kernel_rfl) ?_
        repeat (go_big_quiet_step (skip))
        refine wpQuiet_nil ?_
        intro _ hw'
        obtain ⟨⟨dq, osq⟩, hw''⟩ := hw'
        subst hw''
        have BR := below_regrown wr dq osq
        have hp := Lib.hid (hp.out.below BR)
        have hbel := Lib.hid (hbel.out.trans (BR.mono hbel.out.size))
        clear BR
        clear z0 z1 c0 c1
        go_wp2_with fail
        go_roundw
        case rel => exact ⟨k + 1, i, j + 1, by omega, rfl, by go_num, rfl, Lib.hid ⟨by rw [F2.out, ← hij.out.1], by rw [F2.out, ← hij.out.1]; omega⟩, hp, hbel⟩
        case measure => simp [intOf]; omega

theorem builder_below {T e : TypeId} {B b : Nat} {bs : List Value} {w w' : World} (h : Lib.IsBuilderF T e B b bs w) (hb : Below w.heap.size w w') : Lib.IsBuilderF T e B b bs w' := by
  have one : ∀ {p : Value}, Lib.BuilderAtF T e B b p bs w → Lib.BuilderAtF T e B b p bs w' := by
    intro p h
    have hl := h.lt
    obtain ⟨hB, v, h1, h2, h3⟩ := h
    refine ⟨hB, v, (hb.block b hl).trans h1, ⟨h2.1, ?_⟩, h3⟩
    rcases h2.2 with h | ⟨g, cap, cur, fz, hv, h4, h5, h6⟩
    · exact .inl h
    · exact .inr ⟨g, cap, cur, fz, hv, h4, (hb.block g (Array.getElem?_eq_some_iff.1 h5).1).trans h5, h6⟩
  exact h.elim (fun h => .inl (one h)) (fun h => .inr (one h))
def lenOf : Value → Nat
  | .slice _ n _ => n
  | _ => 0
theorem lenOf_is {w : World} {u : Value} {xs : List Int} (h : Ints w u xs) : lenOf u = xs.length := by
  obtain ⟨a, c, rfl, -⟩ := h; rfl
theorem firsts_at {w : World} {u : Value} {xs : List Int} {m : Nat} (h : Ints w u (xs.drop m)) (hm : m ≤ xs.length) : ∃ a c, u = .slice a (xs.length - m) c := by
  obtain ⟨a, c, rfl, -⟩ := h
  exact ⟨a, c, by rw [List.length_drop]⟩

set_option maxRecDepth 100000 in
set_option maxHeartbeats 4000000 in
theorem implFirst {w : World} {v : Value} {s : Sg} (h : SgV w v s) :
    Calls Try.prog 30 #[v] w fun e w' => e = .returned (.tuple #[.string (fsV s), .bool (sgB s)]) ∧ Below w.heap.size w w' := by
  have SV := Lib.hid (fun (X : World) (b : Below w.heap.size w X) => implSingle (h.below b))
  obtain ⟨a, n, c, a', n', c', rfl, i1, i2⟩ := h.form
  have hn := slice_len i1
  have hn' := slice_len i2
  obtain ⟨r, hr⟩ : ∃ r, r = s.run := ⟨_, rfl⟩
  obtain ⟨hd, hh⟩ : ∃ r, r = s.head := ⟨_, rfl⟩
  rw [← hr, ← hh] at SV ⊢
  have ea := below_alloc w (.cells #[.slice a n c, .slice a' n' c', .int .i64 r, .int .i64 hd] 25)
  have pa := Quad.new w (.slice a n c) (.slice a' n' c') (.int .i64 r) (.int .i64 hd) 25
  obtain ⟨W, hW⟩ : ∃ W, W = w.alloc (.cells #[.slice a n c, .slice a' n' c', .int .i64 r, .int .i64 hd] 25) := ⟨_, rfl⟩
  rw [← hW] at ea pa
  have p0 := pa.cell0
  have p1 := pa.cell1
  have p2 := pa.cell2
  have p3 := pa.cell3
  have HW := Lib.hid hW.symm
  have EA := Lib.hid ea
  have PA := Lib.hid pa
  have I1 := Lib.hid i1
  have I2 := Lib.hid i2
  obtain ⟨t, ht⟩ : ∃ t, t = sgB s := ⟨_, rfl⟩
  rw [← ht] at SV
  cases t
  · have E := Lib.hid (fsV_no ht.symm)
    have HT := Lib.hid ht.symm
    clear ht hn hn' h i1 i2 ea pa hW hr hh
    go_enter Try.func30, Try.ntmps30
    go_upto_region 1 with fail
    rw [HW.out]
    go_wp2_with (go_at_call 40; refine (SV.out _ EA.out).mono ?_; rintro e w2 ⟨rfl, b2⟩)
    go_ret2
    exact ⟨by rw [E.out, HT.out]; rfl, EA.out.trans (b2.mono EA.out.size)⟩
  have E := Lib.hid (fsV_yes ht.symm)
  have HT := Lib.hid ht.symm
  have LA := (sgB_of ht.symm).lenA
  have LB := (sgB_of ht.symm).lenB
  have FR := Lib.hid (fiA_range s)
  have N := Lib.hid (And.intro hn hn')
  have la : (n : Int) ≤ 6 := by omega
  have lb : (n' : Int) ≤ 6 := by omega
  clear ht h i1 i2 ea pa hW hr hh LA LB hn hn'
  go_enter Try.func30, Try.ntmps30
  go_upto_region 1 with fail
  rw [HW.out]
  go_upto_region 3 with (go_at_call 40; refine (SV.out _ EA.out).mono ?_; rintro e w2 ⟨rfl, b2⟩)
  have P2 := Lib.hid (PA.out.below b2)
  have B2 := Lib.hid (EA.out.trans (b2.mono EA.out.size))
  clear b2 p0 p1 p2 p3
  have hfresh := Lib.hid (Lib.IsBuilderF.of (Lib.fresh_isBuilder 70 5 w2))
  have p4 := (P2.out.alloc (.cells #[.pointer none, .slice none 0 0] 70)).cell0
  have p5 := (P2.out.alloc (.cells #[.pointer none, .slice none 0 0] 70)).cell1
  have b3 := below_alloc w2 (.cells #[.pointer none, .slice none 0 0] 70)
  obtain ⟨w3, hw3⟩ : ∃ X, X = w2.alloc (.cells #[.pointer none, .slice none 0 0] 70) := ⟨_, rfl⟩
  rw [← hw3] at hfresh p4 p5 b3
  have HW3 := Lib.hid hw3.symm
  have E4 := fun d os => cell_regrown p4 d os
  have E5 := fun d os => cell_regrown p5 d os
  clear hw3 p4 p5
  go_upto_region 4 with fail
  rw [HW3.out]
  refine wp_region_quiet_below (by kernel_rfl) (by kernel_rfl) ?_
  repeat (go_big_quiet_step (skip))
  refine wpQuiet_nil ?_
  intro _ hw'
  obtain ⟨⟨dq, osq⟩, hw''⟩ := hw'
  subst hw''
  have BR := below_regrown w3 dq osq
  obtain ⟨w4, hw4⟩ : ∃ X, X = grow (redrawn w3 dq) osq := ⟨_, rfl⟩
  rw [← hw4] at BR ⊢
  have HF := Lib.hid (builder_below hfresh.out BR)
  have B4 := Lib.hid (b3.trans (BR.mono b3.size))
  clear E4 E5 hw4 BR b3
  go_wp2_with fail
  go_loopw [5, 6] (fun ua ub wr => ∃ (k i j : Nat), k ≤ n + n' ∧ Hid (i = fiA s k ∧ j = k - fiA s k) ∧ Hid (Ints w ua (s.A.drop i)) ∧ Hid (Ints w ub (s.B.drop j)) ∧ Hid (Lib.IsBuilderF 70 5 w2.heap.size w2.heap.size (Lib.byteCells (fsTo s k)) wr) ∧ Hid (Below w2.heap.size w2 wr)) (fun ua ub _ => lenOf ua + lenOf ub)
  case atStart => exact ⟨0, 0, 0, by omega, Lib.hid ⟨rfl, rfl⟩, I1, I2, HF, B4⟩
  case round =>
    obtain ⟨k, i, j, hk, hij, hia, hib, hbu, hbel⟩ := hrel
    have fr := FR.out k (by have := N.out; omega)
    have fl := fiA_le s k
    rw [← hij.out.1] at fr fl
    have hjk := hij.out.2
    rw [← hij.out.1] at hjk
    obtain ⟨n1, n2⟩ := N.out
    have hi : i ≤ n := by omega
    have hj : j ≤ n' := by omega
    have hij2 : i + j = k := by omega
    have B2w := B2.out.size
    by_cases hjn : j = n'
    · obtain ⟨ab, cb, hub⟩ := firsts_at hib.out (by omega)
      have hz : s.B.length - j = 0 := by omega
      rw [hz] at hub
      subst hub
      by_cases hin : i < n
      · have hkk : k + 1 ≤ n + n' := by omega
        obtain ⟨b, o, m1, c1, u', hua, hm1, hm2, hb, hcell, hsl, hu'⟩ := drop_first hia.out (by omega)
        subst hua
        have UA := Lib.hid hu'
        have LTA := Lib.hid (show i < s.A.length by omega)
        have hm1' : (0 : Int) < (m1 : Int) := by omega
        have x0 := ((B2.out.trans (hbel.out.mono B2w)).cell (p := ⟨b, o, none⟩) hb).trans hcell
        have TK := Lib.hid (show tkU s (fiA s k) (k - fiA s k) = true by rw [← hij.out.1, ← hjk]; exact (by rw [hjn, n2]; exact tk_end))
        have F2 := Lib.hid (fiA_U TK.out)
        have F1 := Lib.hid (show fsTo s (k + 1) = fsTo s k ++ [85] by rw [fsTo_succ]; unfold fsL; rw [TK.out]; rfl)
        clear fl fr hjk n1 n2 hi hj hjn hin hz hu' hcell x0
        go_upto_region 6 with fail
        refine wp_region_quiet_below (by kernel_rfl) (by kernel_rfl) ?_
        repeat (go_big_quiet_step (skip))
        refine wpQuiet_nil ?_
        intro _ hw'
        obtain ⟨⟨dq, osq⟩, hw''⟩ := hw'
        subst hw''
        have BR := below_regrown wr dq osq
        obtain ⟨V, hV⟩ : ∃ X, X = grow (redrawn wr dq) osq := ⟨_, rfl⟩
        rw [← hV] at BR ⊢
        have hbu := Lib.hid (builder_below hbu.out BR)
        have hbel := Lib.hid (hbel.out.trans (BR.mono hbel.out.size))
        clear hV BR
        have LB := Lib.hid (show (Lib.byteCells (fsTo s k)).length + 1 ≤ 140737488355328 by rw [Lib.byteCells_length, fsTo_len]; omega)
        have WB := Lib.hid (writeByte w2.heap.size w2.heap.size _ 85 _ hbu.out LB.out hbel.out.size)
        go_wp2_with (go_at_call 59; refine WB.out.mono ?_; rintro e W1 ⟨rfl, ib, bb, -⟩)
        go_roundw
        case rel => exact ⟨k + 1, i + 1, j, by omega, Lib.hid ⟨by rw [F2.out, ← hij.out.1], by rw [F2.out, ← hij.out.1]; omega⟩, UA, hib, Lib.hid (by rw [F1.out, Lib.byteCells_append]; exact ib), Lib.hid (hbel.out.trans (bb.mono (Nat.le_refl _)))⟩
        case measure => have q1 := lenOf_is UA.out; have q0 := lenOf_is hia.out; have q3 := LTA.out; rw [List.length_drop] at q0 q1; rw [q1, q0]; omega
      · obtain ⟨aa, ca, hua⟩ := firsts_at hia.out (by omega)
        have hz2 : s.A.length - i = 0 := by omega
        rw [hz2] at hua
        subst hua
        have hkn : k = s.A.length + s.B.length := by omega
        have ST := Lib.hid (Try.Builder_String_any_k w2.heap.size w2.heap.size (fsTo s k) wr hbu.out hbel.out.size)
        have EE := Lib.hid (show (⟨(fsTo s k).toArray⟩ : ByteArray) = fsV s by rw [E.out, hkn]; rfl)
        clear fl fr hjk n1 n2 hi hj hjn hin hz hz2 hkn
        go_wp2_with (go_at_call 60; refine ST.out.mono ?_; rintro e W1 ⟨rfl, -, bb, -⟩)
        go_ret2
        exact ⟨by rw [HT.out, ← EE.out]; rfl, B2.out.trans ((hbel.out.trans (bb.mono (Nat.le_refl _))).mono B2w)⟩
    · have hkk : k + 1 ≤ n + n' := by omega
      obtain ⟨b2, o2, m2, c2, u2, hub, hm3, hm4, hb2, hcell2, hsl2, hu2⟩ := drop_first hib.out (by omega)
      subst hub
      have UB := Lib.hid hu2
      have LTB := Lib.hid (show j < s.B.length by omega)
      have hm3' : (0 : Int) < (m2 : Int) := by omega
      have hm3z : ((m2 : Int) == 0) = false := by simp; omega
      have y0 := ((B2.out.trans (hbel.out.mono B2w)).cell (p := ⟨b2, o2, none⟩) hb2).trans hcell2
      by_cases hin : i < n
      · rcases Int.lt_or_le (s.B.getD j 0) (s.A.getD i 0) with hxy | hxy
        · have e4 : decide (s.A.getD i 0 ≤ s.B.getD j 0) = false := decide_eq_false (by omega)
          have TK := Lib.hid (show tkU s (fiA s k) (k - fiA s k) = false by rw [← hij.out.1, ← hjk]; exact tk_gt (by omega) hxy)
          have F2 := Lib.hid (fiA_D TK.out)
          have F1 := Lib.hid (show fsTo s (k + 1) = fsTo s k ++ [68] by rw [fsTo_succ]; unfold fsL; rw [TK.out]; rfl)
          obtain ⟨b, o, m1, c1, u', hua, hm1, hm2, hb, hcell, hsl, hu'⟩ := drop_first hia.out (by omega)
          subst hua
          have UA := Lib.hid hu'
          have LTA := Lib.hid (show i < s.A.length by omega)
          have hm1' : (0 : Int) < (m1 : Int) := by omega
          have x0 := ((B2.out.trans (hbel.out.mono B2w)).cell (p := ⟨b, o, none⟩) hb).trans hcell
          obtain ⟨x, hx⟩ : ∃ x, x = s.A.getD i 0 := ⟨_, rfl⟩
          obtain ⟨y, hy⟩ : ∃ x, x = s.B.getD j 0 := ⟨_, rfl⟩
          rw [← hx] at x0 e4
          rw [← hy] at y0 e4
          have q2 := fun d os => cell_regrown x0 d os
          have q3 := fun d os => cell_regrown y0 d os
          clear hx hy hxy x0 y0 hcell hcell2 hu' hu2 fl fr hjk n1 n2 hi hj hjn hin
          go_upto_region 6 with fail
          refine wp_region_quiet_below (by kernel_rfl) (by kernel_rfl) ?_
          repeat (go_big_quiet_step (skip))
          refine wpQuiet_nil ?_
          intro _ hw'
          obtain ⟨⟨dq, osq⟩, hw''⟩ := hw'
          subst hw''
          have BR := below_regrown wr dq osq
          obtain ⟨V, hV⟩ : ∃ X, X = grow (redrawn wr dq) osq := ⟨_, rfl⟩
          rw [← hV] at BR ⊢
          have hbu := Lib.hid (builder_below hbu.out BR)
          have hbel := Lib.hid (hbel.out.trans (BR.mono hbel.out.size))
          clear hV BR
          clear q2 q3
          have LB := Lib.hid (show (Lib.byteCells (fsTo s k)).length + 1 ≤ 140737488355328 by rw [Lib.byteCells_length, fsTo_len]; omega)
          have WB := Lib.hid (writeByte w2.heap.size w2.heap.size _ 68 _ hbu.out LB.out hbel.out.size)
          go_wp2_with (go_at_call 59; refine WB.out.mono ?_; rintro e W1 ⟨rfl, ib, bb, -⟩)
          go_roundw
          case rel => exact ⟨k + 1, i, j + 1, by omega, Lib.hid ⟨by rw [F2.out, ← hij.out.1], by rw [F2.out, ← hij.out.1]; omega⟩, hia, UB, Lib.hid (by rw [F1.out, Lib.byteCells_append]; exact ib), Lib.hid (hbel.out.trans (bb.mono (Nat.le_refl _)))⟩
          case measure => have q1 := lenOf_is UB.out; have q0 := lenOf_is hib.out; have q3 := LTB.out; rw [List.length_drop] at q0 q1; rw [q1, q0]; omega
        · have e4 : decide (s.A.getD i 0 ≤ s.B.getD j 0) = true := decide_eq_true hxy
          have TK := Lib.hid (show tkU s (fiA s k) (k - fiA s k) = true by rw [← hij.out.1, ← hjk]; exact tk_le (by omega) hxy)
          have F2 := Lib.hid (fiA_U TK.out)
          have F1 := Lib.hid (show fsTo s (k + 1) = fsTo s k ++ [85] by rw [fsTo_succ]; unfold fsL; rw [TK.out]; rfl)
          obtain ⟨b, o, m1, c1, u', hua, hm1, hm2, hb, hcell, hsl, hu'⟩ := drop_first hia.out (by omega)
          subst hua
          have UA := Lib.hid hu'
          have LTA := Lib.hid (show i < s.A.length by omega)
          have hm1' : (0 : Int) < (m1 : Int) := by omega
          have x0 := ((B2.out.trans (hbel.out.mono B2w)).cell (p := ⟨b, o, none⟩) hb).trans hcell
          obtain ⟨x, hx⟩ : ∃ x, x = s.A.getD i 0 := ⟨_, rfl⟩
          obtain ⟨y, hy⟩ : ∃ x, x = s.B.getD j 0 := ⟨_, rfl⟩
          rw [← hx] at x0 e4
          rw [← hy] at y0 e4
          have q2 := fun d os => cell_regrown x0 d os
          have q3 := fun d os => cell_regrown y0 d os
          clear hx hy hxy x0 y0 hcell hcell2 hu' hu2 fl fr hjk n1 n2 hi hj hjn hin
          go_upto_region 6 with fail
          refine wp_region_quiet_below (by kernel_rfl) (by kernel_rfl) ?_
          repeat (go_big_quiet_step (skip))
          refine wpQuiet_nil ?_
          intro _ hw'
          obtain ⟨⟨dq, osq⟩, hw''⟩ := hw'
          subst hw''
          have BR := below_regrown wr dq osq
          obtain ⟨V, hV⟩ : ∃ X, X = grow (redrawn wr dq) osq := ⟨_, rfl⟩
          rw [← hV] at BR ⊢
          have hbu := Lib.hid (builder_below hbu.out BR)
          have hbel := Lib.hid (hbel.out.trans (BR.mono hbel.out.size))
          clear hV BR
          clear q2 q3
          have LB := Lib.hid (show (Lib.byteCells (fsTo s k)).length + 1 ≤ 140737488355328 by rw [Lib.byteCells_length, fsTo_len]; omega)
          have WB := Lib.hid (writeByte w2.heap.size w2.heap.size _ 85 _ hbu.out LB.out hbel.out.size)
          go_wp2_with (go_at_call 59; refine WB.out.mono ?_; rintro e W1 ⟨rfl, ib, bb, -⟩)
          go_roundw
          case rel => exact ⟨k + 1, i + 1, j, by omega, Lib.hid ⟨by rw [F2.out, ← hij.out.1], by rw [F2.out, ← hij.out.1]; omega⟩, UA, hib, Lib.hid (by rw [F1.out, Lib.byteCells_append]; exact ib), Lib.hid (hbel.out.trans (bb.mono (Nat.le_refl _)))⟩
          case measure => have q1 := lenOf_is UA.out; have q0 := lenOf_is hia.out; have q3 := LTA.out; rw [List.length_drop] at q0 q1; rw [q1, q0]; omega
      · obtain ⟨aa, ca, hua⟩ := firsts_at hia.out (by omega)
        have hz2 : s.A.length - i = 0 := by omega
        rw [hz2] at hua
        subst hua
        have hin' : i = n := by omega
        have TK := Lib.hid (show tkU s (fiA s k) (k - fiA s k) = false by rw [← hij.out.1, ← hjk]; exact (by rw [hin', n1]; exact tk_noA (by omega)))
        have F2 := Lib.hid (fiA_D TK.out)
        have F1 := Lib.hid (show fsTo s (k + 1) = fsTo s k ++ [68] by rw [fsTo_succ]; unfold fsL; rw [TK.out]; rfl)
        clear fl fr hjk n1 n2 hi hj hjn hin hz2 hin' hu2 hcell2 y0
        go_upto_region 6 with fail
        refine wp_region_quiet_below (by kernel_rfl) (by kernel_rfl) ?_
        repeat (go_big_quiet_step (skip))
        refine wpQuiet_nil ?_
        intro _ hw'
        obtain ⟨⟨dq, osq⟩, hw''⟩ := hw'
        subst hw''
        have BR := below_regrown wr dq osq
        obtain ⟨V, hV⟩ : ∃ X, X = grow (redrawn wr dq) osq := ⟨_, rfl⟩
        rw [← hV] at BR ⊢
        have hbu := Lib.hid (builder_below hbu.out BR)
        have hbel := Lib.hid (hbel.out.trans (BR.mono hbel.out.size))
        clear hV BR
        have LB := Lib.hid (show (Lib.byteCells (fsTo s k)).length + 1 ≤ 140737488355328 by rw [Lib.byteCells_length, fsTo_len]; omega)
        have WB := Lib.hid (writeByte w2.heap.size w2.heap.size _ 68 _ hbu.out LB.out hbel.out.size)
        go_wp2_with (go_at_call 59; refine WB.out.mono ?_; rintro e W1 ⟨rfl, ib, bb, -⟩)
        go_roundw
        case rel => exact ⟨k + 1, i, j + 1, by omega, Lib.hid ⟨by rw [F2.out, ← hij.out.1], by rw [F2.out, ← hij.out.1]; omega⟩, hia, UB, Lib.hid (by rw [F1.out, Lib.byteCells_append]; exact ib), Lib.hid (hbel.out.trans (bb.mono (Nat.le_refl _)))⟩
        case measure => have q1 := lenOf_is UB.out; have q0 := lenOf_is hib.out; have q3 := LTB.out; rw [List.length_drop] at q0 q1; rw [q1, q0]; omega

end Go.Proofs.Ytlcmkocbpnekhaa
