/-
  The first order with the least measure: what the program's firstLeast does, SingleBest and SingleSoon.
-/
import Derived.Test.YtlcmkocbpnekhaaSgK
namespace Go.Proofs.Ytlcmkocbpnekhaa
open Go.RowKit Go.Sort

def lsStep (f : ByteArray → Int) (q : ByteArray × Int) (o : ByteArray) : ByteArray × Int := if q.2 < 0 ∨ f o < q.2 then (o, f o) else q
def lsOf (f : ByteArray → Int) (l : List ByteArray) : ByteArray × Int := l.foldl (lsStep f) (noS, -1)
theorem lsOf_add (f : ByteArray → Int) (l : List ByteArray) (o : ByteArray) : lsOf f (l ++ [o]) = lsStep f (lsOf f l) o := by
  unfold lsOf; rw [List.foldl_append]; rfl
def bestV (s : Sg) : ByteArray := if sgB s then (lsOf (waitV s) (ords s)).1 else noS
def soonV (s : Sg) : Int := if sgB s then (lsOf (endV s) (ords s)).2 else -1

/-- What the callback that looks for the least keeps. -/
def LsInv (f : ByteArray → Int) (w : World) (bm bs bl bb : Nat) (M : Nat) (x y : Value) (r hd : Int) (done : List ByteArray) (X : World) : Prop :=
  Uno X bm (.func (.func M) #[] #[]) 36 ∧ Quad X bs x y (.int .i64 r) (.int .i64 hd) 25 ∧ Uno X bl (.int .i64 (lsOf f done).2) 3 ∧ Uno X bb (.string (lsOf f done).1) 9 ∧ Below w.heap.size w X
/-- The parts, with the least as it is. -/
def LsParts (w : World) (bm bs bl bb : Nat) (M : Nat) (x y : Value) (r hd : Int) (qb : ByteArray) (ql : Int) (X : World) : Prop :=
  Uno X bm (.func (.func M) #[] #[]) 36 ∧ Quad X bs x y (.int .i64 r) (.int .i64 hd) 25 ∧ Uno X bl (.int .i64 ql) 3 ∧ Uno X bb (.string qb) 9 ∧ Below w.heap.size w X
theorem func_least (args : Array Value) (X : World) : (callFunc 73 args).run Try.prog X = .ok (.enter 73 args) X := by kernel_rfl

set_option maxRecDepth 100000 in
set_option maxHeartbeats 1000000 in
theorem leastOne {f : ByteArray → Int} {w X : World} {bm bs bl bb M : Nat} {x y : Value} {r hd : Int} {done : List ByteArray} {o : ByteArray} (HC : ∀ (args : Array Value) (X : World), (callFunc M args).run Try.prog X = .ok (.enter M args) X)
    (HM : ∀ X', Below w.heap.size w X' → Calls Try.prog M #[.agg #[x, y, .int .i64 r, .int .i64 hd], .string o] X' fun e w' => e = .returned (.int .i64 (f o)) ∧ Below X'.heap.size X' w')
    (hbl : w.heap.size ≤ bl) (hbb : w.heap.size ≤ bb) (h1 : bm ≠ bl) (h2 : bm ≠ bb) (h3 : bs ≠ bl) (h4 : bs ≠ bb) (h5 : bl ≠ bb) (h : LsInv f w bm bs bl bb M x y r hd done X) :
    Calls Try.prog 73 (#[.string o] ++ #[.pointer (some ⟨bm, 0, none⟩), .pointer (some ⟨bs, 0, none⟩), .pointer (some ⟨bl, 0, none⟩), .pointer (some ⟨bb, 0, none⟩)]) X fun e X' => e = .returned (.tuple #[]) ∧ LsInv f w bm bs bl bb M x y r hd (done ++ [o]) X' := by
  obtain ⟨um, us, ul, ub, hbel⟩ := h
  have HM := Lib.hid (HM X hbel)
  have E := lsOf_add f done o
  obtain ⟨q, hq⟩ : ∃ q, q = lsOf f done := ⟨_, rfl⟩
  rw [← hq] at E ul ub
  obtain ⟨n, hn⟩ : ∃ n, n = f o := ⟨_, rfl⟩
  have E2 : lsOf f (done ++ [o]) = if q.2 < 0 ∨ n < q.2 then (o, n) else q := by rw [E, hn]; rfl
  rw [← hn] at HM
  obtain ⟨qb, ql⟩ := q
  have c0 := um.cell
  have s0 := us.cell0
  have s1 := us.cell1
  have s2 := us.cell2
  have s3 := us.cell3
  show Calls Try.prog 73 #[.string o, .pointer (some ⟨bm, 0, none⟩), .pointer (some ⟨bs, 0, none⟩), .pointer (some ⟨bl, 0, none⟩), .pointer (some ⟨bb, 0, none⟩)] X _
  clear hn hq E
  have G := Lib.hid (fun (X1 : World) (b1 : Below X.heap.size X X1) => show LsParts w bm bs bl bb M x y r hd qb ql X1 from ⟨um.below b1, us.below b1, ul.below b1, ub.below b1, hbel.trans (b1.mono hbel.size)⟩)
  have DX := Lib.hid (show bl ≠ bb ∧ bm ≠ bl ∧ bm ≠ bb ∧ bs ≠ bl ∧ bs ≠ bb ∧ w.heap.size ≤ bl ∧ w.heap.size ≤ bb from ⟨h5, h1, h2, h3, h4, hbl, hbb⟩)
  clear um us ul ub hbel h1 h2 h3 h4 h5 hbl hbb
  have E2 := Lib.hid E2
  obtain ⟨t1, ht1⟩ : ∃ t, t = decide (ql < 0) := ⟨_, rfl⟩
  obtain ⟨t2, ht2⟩ : ∃ t, t = decide (n < ql) := ⟨_, rfl⟩
  have e1 := ht1.symm
  have e2 := ht2.symm
  have HT := Lib.hid (And.intro e1 e2)
  clear ht1 ht2
  go_enter Try.func73, Try.ntmps73
  go_upto_region 1 with fail
  refine Calls.mono HM.out ?_
  rintro e X1 ⟨rfl, b1⟩
  obtain ⟨vm, vs, vl, vb, be⟩ := G.out _ b1
  have cl := vl.cell
  have cb := vb.cell
  have fb := vb.frozen 0
  have vb2 := vb.set (.string o)
  have vl2 := vl.other (a := ⟨bb, 0, none⟩) DX.out.1 (.string o)
  have vm2 := vm.other (a := ⟨bb, 0, none⟩) DX.out.2.2.1 (.string o)
  have vs2 := vs.other (a := ⟨bb, 0, none⟩) DX.out.2.2.2.2.1 (.string o)
  have be2 := be.setCell (p := ⟨bb, 0, none⟩) DX.out.2.2.2.2.2.2 (.string o)
  have cl2 := vl2.cell
  have fl2 := vl2.frozen 0
  have PY := Lib.hid (show LsParts w bm bs bl bb M x y r hd o n ((X1.setCell ⟨bb, 0, none⟩ (.string o)).setCell ⟨bl, 0, none⟩ (.int .i64 n)) from
    ⟨vm2.other (a := ⟨bl, 0, none⟩) DX.out.2.1 _, vs2.other (a := ⟨bl, 0, none⟩) DX.out.2.2.2.1 _, vl2.set _, vb2.other (a := ⟨bl, 0, none⟩) (Ne.symm DX.out.1) _, be2.setCell (p := ⟨bl, 0, none⟩) DX.out.2.2.2.2.2.1 _⟩)
  have PN := Lib.hid (show LsParts w bm bs bl bb M x y r hd qb ql X1 from ⟨vm, vs, vl, vb, be⟩)
  clear vm vs vl vb be vb2 vl2 vm2 vs2 be2 b1 c0 s0 s1 s2 s3
  cases t1 <;> cases t2
  · have EE := Lib.hid (E2.out.trans (if_neg (fun q => by rcases q with q | q; exact absurd (decide_eq_true q) (by rw [HT.out.1]; decide); exact absurd (decide_eq_true q) (by rw [HT.out.2]; decide))))
    go_wp2_with fail
    go_end0
    exact ⟨rfl, by unfold LsInv; rw [EE.out]; exact PN.out⟩
  · have EE := Lib.hid (E2.out.trans (if_pos (.inr (of_decide_eq_true HT.out.2))))
    go_wp2_with fail
    go_end0
    exact ⟨rfl, by unfold LsInv; rw [EE.out]; exact PY.out⟩
  · have EE := Lib.hid (E2.out.trans (if_pos (.inl (of_decide_eq_true HT.out.1))))
    go_wp2_with fail
    go_end0
    exact ⟨rfl, by unfold LsInv; rw [EE.out]; exact PY.out⟩
  · have EE := Lib.hid (E2.out.trans (if_pos (.inl (of_decide_eq_true HT.out.1))))
    go_wp2_with fail
    go_end0
    exact ⟨rfl, by unfold LsInv; rw [EE.out]; exact PY.out⟩

set_option maxRecDepth 100000 in
set_option maxHeartbeats 2000000 in
theorem implLeast {f : ByteArray → Int} {M : Nat} {w : World} {v : Value} {s : Sg} (HC : ∀ (args : Array Value) (X : World), (callFunc M args).run Try.prog X = .ok (.enter M args) X)
    (HM : ∀ X' o, Below w.heap.size w X' → o.size ≤ 12 → Calls Try.prog M #[v, .string o] X' fun e w' => e = .returned (.int .i64 (f o)) ∧ Below X'.heap.size X' w') (h : SgV w v s) (hs : sgB s = true) :
    Calls Try.prog 56 #[v, .func (.func M) #[] #[]] w fun e w' => e = .returned (.tuple #[.string (lsOf f (ords s)).1, .int .i64 (lsOf f (ords s)).2]) ∧ Below w.heap.size w w' := by
  have HV := Lib.hid h
  have HS := Lib.hid hs
  obtain ⟨a, n, c, a', n', c', rfl, i1, i2⟩ := h.form
  obtain ⟨r, hr⟩ : ∃ r, r = s.run := ⟨_, rfl⟩
  obtain ⟨hd, hh⟩ : ∃ r, r = s.head := ⟨_, rfl⟩
  rw [← hr, ← hh] at HV HM ⊢
  have ua := Quad.new w (.slice a n c) (.slice a' n' c') (.int .i64 r) (.int .i64 hd) 25
  have ea := below_alloc w (.cells #[.slice a n c, .slice a' n' c', .int .i64 r, .int .i64 hd] 25)
  have sa : (w.alloc (.cells #[.slice a n c, .slice a' n' c', .int .i64 r, .int .i64 hd] 25)).heap.size = w.heap.size + 1 := Go.Deep.nblk_alloc _ _
  obtain ⟨W1, hW1⟩ : ∃ W, W = w.alloc (.cells #[.slice a n c, .slice a' n' c', .int .i64 r, .int .i64 hd] 25) := ⟨_, rfl⟩
  rw [← hW1] at ua ea sa
  have ub := Uno.new W1 (.func (.func M) #[] #[]) 36
  have eb := below_alloc W1 (.cells #[.func (.func M) #[] #[]] 36)
  have sb : (W1.alloc (.cells #[.func (.func M) #[] #[]] 36)).heap.size = W1.heap.size + 1 := Go.Deep.nblk_alloc _ _
  obtain ⟨W2, hW2⟩ : ∃ W, W = W1.alloc (.cells #[.func (.func M) #[] #[]] 36) := ⟨_, rfl⟩
  rw [← hW2] at ub eb sb
  have uc := Uno.new W2 (.string ⟨#[]⟩) 9
  have ec := below_alloc W2 (.cells #[.string ⟨#[]⟩] 9)
  have sc : (W2.alloc (.cells #[.string ⟨#[]⟩] 9)).heap.size = W2.heap.size + 1 := Go.Deep.nblk_alloc _ _
  obtain ⟨W3, hW3⟩ : ∃ W, W = W2.alloc (.cells #[.string ⟨#[]⟩] 9) := ⟨_, rfl⟩
  rw [← hW3] at uc ec sc
  have ud := Uno.new W3 (.int .i64 (-1)) 3
  have ed := below_alloc W3 (.cells #[.int .i64 (-1)] 3)
  obtain ⟨W4, hW4⟩ : ∃ W, W = W3.alloc (.cells #[.int .i64 (-1)] 3) := ⟨_, rfl⟩
  rw [← hW4] at ud ed
  rw [sc, sb, sa] at ud
  rw [sb, sa] at uc
  rw [sa] at ub
  have HW := Lib.hid (show (((w.alloc (.cells #[.slice a n c, .slice a' n' c', .int .i64 r, .int .i64 hd] 25)).alloc (.cells #[.func (.func M) #[] #[]] 36)).alloc (.cells #[.string ⟨#[]⟩] 9)).alloc (.cells #[.int .i64 (-1)] 3) = W4 by rw [hW4, hW3, hW2, hW1])
  have b24 := ec.trans (ed.mono ec.size)
  have b14 := eb.trans (b24.mono eb.size)
  have b04 := ea.trans (b14.mono ea.size)
  have vq := ua.below b14
  have INV := Lib.hid (show ∀ ob, LsInv f w (w.heap.size + 1) w.heap.size (w.heap.size + 1 + 1 + 1) (w.heap.size + 1 + 1) M (.slice a n c) (.slice a' n' c') r hd [] (W4.alloc ob) from fun ob =>
    ⟨(ub.below b24).alloc ob, vq.alloc ob, ud.alloc ob, (uc.below ed).alloc ob, b04.alloc b04.size ob⟩)
  have EO := Lib.hid (eachOrder func_least (fun done X o ho _ hI => leastOne (w := w) (done := done) (o := o) HC (fun X' b => HM X' o b ho) (by omega) (by omega) (by omega) (by omega) (by omega) (by omega) (by omega) hI) (HV.out.below b04) HS.out INV.out)
  have k0 := vq.cell0
  have k1 := vq.cell1
  have k2 := vq.cell2
  have k3 := vq.cell3
  clear ua ub uc ud ea eb ec ed sa sb sc hW1 hW2 hW3 hW4 b24 b14 vq INV HC HM h i1 i2 hr hh hs
  obtain ⟨q, hq⟩ : ∃ q, q = lsOf f (ords s) := ⟨_, rfl⟩
  rw [← hq]
  have HQ := Lib.hid hq
  clear hq
  go_enter Try.func56, Try.ntmps56
  go_upto_region 1 with fail
  go_upto_region 2 with fail
  rw [HW.out]
  go_upto_region 3 with (go_at_call 49; refine EO.out.mono ?_; rintro e w5 ⟨rfl, hI⟩)
  obtain ⟨-, -, ul, ub, b5⟩ := hI
  rw [← HQ.out] at ul ub
  have c0 := ul.cell
  have c1 := ub.cell
  have B5 := Lib.hid b5
  clear ul ub b5 k0 k1 k2 k3 b04
  have d0 := fun d os => cell_regrown c0 d os
  have d1 := fun d os => cell_regrown c1 d os
  clear c0 c1
  refine wp_region_quiet_below (by kernel_rfl) (by kernel_rfl) ?_
  repeat (go_big_quiet_step (skip))
  refine wpQuiet_nil ?_
  intro _ hw'
  obtain ⟨⟨dq, osq⟩, hw''⟩ := hw'
  subst hw''
  have BR := below_regrown w5 dq osq
  clear d0 d1
  go_wp2_with fail
  go_ret2
  exact ⟨rfl, B5.out.trans (BR.mono B5.out.size)⟩

theorem func_Wait (args : Array Value) (X : World) : (callFunc 25 args).run Try.prog X = .ok (.enter 25 args) X := by kernel_rfl

set_option maxRecDepth 100000 in
set_option maxHeartbeats 2000000 in
theorem implBest {w : World} {v : Value} {s : Sg} (h : SgV w v s) :
    Calls Try.prog 23 #[v] w fun e w' => e = .returned (.tuple #[.string (bestV s), .bool (sgB s)]) ∧ Below w.heap.size w w' := by
  have SV := Lib.hid (fun (X : World) (b : Below w.heap.size w X) => implSingle (h.below b))
  have LV := Lib.hid (fun (X : World) (b : Below w.heap.size w X) (t : sgB s = true) => implLeast (f := waitV s) (M := 25) func_Wait (fun X' o b' ho => implWait (S := o) ((h.below b).below b') (by omega)) (h.below b) t)
  obtain ⟨a, n, c, a', n', c', rfl, i1, i2⟩ := h.form
  obtain ⟨r, hr⟩ : ∃ r, r = s.run := ⟨_, rfl⟩
  obtain ⟨hd, hh⟩ : ∃ r, r = s.head := ⟨_, rfl⟩
  rw [← hr, ← hh] at SV LV ⊢
  have ea := below_alloc w (.cells #[.slice a n c, .slice a' n' c', .int .i64 r, .int .i64 hd] 25)
  have pa := Quad.new w (.slice a n c) (.slice a' n' c') (.int .i64 r) (.int .i64 hd) 25
  obtain ⟨W, hW⟩ : ∃ W, W = w.alloc (.cells #[.slice a n c, .slice a' n' c', .int .i64 r, .int .i64 hd] 25) := ⟨_, rfl⟩
  rw [← hW] at ea pa
  have p0 := pa.cell0
  have p1 := pa.cell1
  have p2 := pa.cell2
  have p3 := pa.cell3
  have HW := Lib.hid hW.symm
  have EA := Lib.hid ea
  have PA := Lib.hid pa
  obtain ⟨t, ht⟩ : ∃ t, t = sgB s := ⟨_, rfl⟩
  rw [← ht] at SV LV
  cases t
  · have E := Lib.hid (show bestV s = ⟨#[]⟩ ∧ sgB s = false from ⟨by simp [bestV, ← ht, noS], ht.symm⟩)
    clear ht h i1 i2 ea pa hW hr hh LV
    go_enter Try.func23, Try.ntmps23
    go_upto_region 1 with fail
    rw [HW.out]
    go_wp2_with (go_at_call 40; refine (SV.out _ EA.out).mono ?_; rintro e w2 ⟨rfl, b2⟩)
    go_ret2
    exact ⟨by rw [E.out.1, E.out.2]; rfl, EA.out.trans (b2.mono EA.out.size)⟩
  have E := Lib.hid (show (lsOf (waitV s) (ords s)).1 = bestV s ∧ sgB s = true from ⟨by simp [bestV, ← ht], ht.symm⟩)
  obtain ⟨q, hq⟩ : ∃ q, q = lsOf (waitV s) (ords s) := ⟨_, rfl⟩
  rw [← hq] at E LV
  clear hq ht h i1 i2 ea pa hW hr hh
  go_enter Try.func23, Try.ntmps23
  go_upto_region 1 with fail
  rw [HW.out]
  go_wp2_with (first
    | (go_at_call 40; refine (SV.out _ EA.out).mono ?_; rintro e w2 ⟨rfl, b2⟩; have c0 := (PA.out.below b2).cell0; have c1 := (PA.out.below b2).cell1; have c2 := (PA.out.below b2).cell2; have c3 := (PA.out.below b2).cell3; have e2 := EA.out.trans (b2.mono EA.out.size); clear b2 p0 p1 p2 p3)
    | (go_at_call 56; refine (LV.out _ e2 trivial).mono ?_; rintro e w3 ⟨rfl, b3⟩))
  go_ret2
  exact ⟨by rw [← E.out.1, E.out.2]; rfl, e2.trans (b3.mono e2.size)⟩

theorem func_End (args : Array Value) (X : World) : (callFunc 32 args).run Try.prog X = .ok (.enter 32 args) X := by kernel_rfl

set_option maxRecDepth 100000 in
set_option maxHeartbeats 2000000 in
theorem implSoon {w : World} {v : Value} {s : Sg} (h : SgV w v s) :
    Calls Try.prog 24 #[v] w fun e w' => e = .returned (.int .i64 (soonV s)) ∧ Below w.heap.size w w' := by
  have SV := Lib.hid (fun (X : World) (b : Below w.heap.size w X) => implSingle (h.below b))
  have LV := Lib.hid (fun (X : World) (b : Below w.heap.size w X) (t : sgB s = true) => implLeast (f := endV s) (M := 32) func_End (fun X' o b' ho => implEnd (S := o) ((h.below b).below b') (by omega)) (h.below b) t)
  obtain ⟨a, n, c, a', n', c', rfl, i1, i2⟩ := h.form
  obtain ⟨r, hr⟩ : ∃ r, r = s.run := ⟨_, rfl⟩
  obtain ⟨hd, hh⟩ : ∃ r, r = s.head := ⟨_, rfl⟩
  rw [← hr, ← hh] at SV LV ⊢
  have ea := below_alloc w (.cells #[.slice a n c, .slice a' n' c', .int .i64 r, .int .i64 hd] 25)
  have pa := Quad.new w (.slice a n c) (.slice a' n' c') (.int .i64 r) (.int .i64 hd) 25
  obtain ⟨W, hW⟩ : ∃ W, W = w.alloc (.cells #[.slice a n c, .slice a' n' c', .int .i64 r, .int .i64 hd] 25) := ⟨_, rfl⟩
  rw [← hW] at ea pa
  have p0 := pa.cell0
  have p1 := pa.cell1
  have p2 := pa.cell2
  have p3 := pa.cell3
  have HW := Lib.hid hW.symm
  have EA := Lib.hid ea
  have PA := Lib.hid pa
  obtain ⟨t, ht⟩ : ∃ t, t = sgB s := ⟨_, rfl⟩
  rw [← ht] at SV LV
  cases t
  · have E := Lib.hid (show soonV s = -1 by simp [soonV, ← ht])
    clear ht h i1 i2 ea pa hW hr hh LV
    go_enter Try.func24, Try.ntmps24
    go_upto_region 1 with fail
    rw [HW.out]
    go_wp2_with (go_at_call 40; refine (SV.out _ EA.out).mono ?_; rintro e w2 ⟨rfl, b2⟩)
    go_ret
    exact ⟨ret_int E.out.symm, EA.out.trans (b2.mono EA.out.size)⟩
  have E := Lib.hid (show (lsOf (endV s) (ords s)).2 = soonV s by simp [soonV, ← ht])
  obtain ⟨q, hq⟩ : ∃ q, q = lsOf (endV s) (ords s) := ⟨_, rfl⟩
  rw [← hq] at E LV
  clear hq ht h i1 i2 ea pa hW hr hh
  go_enter Try.func24, Try.ntmps24
  go_upto_region 1 with fail
  rw [HW.out]
  go_wp2_with (first
    | (go_at_call 40; refine (SV.out _ EA.out).mono ?_; rintro e w2 ⟨rfl, b2⟩; have c0 := (PA.out.below b2).cell0; have c1 := (PA.out.below b2).cell1; have c2 := (PA.out.below b2).cell2; have c3 := (PA.out.below b2).cell3; have e2 := EA.out.trans (b2.mono EA.out.size); clear b2 p0 p1 p2 p3)
    | (go_at_call 56; refine (LV.out _ e2 trivial).mono ?_; rintro e w3 ⟨rfl, b3⟩))
  go_ret
  exact ⟨ret_int E.out, e2.trans (b3.mono e2.size)⟩

end Go.Proofs.Ytlcmkocbpnekhaa
