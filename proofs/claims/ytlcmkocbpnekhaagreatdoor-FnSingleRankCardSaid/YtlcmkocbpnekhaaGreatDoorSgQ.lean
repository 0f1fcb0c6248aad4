/-
  The rank of an order: plainly, the program's SingleRank, the model's.
-/
import Derived.Test.YtlcmkocbpnekhaaGreatDoorSgN
import Derived.Test.YtlcmkocbpnekhaaGreatDoorSgC
namespace Go.Proofs.YtlcmkocbpnekhaaGreatDoor
open Go.RowKit Go.Sort

def lsB (a b : ByteArray) : Bool := Op.bytesLess a.toList b.toList
def lessN (S : ByteArray) : List ByteArray → Nat
  | [] => 0
  | p :: L => (if lsB p S then 1 else 0) + lessN S L
theorem lessN_app (S : ByteArray) (A B : List ByteArray) : lessN S (A ++ B) = lessN S A + lessN S B := by
  induction A with
  | nil => simp [lessN]
  | cons a A ih => simp only [List.cons_append, lessN, ih]; omega
theorem lessN_add (S : ByteArray) (L : List ByteArray) (o : ByteArray) : lessN S (L ++ [o]) = lessN S L + (if lsB o S then 1 else 0) := by
  rw [lessN_app]; simp only [lessN]; omega
theorem lessN_le (S : ByteArray) (L : List ByteArray) : lessN S L ≤ L.length := by
  induction L with
  | nil => exact Nat.le_refl _
  | cons a L ih => simp only [lessN, List.length_cons]; split <;> omega
theorem lsB_put (a b : UInt8) (p q : ByteArray) : lsB ((⟨#[a]⟩ : ByteArray) ++ p) ((⟨#[b]⟩ : ByteArray) ++ q) = (decide (a < b) || (a == b && lsB p q)) := by
  unfold lsB
  rw [put_list, put_list, ByteArray.toList_eq, ByteArray.toList_eq, ByteArray.toList_eq, ByteArray.toList_eq]
  rfl
theorem lessN_same (b : UInt8) (T : ByteArray) (L : List ByteArray) : lessN ((⟨#[b]⟩ : ByteArray) ++ T) (L.map (fun o => (⟨#[b]⟩ : ByteArray) ++ o)) = lessN T L := by
  induction L with
  | nil => rfl
  | cons a L ih =>
    simp only [List.map_cons, lessN, ih]
    rw [lsB_put]
    have : decide (b < b) = false := decide_eq_false (by simp [UInt8.lt_irrefl])
    rw [this]; simp
theorem lessN_all (T : ByteArray) (L : List ByteArray) : lessN ((⟨#[85]⟩ : ByteArray) ++ T) (L.map (fun o => (⟨#[68]⟩ : ByteArray) ++ o)) = L.length := by
  induction L with
  | nil => rfl
  | cons a L ih =>
    simp only [List.map_cons, lessN, ih, List.length_cons]
    rw [lsB_put]
    have : decide ((68 : UInt8) < 85) = true := by decide
    rw [this]; simp; omega
theorem lessN_none (T : ByteArray) (L : List ByteArray) : lessN ((⟨#[68]⟩ : ByteArray) ++ T) (L.map (fun o => (⟨#[85]⟩ : ByteArray) ++ o)) = 0 := by
  induction L with
  | nil => rfl
  | cons a L ih =>
    simp only [List.map_cons, lessN, ih]
    rw [lsB_put]
    have h1 : decide ((85 : UInt8) < 68) = false := by decide
    have h2 : ((85 : UInt8) == 68) = false := by decide
    rw [h1, h2]; rfl
def rankV (s : Sg) (S : ByteArray) : Int := if sgO s S then (lessN S (ords s) : Nat) else -1
theorem rankV_no {s : Sg} {S : ByteArray} (h : sgO s S = false) : rankV s S = -1 := by simp [rankV, h]
theorem rankV_yes {s : Sg} {S : ByteArray} (h : sgO s S = true) : rankV s S = (lessN S (ords s) : Nat) := by simp [rankV, h]
/-! ### The way along the order -/
theorem OrdOk.tailD {u d : Nat} {T : ByteArray} (h : OrdOk u d ((⟨#[68]⟩ : ByteArray) ++ T)) : ∃ b, d = b + 1 ∧ OrdOk u b T := by
  have h1 := h.ups
  have h2 := h.size
  rw [pre_size] at h1 h2
  rw [upTo_put] at h1
  have e : ((68 : UInt8).toNat : Int) = 68 := rfl
  rw [if_neg (by rw [e]; omega), Nat.zero_add] at h1
  have h3 := upTo_le T T.size
  refine ⟨d - 1, by omega, fun j hj => ?_, h1, by omega⟩
  have := h.only (j + 1) (by rw [pre_size]; omega)
  rwa [bt_put] at this
theorem OrdOk.tailU {u d : Nat} {T : ByteArray} (h : OrdOk u d ((⟨#[85]⟩ : ByteArray) ++ T)) : ∃ v, u = v + 1 ∧ OrdOk v d T := by
  have h1 := h.ups
  have h2 := h.size
  rw [pre_size] at h1 h2
  rw [upTo_put] at h1
  have e : ((85 : UInt8).toNat : Int) = 85 := rfl
  rw [if_pos (by rw [e])] at h1
  refine ⟨u - 1, by omega, fun j hj => ?_, by omega, by omega⟩
  have := h.only (j + 1) (by rw [pre_size]; omega)
  rwa [bt_put] at this
/-- acc lie before, and behind here T is left of u and d trains. -/
def LR (total acc u d : Nat) (T : ByteArray) : Prop := OrdOk u d T ∧ acc + lessN T (allF (u + d) u d) = total
theorem LR.down {total acc u d : Nat} {T : ByteArray} (h : LR total acc u d ((⟨#[68]⟩ : ByteArray) ++ T)) : ∃ b, d = b + 1 ∧ LR total acc u b T := by
  obtain ⟨b, rfl, h2⟩ := h.1.tailD
  refine ⟨b, rfl, h2, ?_⟩
  have h3 := h.2
  rw [show u + (b + 1) = (u + b) + 1 by omega, allF, if_pos (Nat.zero_lt_succ b), Nat.add_sub_cancel, lessN_app] at h3
  have e1 : lessN ((⟨#[68]⟩ : ByteArray) ++ T) ((allF (u + b) u b).map (fun o => sD ++ o)) = lessN T (allF (u + b) u b) := lessN_same 68 T _
  have e2 : lessN ((⟨#[68]⟩ : ByteArray) ++ T) (if 0 < u then (allF (u + b) (u - 1) (b + 1)).map (fun o => sU ++ o) else []) = 0 := by
    split
    · exact lessN_none T _
    · rfl
  rw [e1, e2] at h3
  omega
theorem LR.up {total acc u d : Nat} {T : ByteArray} (h : LR total acc u d ((⟨#[85]⟩ : ByteArray) ++ T)) : ∃ v, u = v + 1 ∧ ((d = 0 ∧ LR total acc v d T) ∨ ∃ b, d = b + 1 ∧ LR total (acc + mny (v + 1) b) v d T) := by
  obtain ⟨v, rfl, h2⟩ := h.1.tailU
  refine ⟨v, rfl, ?_⟩
  have h3 := h.2
  have e1 : lessN ((⟨#[85]⟩ : ByteArray) ++ T) ((allF (v + d) v d).map (fun o => sU ++ o)) = lessN T (allF (v + d) v d) := lessN_same 85 T _
  rw [show v + 1 + d = (v + d) + 1 by omega, allF, lessN_app, if_pos (Nat.zero_lt_succ v), Nat.add_sub_cancel, e1] at h3
  rcases Nat.eq_zero_or_pos d with hd | hd
  · subst hd
    refine .inl ⟨rfl, h2, ?_⟩
    rw [if_neg (Nat.lt_irrefl 0)] at h3
    simp only [lessN] at h3
    omega
  · obtain ⟨b, rfl⟩ : ∃ b, d = b + 1 := ⟨d - 1, by omega⟩
    refine .inr ⟨b, rfl, h2, ?_⟩
    have e2 : lessN ((⟨#[85]⟩ : ByteArray) ++ T) ((allF (v + (b + 1)) (v + 1) b).map (fun o => sD ++ o)) = mny (v + 1) b := by
      refine (lessN_all T _).trans ?_
      unfold mny; rw [show v + 1 + b = v + (b + 1) by omega]
    rw [if_pos (Nat.zero_lt_succ b), Nat.add_sub_cancel, e2] at h3
    omega
theorem LR.done {total acc u d : Nat} {T : ByteArray} (h : LR total acc u d T) (h0 : T.size = 0) : acc = total := by
  have h1 := h.1.size
  have h3 := h.2
  obtain rfl : u = 0 := by omega
  obtain rfl : d = 0 := by omega
  have e : T = ⟨#[]⟩ := by
    apply ByteArray.ext
    exact Array.eq_empty_of_size_eq_zero h0
  rw [e] at h3
  have : lessN ⟨#[]⟩ (allF (0 + 0) 0 0) = 0 := by
    show (if lsB ⟨#[]⟩ ⟨#[]⟩ then 1 else 0) + 0 = 0
    have e2 : lsB ⟨#[]⟩ ⟨#[]⟩ = false := by unfold lsB; rw [ByteArray.toList_eq]; rfl
    rw [e2]; rfl
  omega
/-- What is left of a text from a place on. -/
def tl (S : ByteArray) (i : Nat) : ByteArray := ⟨(S.data.toList.drop i).toArray⟩
theorem tl_zero (S : ByteArray) : tl S 0 = S := by unfold tl; apply ByteArray.ext; simp
theorem tl_step {S : ByteArray} {i : Nat} (h : i < S.size) : ∃ x : UInt8, bt S i = (x.toNat : Int) ∧ tl S i = (⟨#[x]⟩ : ByteArray) ++ tl S (i + 1) := by
  have hl : i < S.data.toList.length := by rw [Array.length_toList]; exact h
  refine ⟨S.data.toList[i], ?_, ?_⟩
  · have e : S = ⟨S.data.toList.toArray⟩ := by apply ByteArray.ext; simp
    conv => lhs; rw [e, bt_list]
    rw [List.getElem?_eq_getElem hl]; rfl
  · rw [put_list]
    unfold tl
    rw [List.drop_eq_getElem_cons hl]
theorem tl_end (S : ByteArray) : (tl S S.size).size = 0 := by
  unfold tl
  show ((S.data.toList.drop S.size).toArray).size = 0
  rw [List.drop_eq_nil_of_le (by rw [Array.length_toList]; exact Nat.le_refl _)]; rfl
theorem u8_is {x : UInt8} {k : Nat} (hk : k < 256) (h : (x.toNat : Int) = (k : Int)) : x = UInt8.ofNat k := by
  apply UInt8.toNat_inj.1
  rw [UInt8.toNat_ofNat']
  omega

/-! ### The program's -/
def RkInv (w : World) (bo bk : Nat) (S : ByteArray) (done : List ByteArray) (X : World) : Prop :=
  Uno X bo (.string S) 9 ∧ Uno X bk (.int .i64 (lessN S done : Nat)) 3 ∧ Below w.heap.size w X
theorem func_rank (args : Array Value) (X : World) : (callFunc 16 args).run Tryz.prog X = .ok (.enter 16 args) X := by kernel_rfl

set_option maxRecDepth 100000 in
set_option maxHeartbeats 1000000 in
theorem rankOne {w X : World} {bo bk : Nat} {S : ByteArray} {done : List ByteArray} {o : ByteArray} (hbk : w.heap.size ≤ bk) (h1 : bo ≠ bk) (hl : done.length < 4096) (h : RkInv w bo bk S done X) :
    Calls Tryz.prog 16 (#[.string o] ++ #[.pointer (some ⟨bo, 0, none⟩), .pointer (some ⟨bk, 0, none⟩)]) X fun e X' => e = .returned (.tuple #[]) ∧ RkInv w bo bk S (done ++ [o]) X' := by
  obtain ⟨uo, uk, hbel⟩ := h
  have hle := lessN_le S done
  have c0 := uo.cell
  have c1 := uk.cell
  have f1 := uk.frozen 0
  have E := lessN_add S done o
  obtain ⟨t, ht⟩ : ∃ t, t = lsB o S := ⟨_, rfl⟩
  have e1 : Op.bytesLess o.toList S.toList = t := ht.symm
  rw [← ht] at E
  obtain ⟨n, hn⟩ : ∃ n, n = lessN S done := ⟨_, rfl⟩
  rw [← hn] at E uk c1 hle
  have hn' : (n : Int) < 4096 := by omega
  show Calls Tryz.prog 16 #[.string o, .pointer (some ⟨bo, 0, none⟩), .pointer (some ⟨bk, 0, none⟩)] X _
  have IN := Lib.hid (show RkInv w bo bk S (done ++ [o]) X ∨ t = true from by
    cases t
    · left; refine ⟨uo, ?_, hbel⟩; rw [E]; exact uk
    · exact .inr rfl)
  have IY := Lib.hid (show t = true → RkInv w bo bk S (done ++ [o]) (X.setCell ⟨bk, 0, none⟩ (.int .i64 ((n : Int) + 1))) from fun q => by
    refine ⟨uo.other (a := ⟨bk, 0, none⟩) h1 _, ?_, hbel.setCell (p := ⟨bk, 0, none⟩) hbk _⟩
    rw [E, if_pos q]; exact uk.set _)
  clear ht hn E uo uk hbel hbk h1 hle hl
  cases t
  · have IN := Lib.hid (IN.out.resolve_right (by decide))
    clear IY
    go_enter Tryz.func16, Tryz.ntmps16
    go_wp2_with fail
    go_end0
    exact ⟨rfl, IN.out⟩
  · clear IN
    go_enter Tryz.func16, Tryz.ntmps16
    go_wp2_with fail
    go_end0
    exact ⟨rfl, IY.out trivial⟩

set_option maxRecDepth 100000 in
set_option maxHeartbeats 4000000 in
theorem implRank {w : World} {v : Value} {s : Sg} {S : ByteArray} (h : SgV w v s) (hS : S.size ≤ 1048576) :
    Calls Tryz.prog 5 #[v, .string S] w fun e w' => e = .returned (.int .i64 (rankV s S)) ∧ Below w.heap.size w w' := by
  have SV := Lib.hid (fun (X : World) (b : Below w.heap.size w X) => implSingle (h.below b))
  have SO := Lib.hid (fun (X : World) (b : Below w.heap.size w X) => implOrder (h.below b) hS)
  have HV := Lib.hid h
  obtain ⟨a, n, c, a', n', c', rfl, i1, i2⟩ := h.form
  obtain ⟨r, hr⟩ : ∃ r, r = s.run := ⟨_, rfl⟩
  obtain ⟨hd, hh⟩ : ∃ r, r = s.head := ⟨_, rfl⟩
  rw [← hr, ← hh] at SV SO HV ⊢
  have ea := below_alloc w (.cells #[.slice a n c, .slice a' n' c', .int .i64 r, .int .i64 hd] 25)
  have pa := Quad.new w (.slice a n c) (.slice a' n' c') (.int .i64 r) (.int .i64 hd) 25
  have sa : (w.alloc (.cells #[.slice a n c, .slice a' n' c', .int .i64 r, .int .i64 hd] 25)).heap.size = w.heap.size + 1 := Go.Deep.nblk_alloc _ _
  obtain ⟨Wa, hWa⟩ : ∃ W, W = w.alloc (.cells #[.slice a n c, .slice a' n' c', .int .i64 r, .int .i64 hd] 25) := ⟨_, rfl⟩
  rw [← hWa] at ea pa sa
  have ub := Uno.new Wa (.string S) 9
  have eb := below_alloc Wa (.cells #[.string S] 9)
  obtain ⟨W, hW⟩ : ∃ W, W = Wa.alloc (.cells #[.string S] 9) := ⟨_, rfl⟩
  rw [← hW] at ub eb
  rw [sa] at ub
  have p0 := (pa.below eb).cell0
  have p1 := (pa.below eb).cell1
  have p2 := (pa.below eb).cell2
  have p3 := (pa.below eb).cell3
  have p4 := ub.cell
  have HW := Lib.hid (show (w.alloc (.cells #[.slice a n c, .slice a' n' c', .int .i64 r, .int .i64 hd] 25)).alloc (.cells #[.string S] 9) = W by rw [hW, hWa])
  have EA := Lib.hid (ea.trans (eb.mono ea.size))
  have PA := Lib.hid (pa.below eb)
  have UB := Lib.hid ub
  clear hW hWa sa ea pa ub eb h i1 i2 hr hh hS
  obtain ⟨t1, ht1⟩ : ∃ t, t = sgB s := ⟨_, rfl⟩
  rw [← ht1] at SV
  cases t1
  · have E := Lib.hid (rankV_no (sgO_bad (S := S) ht1.symm))
    clear ht1
    go_enter Tryz.func5, Tryz.ntmps5
    go_upto_region 1 with fail
    rw [HW.out]
    go_wp2_with (go_at_call 13; refine (SV.out _ EA.out).mono ?_; rintro e w2 ⟨rfl, b2⟩)
    go_ret
    exact ⟨ret_int E.out.symm, EA.out.trans (b2.mono EA.out.size)⟩
  have HT1 := Lib.hid ht1.symm
  clear ht1
  obtain ⟨t2, ht2⟩ : ∃ t, t = ordB s.A.length s.B.length S := ⟨_, rfl⟩
  rw [← ht2] at SO
  cases t2
  · have E := Lib.hid (rankV_no (sgO_not (s := s) (S := S) ht2.symm))
    clear ht2
    go_enter Tryz.func5, Tryz.ntmps5
    go_upto_region 1 with fail
    rw [HW.out]
    go_wp2_with (first
      | (go_at_call 13; refine (SV.out _ EA.out).mono ?_; rintro e w2 ⟨rfl, b2⟩; have P2 := PA.out.below b2; have q0 := P2.cell0; have q1 := P2.cell1; have q2 := P2.cell2; have q3 := P2.cell3; have q4 := (UB.out.below b2).cell)
      | (go_at_call 14; refine (SO.out _ (EA.out.trans (b2.mono EA.out.size))).mono ?_; rintro e w3 ⟨rfl, b3⟩))
    go_ret
    exact ⟨ret_int E.out.symm, (EA.out.trans (b2.mono EA.out.size)).trans (b3.mono (Nat.le_trans EA.out.size b2.size))⟩
  have hok := sgO_yes (S := S) HT1.out ht2.symm
  have E := Lib.hid (rankV_yes hok)
  clear ht2 hok
  go_enter Tryz.func5, Tryz.ntmps5
  go_upto_region 1 with fail
  rw [HW.out]
  go_upto_region 3 with (first
    | (go_at_call 13; refine (SV.out _ EA.out).mono ?_; rintro e w2 ⟨rfl, b2⟩; have P2 := PA.out.below b2; have q0 := P2.cell0; have q1 := P2.cell1; have q2 := P2.cell2; have q3 := P2.cell3; have q4 := (UB.out.below b2).cell)
    | (go_at_call 14; refine (SO.out _ (EA.out.trans (b2.mono EA.out.size))).mono ?_; rintro e w3 ⟨rfl, b3⟩))
  have B3 := Lib.hid ((EA.out.trans (b2.mono EA.out.size)).trans (b3.mono (Nat.le_trans EA.out.size b2.size)))
  have P3 := Lib.hid (P2.below b3)
  have U3 := Lib.hid ((UB.out.below b2).below b3)
  have uk := Uno.new w3 (.int .i64 0) 3
  have b4 := below_alloc w3 (.cells #[.int .i64 0] 3)
  obtain ⟨w4, hw4⟩ : ∃ X, X = w3.alloc (.cells #[.int .i64 0] 3) := ⟨_, rfl⟩
  rw [← hw4] at uk b4
  have HW4 := Lib.hid hw4.symm
  have z0 := (P3.out.below b4).cell0
  have z1 := (P3.out.below b4).cell1
  have z2 := (P3.out.below b4).cell2
  have z3 := (P3.out.below b4).cell3
  have INV := Lib.hid (show ∀ ob, RkInv w3 (w.heap.size + 1) w3.heap.size S [] (w4.alloc ob) from fun ob =>
    ⟨(U3.out.below b4).alloc ob, uk.alloc ob, b4.alloc b4.size ob⟩)
  have hne : w.heap.size + 1 ≠ w3.heap.size := by have := U3.out.lt; omega
  have EO := Lib.hid (eachOrder func_rank (fun done X o _ hl hI => rankOne (w := w3) (o := o) (Nat.le_refl _) hne hl hI) (HV.out.below (B3.out.trans (b4.mono B3.out.size))) HT1.out INV.out)
  clear P2 q0 q1 q2 q3 q4 p0 p1 p2 p3 p4 b2 b3 uk b4 hw4 hne
  go_upto_region 4 with fail
  rw [HW4.out]
  go_upto_region 5 with (go_at_call 15; refine EO.out.mono ?_; rintro e w5 ⟨rfl, hI⟩)
  obtain ⟨-, uk, b5⟩ := hI
  have c5 := uk.cell
  have B5 := Lib.hid (B3.out.trans (b5.mono B3.out.size))
  clear uk b5
  go_wp2_with fail
  go_ret
  exact ⟨ret_int E.out.symm, B5.out⟩

set_option maxRecDepth 100000 in
set_option maxHeartbeats 4000000 in
theorem specRank {w : World} {v : Value} {s : Sg} {S : ByteArray} (h : SgV w v s) (hS : S.size ≤ 1048576) :
    Calls Tryz.prog 6 #[v, .string S] w fun e w' => e = .returned (.int .i64 (rankV s S)) ∧ Below w.heap.size w w' := by
  have SV := Lib.hid (fun (X : World) (b : Below w.heap.size w X) => specSingle (h.below b))
  have SO := Lib.hid (fun (q : SgOk s) (X : World) (b : Below w.heap.size w X) => specOrder (h.below b) q.lenA q.lenB hS)
  obtain ⟨a, n, c, a', n', c', rfl, i1, i2⟩ := h.form
  have hn := slice_len i1
  have hn' := slice_len i2
  obtain ⟨r, hr⟩ : ∃ r, r = s.run := ⟨_, rfl⟩
  obtain ⟨hd, hh⟩ : ∃ r, r = s.head := ⟨_, rfl⟩
  rw [← hr, ← hh] at SV SO ⊢
  have ea := below_alloc w (.cells #[.slice a n c, .slice a' n' c', .int .i64 r, .int .i64 hd] 25)
  have pa := Quad.new w (.slice a n c) (.slice a' n' c') (.int .i64 r) (.int .i64 hd) 25
  obtain ⟨W, hW⟩ : ∃ W, W = w.alloc (.cells #[.slice a n c, .slice a' n' c', .int .i64 r, .int .i64 hd] 25) := ⟨_, rfl⟩
  rw [← hW] at ea pa
  have p0 := pa.cell0
  have p1 := pa.cell1
  have p2 := pa.cell2
  have p3 := pa.cell3
  have HW := Lib.hid hW.symm
  have EA := Lib.hid ea
  have PA := Lib.hid pa
  obtain ⟨t1, ht1⟩ : ∃ t, t = sgB s := ⟨_, rfl⟩
  rw [← ht1] at SV
  cases t1
  · have E := Lib.hid (rankV_no (sgO_bad (S := S) ht1.symm))
    clear ht1 h i1 i2 ea pa hW hr hh hn hn' hS
    go_enter Tryz.func6, Tryz.ntmps6
    go_upto_region 1 with fail
    rw [HW.out]
    go_wp2_with (go_at_call 17; refine (SV.out _ EA.out).mono ?_; rintro e w2 ⟨rfl, b2⟩)
    go_ret
    exact ⟨ret_int E.out.symm, EA.out.trans (b2.mono EA.out.size)⟩
  have SO := Lib.hid (SO.out (sgB_of ht1.symm))
  obtain ⟨t2, ht2⟩ : ∃ t, t = ordB s.A.length s.B.length S := ⟨_, rfl⟩
  rw [← ht2] at SO
  cases t2
  · have E := Lib.hid (rankV_no (sgO_not (s := s) (S := S) ht2.symm))
    clear ht1 ht2 h i1 i2 ea pa hW hr hh hn hn' hS
    go_enter Tryz.func6, Tryz.ntmps6
    go_upto_region 1 with fail
    rw [HW.out]
    go_wp2_with (first
      | (go_at_call 17; refine (SV.out _ EA.out).mono ?_; rintro e w2 ⟨rfl, b2⟩; have P2 := PA.out.below b2; have q0 := P2.cell0; have q1 := P2.cell1; have q2 := P2.cell2; have q3 := P2.cell3)
      | (go_at_call 18; refine (SO.out _ (EA.out.trans (b2.mono EA.out.size))).mono ?_; rintro e w3 ⟨rfl, b3⟩))
    go_ret
    exact ⟨ret_int E.out.symm, (EA.out.trans (b2.mono EA.out.size)).trans (b3.mono (Nat.le_trans EA.out.size b2.size))⟩
  have hok := sgO_yes (S := S) ht1.symm ht2.symm
  have E := rankV_yes hok
  have OK := ordB_of ht2.symm
  have h12 := sgO_size hok
  have LA := (sgB_of ht1.symm).lenA
  have LB := (sgB_of ht1.symm).lenB
  obtain ⟨tot, htot⟩ : ∃ x, x = lessN S (ords s) := ⟨_, rfl⟩
  have hle : tot ≤ 4096 := by
    rw [htot]
    exact Nat.le_trans (lessN_le _ _) (allF_many (by omega))
  have L0 : LR tot 0 n n' (tl S 0) := by
    rw [tl_zero, hn, hn']
    exact ⟨OK, by rw [Nat.zero_add, htot]; rfl⟩
  rw [← htot] at E
  have L0 := Lib.hid L0
  have LN := Lib.hid (show n ≤ 6 ∧ n' ≤ 6 by omega)
  have E := Lib.hid E
  have HLE := Lib.hid hle
  have H12 := Lib.hid h12
  clear ht1 ht2 h i1 i2 ea pa hW hr hh hn hn' hS hok OK h12 LA LB htot hle
  go_enter Tryz.func6, Tryz.ntmps6
  go_upto_region 1 with fail
  rw [HW.out]
  go_wp2_with (first
    | (go_at_call 17; refine (SV.out _ EA.out).mono ?_; rintro e w2 ⟨rfl, b2⟩; have P2 := PA.out.below b2; have q0 := P2.cell0; have q1 := P2.cell1; have q2 := P2.cell2; have q3 := P2.cell3)
    | (go_at_call 18; refine (SO.out _ (EA.out.trans (b2.mono EA.out.size))).mono ?_; rintro e w3 ⟨rfl, b3⟩; have B3 := Lib.hid ((EA.out.trans (b2.mono EA.out.size)).trans (b3.mono (Nat.le_trans EA.out.size b2.size))); have z0 := (P2.below b3).cell0; have z1 := (P2.below b3).cell1; clear P2 q0 q1 q2 q3 p0 p1 p2 p3 b2 b3))
  clear z0 z1
  have hS12 := H12.out
  go_loop [5, 6, 7, 8] (fun x y z o => ∃ (k u d acc : Nat), k ≤ S.size ∧ u ≤ 6 ∧ d ≤ 6 ∧ acc ≤ 4096 ∧ o = .int .i64 k ∧ x = .int .i64 u ∧ y = .int .i64 d ∧ z = .int .i64 acc ∧ Hid (LR tot acc u d (tl S k))) (fun _ _ _ o => S.size - (intOf o).toNat)
  case atStart => exact ⟨0, n, n', 0, Nat.zero_le _, LN.out.1, LN.out.2, by omega, rfl, rfl, rfl, rfl, L0⟩
  case round =>
    clear L0
    obtain ⟨k, u, d, acc, hk, hu, hd6, hacc, rfl, rfl, rfl, rfl, HL⟩ := hrel
    rcases Nat.lt_or_ge k S.size with hlt | hge
    · obtain ⟨xb, hxb, htl⟩ := tl_step hlt
      have hki : (k : Int) < (S.size : Int) := by omega
      have hks : (k : Int) ≤ 12 := by omega
      have hix := index_at hlt
      have HL1 := HL.out
      rw [htl] at HL1
      have HO := HL1.1.only 0 (by rw [pre_size]; omega)
      rw [bt_put0] at HO
      rw [hxb] at hix
      obtain ⟨m, hm⟩ : ∃ m, m = S.size := ⟨_, rfl⟩
      rw [← hm] at hki
      have HM := Lib.hid hm
      have HK := Lib.hid hlt
      rcases HO with h85 | h68
      · obtain rfl : xb = 85 := u8_is (k := 85) (by omega) h85
        obtain ⟨v, rfl, hc⟩ := HL1.up
        have hix' : ∀ (w : World), (Instr.index 9 (.string S) (.int .i64 k)).run Tryz.prog w = .ok (.int .u8 85) w := hix
        obtain ⟨kv, hkv⟩ : ∃ x, x = v + 1 := ⟨_, rfl⟩
        have hw : IntKind.i64.wrap ((kv : Int) - 1) = (v : Int) := by rw [hkv, show (((v + 1 : Nat) : Int)) - 1 = (v : Int) by omega]; exact IntWalk.i64_in _ (by omega)
        have hw2 : wrap64 ((kv : Int) - 1) = (v : Int) := by rw [← IntWalk.i64_left]; exact hw
        have huI : (kv : Int) ≤ 6 := by omega
        have HV6 := Lib.hid (show v ≤ 6 by omega)
        rcases hc with ⟨rfl, hL⟩ | ⟨b, rfl, hL⟩
        · have HL2 := Lib.hid hL
          rw [← hkv]
          clear hix hxb htl HL1 HL hL hm hkv hu h85 hlt hd6
          rw [← HM.out]
          go_wp2_with fail
          clear hw hw2
          go_round
          case rel => exact ⟨k + 1, v, 0, acc, by have := HK.out; omega, HV6.out, by omega, hacc, by go_num, rfl, rfl, rfl, HL2⟩
          case measure => have := HK.out; simp [intOf]; omega
        · have hle := hL.2
          have hle2 := HLE.out
          have CM := specManyN (v + 1 + b) (v + 1) b
          have hf4 : mny (v + 1) b ≤ 4096 := by omega
          obtain ⟨f, hf⟩ : ∃ f, f = mny (v + 1) b := ⟨_, rfl⟩
          rw [← hf] at CM hL hf4 hle
          have HL2 := Lib.hid hL
          have CM := Lib.hid (fun X => CM X rfl (by omega))
          have hfI : (f : Int) ≤ 4096 := by omega
          have haI : (acc : Int) ≤ 4096 := by omega
          have HA := Lib.hid (show acc + f ≤ 4096 by omega)
          have E3 := Lib.hid (show (acc : Int) + (f : Int) = ((acc + f : Nat) : Int) by omega)
          obtain ⟨kd, hkd⟩ : ∃ x, x = b + 1 := ⟨_, rfl⟩
          have hwd : IntKind.i64.wrap ((kd : Int) - 1) = (b : Int) := by rw [hkd, show (((b + 1 : Nat) : Int)) - 1 = (b : Int) by omega]; exact IntWalk.i64_in _ (by omega)
          have hwd2 : wrap64 ((kd : Int) - 1) = (b : Int) := by rw [← IntWalk.i64_left]; exact hwd
          have hw3 : wrap64 ((acc : Int) + (f : Int)) = (acc : Int) + (f : Int) := IntWalk.wrap64_in _ (by omega)
          have HW3 := Lib.hid hw3
          have e1 : (0 : Int) < (kd : Int) := by omega
          have hdI : (kd : Int) ≤ 6 := by omega
          rw [← hkd] at HL2 hd6 ⊢
          rw [← hkv] at CM ⊢
          clear hix hxb htl HL1 HL hL hm hkv hkd hu h85 hlt hf hf4 hle hle2
          rw [← HM.out]
          go_wp2_with (go_at_call 19; refine (CM.out _).mono ?_; rintro e w4 ⟨rfl, rfl⟩)
          clear hw hw2 hwd hwd2 hw3
          go_round
          case rel => exact ⟨k + 1, v, kd, acc + f, by have := HK.out; omega, HV6.out, hd6, HA.out, by go_num, rfl, rfl, by first | rw [HW3.out, E3.out] | rw [E3.out], HL2⟩
          case measure => have := HK.out; simp [intOf]; omega
      · obtain rfl : xb = 68 := u8_is (k := 68) (by omega) h68
        obtain ⟨b, rfl, hL⟩ := HL1.down
        have hix' : ∀ (w : World), (Instr.index 9 (.string S) (.int .i64 k)).run Tryz.prog w = .ok (.int .u8 68) w := hix
        obtain ⟨kd, hkd⟩ : ∃ x, x = b + 1 := ⟨_, rfl⟩
        have hwd : IntKind.i64.wrap ((kd : Int) - 1) = (b : Int) := by rw [hkd, show (((b + 1 : Nat) : Int)) - 1 = (b : Int) by omega]; exact IntWalk.i64_in _ (by omega)
        have hwd2 : wrap64 ((kd : Int) - 1) = (b : Int) := by rw [← IntWalk.i64_left]; exact hwd
        have hdI : (kd : Int) ≤ 6 := by omega
        have HB6 := Lib.hid (show b ≤ 6 by omega)
        have HL2 := Lib.hid hL
        rw [← hkd]
        clear hix hxb htl HL1 HL hL hm hkd h68 hlt hd6
        rw [← HM.out]
        go_wp2_with fail
        clear hwd hwd2
        go_round
        case rel => exact ⟨k + 1, u, b, acc, by have := HK.out; omega, hu, HB6.out, hacc, by go_num, rfl, rfl, rfl, HL2⟩
        case measure => have := HK.out; simp [intOf]; omega
    · obtain rfl : k = S.size := by omega
      have HD := Lib.hid (HL.out.done (tl_end S))
      have hff : decide ((S.size : Int) < (S.size : Int)) = false := decide_eq_false (by omega)
      clear HL hge hk
      go_wp2_with fail
      go_ret
      exact ⟨ret_int (by first | rw [HD.out] | rw [E.out, HD.out]), B3.out⟩

end Go.Proofs.YtlcmkocbpnekhaaGreatDoor
