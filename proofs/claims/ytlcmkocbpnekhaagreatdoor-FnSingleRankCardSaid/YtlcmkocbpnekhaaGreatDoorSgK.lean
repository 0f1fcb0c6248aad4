/-
  The order with a rank: the model's and the program's SingleNth.
-/
import Derived.Test.YtlcmkocbpnekhaaGreatDoorSgI
namespace Go.Proofs.YtlcmkocbpnekhaaGreatDoor
open Go.RowKit Go.Sort

theorem bounds_i64 {n : Int} (h : (Lit.int .i64 n).wf = true) : -9223372036854775808 ≤ n ∧ n ≤ 9223372036854775807 := by
  have hmin : IntKind.i64.min = -9223372036854775808 := rfl
  have hmax : IntKind.i64.max = 9223372036854775807 := rfl
  simp only [Lit.wf, Bool.and_eq_true, decide_eq_true_eq, hmin, hmax] at h
  exact h
/-! ### Plainly -/
def noS : ByteArray := ⟨#[]⟩
theorem getD_map_put (a : ByteArray) (l : List ByteArray) (k : Nat) (h : k < l.length) : (l.map (fun o => a ++ o)).getD k noS = a ++ l.getD k noS := by
  simp [h]
theorem get_D {n u d k : Nat} (h : k < (allF n u d).length) : (allF (n + 1) u (d + 1)).getD k noS = sD ++ (allF n u d).getD k noS := by
  rw [allF, if_pos (Nat.zero_lt_succ d), Nat.add_sub_cancel]
  rw [List.getD_eq_getElem?_getD, List.getElem?_append_left (by rw [List.length_map]; exact h), ← List.getD_eq_getElem?_getD]
  exact getD_map_put _ _ _ h
theorem get_U {n u d k : Nat} (h : k < (allF n u (d + 1)).length) : (allF (n + 1) (u + 1) (d + 1)).getD ((allF n (u + 1) d).length + k) noS = sU ++ (allF n u (d + 1)).getD k noS := by
  rw [allF_two, List.getD_eq_getElem?_getD, List.getElem?_append_right (by rw [List.length_map]; omega), ← List.getD_eq_getElem?_getD, List.length_map, Nat.add_sub_cancel_left]
  exact getD_map_put _ _ _ h
theorem get_U0 {n u k : Nat} (h : k < (allF n u 0).length) : (allF (n + 1) (u + 1) 0).getD k noS = sU ++ (allF n u 0).getD k noS := by
  rw [allF, if_neg (Nat.lt_irrefl 0), List.nil_append, if_pos (Nat.zero_lt_succ u), Nat.add_sub_cancel]
  exact getD_map_put _ _ _ h
/-- What is left to be found: behind T the order number k of u and d trains. -/
def Left (T goal : ByteArray) (u d k : Nat) : Prop := k < mny u d ∧ T ++ (allF (u + d) u d).getD k noS = goal
theorem Left.down {T goal : ByteArray} {u d k : Nat} (h : Left T goal u (d + 1) k) (hk : k < mny u d) : Left (T ++ sD) goal u d k := by
  refine ⟨hk, ?_⟩
  have h2 := h.2
  rw [show u + (d + 1) = (u + d) + 1 by omega, get_D hk, ← ba_assoc] at h2
  exact h2
theorem Left.up {T goal : ByteArray} {u d k : Nat} (h : Left T goal (u + 1) (d + 1) k) (hk : mny (u + 1) d ≤ k) : Left (T ++ sU) goal u (d + 1) (k - mny (u + 1) d) := by
  have h1 := h.1
  rw [mny_succ] at h1
  have h2 := h.2
  have e : mny (u + 1) d = (allF (u + d + 1) (u + 1) d).length := by unfold mny; rw [show u + 1 + d = u + d + 1 by omega]
  have e2 : mny u (d + 1) = (allF (u + d + 1) u (d + 1)).length := by unfold mny; rw [show u + (d + 1) = u + d + 1 by omega]
  refine ⟨by omega, ?_⟩
  obtain ⟨j, hj⟩ : ∃ j, k = mny (u + 1) d + j := ⟨k - mny (u + 1) d, by omega⟩
  have hjl : j < (allF (u + d + 1) u (d + 1)).length := by omega
  rw [show u + 1 + (d + 1) = (u + d + 1) + 1 by omega, hj, e, get_U hjl, ← ba_assoc] at h2
  rw [hj, Nat.add_sub_cancel_left, show u + (d + 1) = u + d + 1 by omega]
  exact h2
theorem Left.up0 {T goal : ByteArray} {u k : Nat} (h : Left T goal (u + 1) 0 k) : Left (T ++ sU) goal u 0 k := by
  have h1 := h.1
  rw [mny_u0] at h1
  have h2 := h.2
  have hk : k < (allF (u + 0) u 0).length := by have := mny_u0 u; unfold mny at this; omega
  refine ⟨hk, ?_⟩
  rw [show u + 1 + 0 = (u + 0) + 1 by omega, get_U0 hk, ← ba_assoc] at h2
  exact h2
theorem Left.done {T goal : ByteArray} {k : Nat} (h : Left T goal 0 0 k) : T = goal := by
  have h1 := h.1
  have h2 := h.2
  rw [mny_u0] at h1
  obtain rfl : k = 0 := by omega
  have e : (allF (0 + 0) 0 0).getD 0 noS = ⟨#[]⟩ := rfl
  rw [e, ba_nil] at h2
  exact h2
def nthB (s : Sg) (r : Int) : Bool := decide (0 ≤ r ∧ r ≤ manyV s - 1)
def nthS (s : Sg) (r : Int) : ByteArray := if nthB s r then (ords s).getD r.toNat noS else noS
theorem nthS_no {s : Sg} {r : Int} (h : nthB s r = false) : nthS s r = ⟨#[]⟩ := by simp [nthS, h, noS]
theorem nthS_yes {s : Sg} {r : Int} (h : nthB s r = true) : nthS s r = (ords s).getD r.toNat noS := by simp [nthS, h]
theorem nthB_sg {s : Sg} {r : Int} (h : nthB s r = true) : sgB s = true ∧ 0 ≤ r ∧ r.toNat < mny s.A.length s.B.length := by
  have q := of_decide_eq_true h
  cases hs : sgB s
  · rw [manyV_no hs] at q; omega
  · rw [manyV_yes hs] at q
    exact ⟨rfl, by omega, by omega⟩
theorem nthB_bad {s : Sg} {r : Int} (h : sgB s = false) : nthB s r = false := decide_eq_false (fun q => by rw [manyV_no h] at q; omega)
theorem nth_start {s : Sg} {r : Int} (h : nthB s r = true) : Left ⟨#[]⟩ (nthS s r) s.A.length s.B.length r.toNat := by
  obtain ⟨h1, h2, h3⟩ := nthB_sg h
  refine ⟨h3, ?_⟩
  rw [nthS_yes h]
  have : ∀ x : ByteArray, (⟨#[]⟩ : ByteArray) ++ x = x := fun x => by apply ByteArray.ext; simp
  rw [this]; rfl

set_option maxRecDepth 100000 in
set_option maxHeartbeats 4000000 in
theorem specNth {w : World} {v : Value} {s : Sg} {rk : Int} (h : SgV w v s) (hrk : -9223372036854775808 ≤ rk ∧ rk ≤ 9223372036854775807) :
    Calls Tryz.prog 30 #[v, .int .i64 rk] w fun e w' => e = .returned (.tuple #[.string (nthS s rk), .bool (nthB s rk)]) ∧ Below w.heap.size w w' := by
  have SM := Lib.hid (fun (X : World) (b : Below w.heap.size w X) => specMany (h.below b))
  obtain ⟨a, n, c, a', n', c', rfl, i1, i2⟩ := h.form
  have hn := slice_len i1
  have hn' := slice_len i2
  obtain ⟨r, hr⟩ : ∃ r, r = s.run := ⟨_, rfl⟩
  obtain ⟨hd, hh⟩ : ∃ r, r = s.head := ⟨_, rfl⟩
  rw [← hr, ← hh] at SM ⊢
  have ea := below_alloc w (.cells #[.slice a n c, .slice a' n' c', .int .i64 r, .int .i64 hd] 25)
  have pa := Quad.new w (.slice a n c) (.slice a' n' c') (.int .i64 r) (.int .i64 hd) 25
  obtain ⟨W, hW⟩ : ∃ W, W = w.alloc (.cells #[.slice a n c, .slice a' n' c', .int .i64 r, .int .i64 hd] 25) := ⟨_, rfl⟩
  rw [← hW] at ea pa
  have p0 := pa.cell0
  have p1 := pa.cell1
  have p2 := pa.cell2
  have p3 := pa.cell3
  have HW := Lib.hid hW.symm
  have EA := Lib.hid ea
  have PA := Lib.hid pa
  have mr : -1 ≤ manyV s ∧ manyV s ≤ 4096 := by
    cases hs : sgB s
    · rw [manyV_no hs]; omega
    · rw [manyV_yes hs]
      have := mny_le (u := s.A.length) (d := s.B.length) (by have := (sgB_of hs).lenA; have := (sgB_of hs).lenB; omega)
      omega
  have IN := in_is rk 0 (manyV s - 1)
  obtain ⟨t, ht⟩ : ∃ t, t = nthB s rk := ⟨_, rfl⟩
  have hdec : decide (0 ≤ rk ∧ rk ≤ manyV s - 1) = t := ht.symm
  rw [hdec] at IN
  have IN := Lib.hid IN
  obtain ⟨m, hm⟩ : ∃ m, m = manyV s := ⟨_, rfl⟩
  rw [← hm] at SM IN mr
  have hw0 : wrap64 (m - 1) = m - 1 := IntWalk.wrap64_in _ (by omega)
  cases t
  · have E := Lib.hid (nthS_no ht.symm)
    have HT := Lib.hid ht.symm
    clear ht hdec hm mr hn hn' h i1 i2 ea pa hW hr hh hrk
    go_enter Tryz.func30, Tryz.ntmps30
    go_upto_region 1 with fail
    rw [HW.out]
    go_wp2_with (first
      | (go_at_call 27; refine (SM.out _ EA.out).mono ?_; rintro e w2 ⟨rfl, b2⟩)
      | (go_at_call 36; refine (IN.out _).mono ?_; rintro e w3 ⟨rfl, rfl⟩))
    go_ret2
    exact ⟨by rw [E.out, HT.out]; rfl, EA.out.trans (b2.mono EA.out.size)⟩
  have HT := Lib.hid ht.symm
  have ST := nth_start ht.symm
  obtain ⟨hsg, hr0, hrm⟩ := nthB_sg ht.symm
  have LA := (sgB_of hsg).lenA
  have LB := (sgB_of hsg).lenB
  rw [← hn, ← hn'] at ST
  rw [← hn] at LA
  rw [← hn'] at LB
  have ST := Lib.hid ST
  obtain ⟨k0, rfl⟩ : ∃ k : Nat, rk = (k : Int) := ⟨rk.toNat, by omega⟩
  obtain ⟨goal, hgoal⟩ : ∃ g, g = nthS s (k0 : Int) := ⟨_, rfl⟩
  rw [Int.toNat_natCast, ← hgoal] at ST
  rw [← hgoal]
  have LL := Lib.hid (And.intro LA LB)
  clear ht hdec hm mr hn hn' h i1 i2 ea pa hW hr hh hsg hr0 hrm LA LB hgoal hrk
  go_enter Tryz.func30, Tryz.ntmps30
  go_upto_region 1 with fail
  rw [HW.out]
  go_upto_region 3 with (first
    | (go_at_call 27; refine (SM.out _ EA.out).mono ?_; rintro e w2 ⟨rfl, b2⟩)
    | (go_at_call 36; refine (IN.out _).mono ?_; rintro e w3 ⟨rfl, rfl⟩))
  have z0 := (PA.out.below b2).cell0
  have z1 := (PA.out.below b2).cell1
  have B2 := Lib.hid (EA.out.trans (b2.mono EA.out.size))
  clear b2 p0 p1 p2 p3 hw0
  go_wp2_with fail
  clear z0 z1
  go_loop [1, 6, 7, 8] (fun rr x y o => ∃ (k u d : Nat) (T : ByteArray), u ≤ 6 ∧ d ≤ 6 ∧ k ≤ 4096 ∧ T.size + (u + d) ≤ 12 ∧ rr = .int .i64 k ∧ x = .int .i64 u ∧ y = .int .i64 d ∧ o = .string T ∧ Hid (Left T goal u d k)) (fun _ x y _ => (intOf x).toNat + (intOf y).toNat)
  case atStart => exact ⟨k0, n, n', ⟨#[]⟩, LL.out.1, LL.out.2, by have := ST.out.1; have := mny_le (u := n) (d := n') (by have := LL.out; omega); omega, by rw [show (⟨#[]⟩ : ByteArray).size = 0 from rfl]; have := LL.out; omega, rfl, rfl, rfl, rfl, ST⟩
  case round =>
    obtain ⟨k, u, d, T, hu, hd6, hk, hT, rfl, rfl, rfl, rfl, HL⟩ := hrel
    have pu := add_text T ⟨#[85]⟩ (by rw [show (⟨#[85]⟩ : ByteArray).size = 1 from rfl]; omega)
    have pd := add_text T ⟨#[68]⟩ (by rw [show (⟨#[68]⟩ : ByteArray).size = 1 from rfl]; omega)
    have su : (T ++ (⟨#[85]⟩ : ByteArray)).size = T.size + 1 := by rw [ByteArray.size_append]; rfl
    have sd : (T ++ (⟨#[68]⟩ : ByteArray)).size = T.size + 1 := by rw [ByteArray.size_append]; rfl
    obtain ⟨TU, hTU⟩ : ∃ x, x = T ++ (⟨#[85]⟩ : ByteArray) := ⟨_, rfl⟩
    obtain ⟨TD, hTD⟩ : ∃ x, x = T ++ (⟨#[68]⟩ : ByteArray) := ⟨_, rfl⟩
    rw [← hTU] at pu su
    rw [← hTD] at pd sd
    have huI : (u : Int) ≤ 6 := by omega
    have hdI : (d : Int) ≤ 6 := by omega
    have hkI : (k : Int) ≤ 4096 := by omega
    rcases Nat.eq_zero_or_pos (u + d) with h0 | h0
    · obtain rfl : u = 0 := by omega
      obtain rfl : d = 0 := by omega
      have E := Lib.hid HL.out.done
      clear pu pd su sd hTU hTD
      go_wp2_with fail
      go_ret2
      exact ⟨by rw [E.out, HT.out]; rfl, B2.out⟩
    have e0 : (0 : Int) < (u : Int) + (d : Int) := by omega
    rcases Nat.eq_zero_or_pos d with hd0 | hd0
    · subst hd0
      obtain ⟨v, rfl⟩ : ∃ v, u = v + 1 := ⟨u - 1, by omega⟩
      have HL2 := Lib.hid (show Left TU goal v 0 k by rw [hTU]; exact HL.out.up0)
      obtain ⟨kv, hkv⟩ : ∃ x, x = v + 1 := ⟨_, rfl⟩
      have hw : IntKind.i64.wrap ((kv : Int) - 1) = (v : Int) := by rw [hkv, show (((v + 1 : Nat) : Int)) - 1 = (v : Int) by omega]; exact IntWalk.i64_in _ (by omega)
      have hw2 : wrap64 ((kv : Int) - 1) = (v : Int) := by rw [← IntWalk.i64_left]; exact hw
      rw [← hkv] at e0 huI ⊢
      have HK := Lib.hid hkv
      have HB := Lib.hid (show TU.size + (v + 0) ≤ 12 by omega)
      have hv6 := Lib.hid (show v ≤ 6 by omega)
      have e5 : decide ((k : Int) < 0) = false := decide_eq_false (by omega)
      clear pd sd su hTU hTD HL hkv hu h0 hT
      go_wp2_with fail
      go_round
      case rel => exact ⟨k, v, 0, TU, hv6.out, by omega, hk, HB.out, by go_num, rfl, rfl, rfl, HL2⟩
      case measure => have := HK.out; simp [intOf]; omega
    · obtain ⟨b, rfl⟩ : ∃ v, d = v + 1 := ⟨d - 1, by omega⟩
      have CM := specManyN (u + b) u b
      have mb := mny_le (u := u) (d := b) (by omega)
      have hdn := fun q => Left.down HL.out (k := k) q
      have hup : mny u b ≤ k → ∃ v, u = v + 1 ∧ Left (T ++ sU) goal v (b + 1) (k - mny u b) := by
        intro q
        rcases Nat.eq_zero_or_pos u with hz | hz
        · subst hz
          have := HL.out.1
          rw [mny_0d] at this
          rw [mny_0d] at q
          omega
        · obtain ⟨v, rfl⟩ : ∃ v, u = v + 1 := ⟨u - 1, by omega⟩
          exact ⟨v, rfl, HL.out.up q⟩
      obtain ⟨f, hf⟩ : ∃ f, f = mny u b := ⟨_, rfl⟩
      rw [← hf] at CM mb hdn hup
      have CM := Lib.hid (fun X => CM X rfl (by omega))
      have hfI : (f : Int) ≤ 4096 := by omega
      obtain ⟨kd, hkd⟩ : ∃ x, x = b + 1 := ⟨_, rfl⟩
      have hwd : IntKind.i64.wrap ((kd : Int) - 1) = (b : Int) := by rw [hkd, show (((b + 1 : Nat) : Int)) - 1 = (b : Int) by omega]; exact IntWalk.i64_in _ (by omega)
      have hwd2 : wrap64 ((kd : Int) - 1) = (b : Int) := by rw [← IntWalk.i64_left]; exact hwd
      have e1 : (0 : Int) < (kd : Int) := by omega
      have HK := Lib.hid hkd
      rcases Nat.lt_or_ge k f with hkf | hkf
      · have HL2 := Lib.hid (show Left TD goal u b k by rw [hTD]; exact hdn hkf)
        have e5 : (k : Int) < (f : Int) := by omega
        have HB := Lib.hid (show TD.size + (u + b) ≤ 12 by omega)
        have hb6 := Lib.hid (show b ≤ 6 by omega)
        rw [← hkd] at e0 hdI ⊢
        clear pu sd su hTU hTD HL hkd hd6 h0 hT hkf hdn hup hf mb hd0
        go_wp2_with (go_at_call 19; refine (CM.out _).mono ?_; rintro e w4 ⟨rfl, rfl⟩)
        go_round
        case rel => exact ⟨k, u, b, TD, hu, hb6.out, hk, HB.out, rfl, rfl, by go_num, rfl, HL2⟩
        case measure => have := HK.out; simp [intOf]; omega
      · obtain ⟨v, rfl, hL⟩ := hup hkf
        have HL2 := Lib.hid (show Left TU goal v (b + 1) (k - f) by rw [hTU]; exact hL)
        have e5 : decide ((k : Int) < (f : Int)) = false := decide_eq_false (by omega)
        have e5n : decide (k < f) = false := decide_eq_false (by omega)
        have HB := Lib.hid (show TU.size + (v + (b + 1)) ≤ 12 by omega)
        have hv6 := Lib.hid (show v ≤ 6 by omega)
        obtain ⟨kv, hkv⟩ : ∃ x, x = v + 1 := ⟨_, rfl⟩
        obtain ⟨k2, hk2⟩ : ∃ x, x = k - f := ⟨_, rfl⟩
        have hk2' := Lib.hid (show k2 ≤ 4096 by omega)
        have E3 := Lib.hid (show (k : Int) - (f : Int) = (k2 : Int) by omega)
        have hw : IntKind.i64.wrap ((kv : Int) - 1) = (v : Int) := by rw [hkv, show (((v + 1 : Nat) : Int)) - 1 = (v : Int) by omega]; exact IntWalk.i64_in _ (by omega)
        have hw2 : wrap64 ((kv : Int) - 1) = (v : Int) := by rw [← IntWalk.i64_left]; exact hw
        have hw3 : wrap64 ((k : Int) - (f : Int)) = (k2 : Int) := by rw [show (k : Int) - (f : Int) = (k2 : Int) by omega]; exact IntWalk.wrap64_in _ (by omega)
        rw [← hk2] at HL2
        rw [← hkd] at e0 hdI HL2 HB hd6 ⊢
        rw [← hkv] at e0 huI CM ⊢
        have HV := Lib.hid hkv
        clear pd sd su hTU hTD HL hkd hu h0 hT hkf hdn hup hf mb hd0 hL hkv hk2
        go_wp2_with (go_at_call 19; refine (CM.out _).mono ?_; rintro e w4 ⟨rfl, rfl⟩)
        go_round
        case rel => exact ⟨k2, v, kd, TU, hv6.out, hd6, hk2'.out, HB.out, by first | rfl | rw [E3.out], by go_num, rfl, rfl, HL2⟩
        case measure => have := HV.out; simp [intOf]; omega

/-! ### The program's -/
def NthInv (w : World) (ba br bf : Nat) (rk : Int) (done : List ByteArray) (X : World) : Prop :=
  Uno X ba (.int .i64 (done.length : Nat)) 3 ∧ Uno X br (.int .i64 rk) 3 ∧ Uno X bf (.string (if 0 ≤ rk ∧ rk < (done.length : Int) then done.getD rk.toNat noS else noS)) 9 ∧ Below w.heap.size w X
theorem func_nth (args : Array Value) (X : World) : (callFunc 20 args).run Tryz.prog X = .ok (.enter 20 args) X := by kernel_rfl

set_option maxRecDepth 100000 in
set_option maxHeartbeats 1000000 in
theorem nthOne {w X : World} {ba br bf : Nat} {rk : Int} {done : List ByteArray} {o : ByteArray} (hba : w.heap.size ≤ ba) (hbf : w.heap.size ≤ bf) (h1 : ba ≠ br) (h2 : ba ≠ bf) (h3 : br ≠ bf) (hl : done.length < 4096) (h : NthInv w ba br bf rk done X) :
    Calls Tryz.prog 20 (#[.string o] ++ #[.pointer (some ⟨ba, 0, none⟩), .pointer (some ⟨br, 0, none⟩), .pointer (some ⟨bf, 0, none⟩)]) X fun e X' => e = .returned (.tuple #[]) ∧ NthInv w ba br bf rk (done ++ [o]) X' := by
  obtain ⟨ua, ur, uf, hbel⟩ := h
  have E := Lib.hid (show ((done ++ [o]).length : Int) = (done.length : Int) + 1 by rw [List.length_append]; simp)
  have c0 := ua.cell
  have c1 := ur.cell
  have f0 := ua.frozen 0
  have f1 := uf.frozen 0
  have c3 := uf.cell
  show Calls Tryz.prog 20 #[.string o, .pointer (some ⟨ba, 0, none⟩), .pointer (some ⟨br, 0, none⟩), .pointer (some ⟨bf, 0, none⟩)] X _
  by_cases hr : (done.length : Int) = rk
  · have V := Lib.hid (show (if 0 ≤ rk ∧ rk < ((done ++ [o]).length : Int) then (done ++ [o]).getD rk.toNat noS else noS) = o by
      rw [if_pos (by rw [E.out]; omega), ← hr, Int.toNat_natCast]
      simp)
    have t1 : ((done.length : Int) == rk) = true := by simp [hr]
    have uf2 := uf.set (.string o)
    have ua2 := ua.other (a := ⟨bf, 0, none⟩) h2 (.string o)
    have ur2 := ur.other (a := ⟨bf, 0, none⟩) h3 (.string o)
    have b2 := hbel.setCell (p := ⟨bf, 0, none⟩) hbf (.string o)
    have c2 := ua2.cell
    have f2 := ua2.frozen 0
    have UA := Lib.hid (ua2.set (.int .i64 ((done.length : Nat) + 1 : Int)))
    have UR := Lib.hid (ur2.other (a := ⟨ba, 0, none⟩) (Ne.symm h1) (.int .i64 ((done.length : Nat) + 1 : Int)))
    have UF := Lib.hid (uf2.other (a := ⟨ba, 0, none⟩) (Ne.symm h2) (.int .i64 ((done.length : Nat) + 1 : Int)))
    have BB := Lib.hid (b2.setCell (p := ⟨ba, 0, none⟩) hba (.int .i64 ((done.length : Nat) + 1 : Int)))
    obtain ⟨n, hn⟩ : ∃ n, n = done.length := ⟨_, rfl⟩
    rw [← hn] at c0 c2 t1 UA UR UF BB E hl hr
    have hl' : (n : Int) < 4096 := by omega
    clear hn ua ur uf hbel uf2 ua2 ur2 b2 hr hba hbf h1 h3
    go_enter Tryz.func20, Tryz.ntmps20
    go_wp2_with fail
    go_end0
    exact ⟨rfl, by unfold NthInv; rw [V.out, E.out]; exact ⟨UA.out, UR.out, UF.out, BB.out⟩⟩
  · have V := Lib.hid (show (if 0 ≤ rk ∧ rk < ((done ++ [o]).length : Int) then (done ++ [o]).getD rk.toNat noS else noS) = (if 0 ≤ rk ∧ rk < (done.length : Int) then done.getD rk.toNat noS else noS) by
      rw [E.out]
      by_cases q : 0 ≤ rk ∧ rk < (done.length : Int)
      · rw [if_pos q, if_pos (by omega), List.getD_eq_getElem?_getD, List.getD_eq_getElem?_getD, List.getElem?_append_left (by omega)]
      · rw [if_neg q, if_neg (by omega)])
    have t1 : ((done.length : Int) == rk) = false := by simp [hr]
    have UA := Lib.hid (ua.set (.int .i64 ((done.length : Nat) + 1 : Int)))
    have UR := Lib.hid (ur.other (a := ⟨ba, 0, none⟩) (Ne.symm h1) (.int .i64 ((done.length : Nat) + 1 : Int)))
    have UF := Lib.hid (uf.other (a := ⟨ba, 0, none⟩) (Ne.symm h2) (.int .i64 ((done.length : Nat) + 1 : Int)))
    have BB := Lib.hid (hbel.setCell (p := ⟨ba, 0, none⟩) hba (.int .i64 ((done.length : Nat) + 1 : Int)))
    obtain ⟨F, hF⟩ : ∃ F, F = (if 0 ≤ rk ∧ rk < (done.length : Int) then done.getD rk.toNat noS else noS) := ⟨_, rfl⟩
    rw [← hF] at V UF
    obtain ⟨n, hn⟩ : ∃ n, n = done.length := ⟨_, rfl⟩
    rw [← hn] at c0 t1 UA UR UF BB E hl
    have hl' : (n : Int) < 4096 := by omega
    clear hn ua ur uf hbel hr hba hbf h1 h2 h3 hF f1 c3
    go_enter Tryz.func20, Tryz.ntmps20
    go_wp2_with fail
    go_end0
    exact ⟨rfl, by unfold NthInv; rw [V.out, E.out]; exact ⟨UA.out, UR.out, UF.out, BB.out⟩⟩

set_option maxRecDepth 100000 in
set_option maxHeartbeats 4000000 in
theorem implNth {w : World} {v : Value} {s : Sg} {rk : Int} (h : SgV w v s) :
    Calls Tryz.prog 7 #[v, .int .i64 rk] w fun e w' => e = .returned (.tuple #[.string (nthS s rk), .bool (nthB s rk)]) ∧ Below w.heap.size w w' := by
  have SV := Lib.hid (fun (X : World) (b : Below w.heap.size w X) => implSingle (h.below b))
  have HV := Lib.hid h
  obtain ⟨a, n, c, a', n', c', rfl, i1, i2⟩ := h.form
  obtain ⟨r, hr⟩ : ∃ r, r = s.run := ⟨_, rfl⟩
  obtain ⟨hd, hh⟩ : ∃ r, r = s.head := ⟨_, rfl⟩
  rw [← hr, ← hh] at SV HV ⊢
  have ea := below_alloc w (.cells #[.slice a n c, .slice a' n' c', .int .i64 r, .int .i64 hd] 25)
  have pa := Quad.new w (.slice a n c) (.slice a' n' c') (.int .i64 r) (.int .i64 hd) 25
  have sa : (w.alloc (.cells #[.slice a n c, .slice a' n' c', .int .i64 r, .int .i64 hd] 25)).heap.size = w.heap.size + 1 := Go.Deep.nblk_alloc _ _
  obtain ⟨Wa, hWa⟩ : ∃ W, W = w.alloc (.cells #[.slice a n c, .slice a' n' c', .int .i64 r, .int .i64 hd] 25) := ⟨_, rfl⟩
  rw [← hWa] at ea pa sa
  have ub := Uno.new Wa (.int .i64 rk) 3
  have eb := below_alloc Wa (.cells #[.int .i64 rk] 3)
  obtain ⟨W, hW⟩ : ∃ W, W = Wa.alloc (.cells #[.int .i64 rk] 3) := ⟨_, rfl⟩
  rw [← hW] at ub eb
  rw [sa] at ub
  have p0 := (pa.below eb).cell0
  have p1 := (pa.below eb).cell1
  have p2 := (pa.below eb).cell2
  have p3 := (pa.below eb).cell3
  have HW := Lib.hid (show (w.alloc (.cells #[.slice a n c, .slice a' n' c', .int .i64 r, .int .i64 hd] 25)).alloc (.cells #[.int .i64 rk] 3) = W by rw [hW, hWa])
  have EA := Lib.hid (ea.trans (eb.mono ea.size))
  have PA := Lib.hid (pa.below eb)
  have UB := Lib.hid ub
  obtain ⟨t, ht⟩ : ∃ t, t = sgB s := ⟨_, rfl⟩
  rw [← ht] at SV
  cases t
  · have HT := Lib.hid (nthB_bad (r := rk) ht.symm)
    have E := Lib.hid (nthS_no HT.out)
    clear ht h i1 i2 ea pa hW hr hh hWa sa eb ub
    go_enter Tryz.func7, Tryz.ntmps7
    go_upto_region 1 with fail
    rw [HW.out]
    go_wp2_with (go_at_call 13; refine (SV.out _ EA.out).mono ?_; rintro e w2 ⟨rfl, b2⟩)
    go_ret2
    exact ⟨by rw [E.out, HT.out]; rfl, EA.out.trans (b2.mono EA.out.size)⟩
  have HT := Lib.hid ht.symm
  have hml : manyV s = ((ords s).length : Int) := (manyV_yes ht.symm).trans (by rw [← ords_len])
  have HB : nthB s rk = decide (0 ≤ rk ∧ rk < ((ords s).length : Int)) := by
    unfold nthB; rw [hml]; exact decide_eq_decide.2 ⟨fun q => by omega, fun q => by omega⟩
  have HS : nthS s rk = if 0 ≤ rk ∧ rk < ((ords s).length : Int) then (ords s).getD rk.toNat noS else noS := by
    unfold nthS; rw [HB]; simp only [decide_eq_true_eq]
  have HB := Lib.hid HB
  have HS := Lib.hid HS
  clear ht h i1 i2 ea pa hW hr hh hWa eb ub hml
  go_enter Tryz.func7, Tryz.ntmps7
  go_upto_region 1 with fail
  rw [HW.out]
  go_upto_region 3 with (go_at_call 13; refine (SV.out _ EA.out).mono ?_; rintro e w2 ⟨rfl, b2⟩)
  have B2 := Lib.hid (EA.out.trans (b2.mono EA.out.size))
  have P2 := Lib.hid (PA.out.below b2)
  have U2 := Lib.hid (UB.out.below b2)
  have uf := Uno.new w2 (.string ⟨#[]⟩) 9
  have b3 := below_alloc w2 (.cells #[.string ⟨#[]⟩] 9)
  have s3 : (w2.alloc (.cells #[.string ⟨#[]⟩] 9)).heap.size = w2.heap.size + 1 := Go.Deep.nblk_alloc _ _
  obtain ⟨w3, hw3⟩ : ∃ X, X = w2.alloc (.cells #[.string ⟨#[]⟩] 9) := ⟨_, rfl⟩
  rw [← hw3] at uf b3 s3
  have ua := Uno.new w3 (.int .i64 0) 3
  have b4 := below_alloc w3 (.cells #[.int .i64 0] 3)
  obtain ⟨w4, hw4⟩ : ∃ X, X = w3.alloc (.cells #[.int .i64 0] 3) := ⟨_, rfl⟩
  rw [← hw4] at ua b4
  rw [s3] at ua
  have B4 := Lib.hid (b3.trans (b4.mono b3.size))
  have q0 := (P2.out.below B4.out).cell0
  have q1 := (P2.out.below B4.out).cell1
  have q2 := (P2.out.below B4.out).cell2
  have q3 := (P2.out.below B4.out).cell3
  have HW4 := Lib.hid (show (w2.alloc (.cells #[.string ⟨#[]⟩] 9)).alloc (.cells #[.int .i64 0] 3) = w4 by rw [hw4, hw3])
  have hlt : w.heap.size + 1 < w2.heap.size := by have := U2.out.lt; omega
  have INV := Lib.hid (show ∀ ob, NthInv w2 (w2.heap.size + 1) (w.heap.size + 1) w2.heap.size rk [] (w4.alloc ob) from fun ob =>
    ⟨ua.alloc ob, (U2.out.below B4.out).alloc ob, by
      have hno : ¬ (0 ≤ rk ∧ rk < (([] : List ByteArray).length : Int)) := fun q => by have := q.2; simp at this; omega
      rw [if_neg hno]; exact (uf.below b4).alloc ob, B4.out.alloc B4.out.size ob⟩)
  have EO := Lib.hid (eachOrder func_nth (fun done X o _ hl hI => nthOne (w := w2) (ba := w2.heap.size + 1) (br := w.heap.size + 1) (bf := w2.heap.size) (rk := rk) (o := o) (by omega) (by omega) (by omega) (by omega) (by omega) hl hI) (HV.out.below (B2.out.trans (B4.out.mono B2.out.size))) HT.out INV.out)
  clear b2 b3 b4 hw3 hw4 ua uf s3 p0 p1 p2 p3 hlt sa
  go_upto_region 5 with fail
  rw [HW4.out]
  go_upto_region 6 with (go_at_call 15; refine EO.out.mono ?_; rintro e w5 ⟨rfl, hI⟩)
  obtain ⟨ua, ur, uf, b5⟩ := hI
  rw [← HS.out] at uf
  obtain ⟨L, hL⟩ : ∃ L, L = (ords s).length := ⟨_, rfl⟩
  have HB2 := HB.out
  rw [← hL] at ua HB2
  obtain ⟨F, hF⟩ : ∃ x, x = nthS s rk := ⟨_, rfl⟩
  rw [← hF] at uf
  have HF := Lib.hid hF
  have c0 := ua.cell
  have c1 := ur.cell
  have c2 := uf.cell
  have B5 := Lib.hid (B2.out.trans (b5.mono B2.out.size))
  have d0 := fun d os => cell_regrown c0 d os
  have d1 := fun d os => cell_regrown c1 d os
  have d2 := fun d os => cell_regrown c2 d os
  clear hF hL ua ur uf b5 c0 c1 c2 q0 q1 q2 q3
  rcases Int.lt_or_le rk 0 with hr0 | hr0
  · have e1 : decide (0 ≤ rk) = false := decide_eq_false (by omega)
    have EE := Lib.hid (show nthB s rk = false by rw [HB2]; exact decide_eq_false (by omega))
    clear HB2 hr0
    refine wp_region_quiet_below (by kernel_rfl) (by kernel_rfl) ?_
    repeat (go_big_quiet_step (skip))
    refine wpQuiet_nil ?_
    intro _ hw'
    obtain ⟨⟨dq, osq⟩, hw''⟩ := hw'
    subst hw''
    have BR := below_regrown w5 dq osq
    clear d0 d1 d2
    go_wp2_with fail
    go_ret2
    exact ⟨by rw [EE.out, ← HF.out]; rfl, B5.out.trans (BR.mono B5.out.size)⟩
  · have e1 : decide (0 ≤ rk) = true := decide_eq_true hr0
    obtain ⟨t, ht⟩ : ∃ t, t = decide (rk < (L : Int)) := ⟨_, rfl⟩
    have e2 := ht.symm
    have EE := Lib.hid (show t = nthB s rk by rw [HB2, ht]; exact decide_eq_decide.2 ⟨fun q => ⟨hr0, q⟩, fun q => q.2⟩)
    clear HB2 ht hr0
    refine wp_region_quiet_below (by kernel_rfl) (by kernel_rfl) ?_
    repeat (go_big_quiet_step (skip))
    refine wpQuiet_nil ?_
    intro _ hw'
    obtain ⟨⟨dq, osq⟩, hw''⟩ := hw'
    subst hw''
    have BR := below_regrown w5 dq osq
    clear d0 d1 d2
    go_wp2_with fail
    go_ret2
    exact ⟨by rw [← EE.out, ← HF.out]; rfl, B5.out.trans (BR.mono B5.out.size)⟩

end Go.Proofs.YtlcmkocbpnekhaaGreatDoor
