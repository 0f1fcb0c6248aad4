/-
  The program's oneMore: texts of one event more, counted block by block. No condition.
-/
import Derived.Test.YtedbfmmklmidjabMapB
import Derived.Test.YtedbfmmklmidjabBlockE
import Derived.Deep.DeepCutAuto
import Derived.RegionTactic
import Derived.IntWalk
namespace Go.Proofs.Ytedbfmmklmidjab
open Go.RowKit Go.Sort
open Go.Maps (Keyed)

/-! ### The letters of the events of a block -/
theorem nxS_size (i : Nat) : (nxS (bkAt i)).size = nl i := rfl
theorem nxS_bt {i q : Nat} : bt (nxS (bkAt i)) q = (lb i q).toNat := by
  unfold bt lb
  have e : (nxS (bkAt i))[q]? = (nxTo (bkAt i) 7)[q]? := by
    show ((nxTo (bkAt i) 7).toArray)[q]? = _
    simp
  rw [e, List.getD_eq_getElem?_getD]
def lS (i q : Nat) : ByteArray := ⟨#[lb i q]⟩
theorem lS_size (i q : Nat) : (lS i q).size = 1 := rfl
theorem lb_or {i q : Nat} (hi : i < 5) (hq : q < nl i) : ∃ k, k < 7 ∧ lb i q = ltB k ∧ ((lb i q).toNat : Int) = ltr k := by
  have := nl_le hi
  have hq' : q = 0 ∨ q = 1 := by omega
  match i, hi with
  | 0, _ => rcases hq' with rfl | rfl
            · exact ⟨5, by decide, rfl, rfl⟩
            · exact absurd hq (by decide)
  | 1, _ => rcases hq' with rfl | rfl
            · exact ⟨0, by decide, rfl, rfl⟩
            · exact ⟨6, by decide, rfl, rfl⟩
  | 2, _ => rcases hq' with rfl | rfl
            · exact ⟨1, by decide, rfl, rfl⟩
            · exact ⟨2, by decide, rfl, rfl⟩
  | 3, _ => rcases hq' with rfl | rfl
            · exact ⟨3, by decide, rfl, rfl⟩
            · exact absurd hq (by decide)
  | 4, _ => rcases hq' with rfl | rfl
            · exact ⟨4, by decide, rfl, rfl⟩
            · exact absurd hq (by decide)
theorem lS_is {i q : Nat} (hi : i < 5) (hq : q < nl i) : ∃ k, k < 7 ∧ lS i q = ltS k ∧ ((lb i q).toNat : Int) = ltr k := by
  obtain ⟨k, hk, e1, e2⟩ := lb_or hi hq
  exact ⟨k, hk, by unfold lS ltS; rw [e1], e2⟩
theorem lS_convert {i q : Nat} (hi : i < 5) (hq : q < nl i) (w : World) : (Go.convert 21 9 (.int .i32 (lb i q).toNat)).run Try.prog w = .ok (.string (lS i q)) w := by
  obtain ⟨k, hk, e1, e2⟩ := lS_is hi hq
  rw [e1, e2]
  exact ltr_convert hk w
theorem lS_step {i q : Nat} (hi : i < 5) (hq : q < nl i) : bkOne (bkAt i) (lS i q) = some (bkAt (tg i q)) := by
  obtain ⟨k, hk, e1, e2⟩ := lS_is hi hq
  rw [e1, bkOne_ltS, ← e2]
  exact (tg_is hi hq).2
theorem nxS_next {i q : Nat} (hi : i < 5) (hq : q < nl i) {K : Nat} {w : World} (hit : w.heap[K]? = some (.stringIter (nxS (bkAt i)) q)) (ty : TypeId) :
    (Instr.next (.pointer (some ⟨K, 0, none⟩)) true ty).run Try.prog w = .ok (.tuple #[.bool true, .int .i64 q, .int .i32 (lb i q).toNat]) (w.iterAt K (nxS (bkAt i)) (q + 1)) := by
  have hs : q < (nxS (bkAt i)).size := by rw [nxS_size]; exact hq
  have hb : (((nxS (bkAt i))[q]'hs).toNat : Int) = (lb i q).toNat := by rw [bt_get hs, nxS_bt]
  have ha : ((nxS (bkAt i))[q]'hs).toNat < 128 := by
    obtain ⟨k, hk, _, e2⟩ := lS_is hi hq
    have : ltr k < 128 := by
      match k, hk with
      | 0, _ | 1, _ | 2, _ | 3, _ | 4, _ | 5, _ | 6, _ => decide
    omega
  rw [Lib.run_next_ascii_at w K _ q ty hit hs ha, hb]
theorem nxS_stop {i : Nat} {K : Nat} {w : World} (hit : w.heap[K]? = some (.stringIter (nxS (bkAt i)) (nl i))) (ty : TypeId) :
    (Instr.next (.pointer (some ⟨K, 0, none⟩)) true ty).run Try.prog w = .ok (.tuple #[.bool false]) w :=
  Lib.run_next_end_at w K _ (nl i) ty hit (by rw [nxS_size]; omega)

/-- The step of a range over a map whose keys are blocks and whose elements are numbers. -/
theorem wpList_next_B {w : World} {ops : Array Oper} {rest : List Oper} {o : Oper} {a : Act} {Q : Exit → Act → World → Prop} (hg : o.guard = none) (it : Operand) (hop : o.op = Op.next it false)
    (b r n : Nat) (D : DataW Unit) (left : Lit → Bool) (cnt : Nat) (f : Tx) (hD : HoldsB (Lit.int .i64) f D) (hit : a.eval it = .pointer (some ⟨r, 0, none⟩)) (h : w.ranges Try.prog 25 (plainElem Try.prog 3) b r n D left cnt)
    (hDone : (∀ kl, left kl = false) → wpList Try.prog ops Q rest (a.put o.dst (.tuple #[.bool false])) w)
    (hMore : ∀ (i : Nat) (x : Blk) (c : Int) (w' : World) (cnt' : Nat), Hid (i < 5 ∧ x = bkAt i ∧ left (kd i) = true ∧ f i = some c ∧ (Lit.int .i64 c).wf = true) → Hid (w'.ranges Try.prog 25 (plainElem Try.prog 3) b r n D (fun z => left z && !z.sameKey (kd i)) cnt' ∧ cnt' < cnt ∧
      w.grownBy w' (some r) ∧ w'.heap.size = w.heap.size) → (Instr.entry (.pointer (some ⟨r, 0, none⟩))).run Try.prog w' = .ok (.tuple #[.agg #[.int .i64 x.1, .bool x.2.1, .bool x.2.2], .int .i64 c]) w' → wpList Try.prog ops Q rest (a.put o.dst (.tuple #[.bool true, .agg #[.int .i64 x.1, .bool x.2.1, .bool x.2.2], .int .i64 c])) w') :
    wpList Try.prog ops Q (o :: rest) a w := by
  refine wpList_plain hg fun K' hK' => ?_
  unfold Oper.wp
  rcases h.next keyed o.type with ⟨_, hl, hrun⟩ | ⟨key, v, kl, y, w', cnt', hkey, hlk, hv, hat, hrun, hrg, hlt, hgr, hsz, hen⟩
  · simp [execOp, hop, hit, hrun, Result.andThen]
    exact hK' _ _ (hDone hl)
  · obtain ⟨i, hi, rfl⟩ := hD.2.2 kl (Maps.has_true_of_atKey hat)
    obtain rfl := keyed.inj hkey (keyOf_kd hi)
    obtain ⟨c, rfl, hc, hwc⟩ := plainElem_int_inv Try.underlying3 hv
    have hf : f i = some c := by
      have h1 := hD.1 i hi
      rw [Maps.has_true_of_atKey hat] at h1
      obtain ⟨c', hc'⟩ := Option.isSome_iff_exists.1 h1.symm
      have h2 := hD.2.1 i hi c' hc' .nil
      rw [hat, hc] at h2
      simp only [DataW.lit.injEq, Lit.int.injEq, true_and] at h2
      rw [hc', h2]
    simp [execOp, hop, hit, hrun, Result.andThen]
    exact hK' _ _ (hMore i _ c w' cnt' ⟨hi, rfl, hlk, hf, hwc⟩ ⟨hrg, hlt, hgr, hsz⟩ hen)

/-- How many of the five are still to come. -/
def mu (left : Lit → Bool) : Nat := (left (kd 0)).toNat + (left (kd 1)).toNat + (left (kd 2)).toNat + (left (kd 3)).toNat + (left (kd 4)).toNat
def doneB (f : Tx) (left : Lit → Bool) : Nat → Bool := fun i => (f i).isSome && !left (kd i)
theorem strike_self {i : Nat} (hi : i < 5) : (kd i).sameKey (kd i) = true := WideAt.sameKey_self (kd_key hi)
theorem strike_other {i j : Nat} (hi : i < 5) (hj : j < 5) (h : j ≠ i) : (kd j).sameKey (kd i) = false := Maps.sameKey_ne (kd_ne hj hi h)
theorem mu_strike {left : Lit → Bool} {i : Nat} (hi : i < 5) (h : left (kd i) = true) : mu (fun z => left z && !z.sameKey (kd i)) + 1 = mu left := by
  have o : ∀ j, j < 5 → j ≠ i → (left (kd j) && !(kd j).sameKey (kd i)) = left (kd j) := by
    intro j hj hne; rw [strike_other hi hj hne]; simp
  have s : (left (kd i) && !(kd i).sameKey (kd i)) = false := by rw [strike_self hi]; simp
  unfold mu
  match i, hi with
  | 0, _ => dsimp only; rw [s, o 1 (by decide) (by decide), o 2 (by decide) (by decide), o 3 (by decide) (by decide), o 4 (by decide) (by decide), h]; simp only [Bool.toNat_true, Bool.toNat_false]; omega
  | 1, _ => dsimp only; rw [s, o 0 (by decide) (by decide), o 2 (by decide) (by decide), o 3 (by decide) (by decide), o 4 (by decide) (by decide), h]; simp only [Bool.toNat_true, Bool.toNat_false]; omega
  | 2, _ => dsimp only; rw [s, o 1 (by decide) (by decide), o 0 (by decide) (by decide), o 3 (by decide) (by decide), o 4 (by decide) (by decide), h]; simp only [Bool.toNat_true, Bool.toNat_false]; omega
  | 3, _ => dsimp only; rw [s, o 1 (by decide) (by decide), o 2 (by decide) (by decide), o 0 (by decide) (by decide), o 4 (by decide) (by decide), h]; simp only [Bool.toNat_true, Bool.toNat_false]; omega
  | 4, _ => dsimp only; rw [s, o 1 (by decide) (by decide), o 2 (by decide) (by decide), o 3 (by decide) (by decide), o 0 (by decide) (by decide), h]; simp only [Bool.toNat_true, Bool.toNat_false]
theorem done_strike {f : Tx} {left : Lit → Bool} {i : Nat} {c : Int} (hi : i < 5) (hf : f i = some c) : ∀ j, j < 5 → doneB f (fun z => left z && !z.sameKey (kd i)) j = with1 (doneB f left) i j := by
  intro j hj
  unfold doneB with1
  by_cases e : j = i
  · subst e; simp [strike_self hi, hf]
  · simp [strike_other hi hj e, e]
theorem done_not {f : Tx} {left : Lit → Bool} {i : Nat} (h : left (kd i) = true) : doneB f left i = false := by simp [doneB, h]
theorem cont_congr {f : Tx} {S S' : Nat → Bool} (h : ∀ j, j < 5 → S j = S' j) : cont f S = cont f S' := by
  funext x
  unfold cont pr vl here part
  rw [h 0 (by decide), h 1 (by decide), h 2 (by decide), h 3 (by decide), h 4 (by decide)]
theorem cont_none (f : Tx) {S : Nat → Bool} (h : ∀ j, j < 5 → S j = false) : cont f S = fun _ => none := by
  funext x
  unfold cont pr here
  rw [h 0 (by decide), h 1 (by decide), h 2 (by decide), h 3 (by decide), h 4 (by decide)]
  simp
theorem mu_le (left : Lit → Bool) : mu left ≤ 5 := by
  have q : ∀ b : Bool, b.toNat ≤ 1 := by decide
  have q0 := q (left (kd 0))
  have q1 := q (left (kd 1))
  have q2 := q (left (kd 2))
  have q3 := q (left (kd 3))
  have q4 := q (left (kd 4))
  unfold mu
  omega

theorem addE_is {g : Tx} {y : Nat} {v m : Int} (h : v = (g y).getD 0) : ∀ x, x < 5 → setE g y (v + m) x = addE g y m x := by
  intro x _
  subst h
  unfold setE addE
  by_cases e : x = y
  · subst e; simp
  · simp [e]
theorem ct_small {i x : Nat} {m B : Int} (h0 : 0 ≤ m) (hB : m ≤ B) : ∀ q, 0 ≤ ct i m x q ∧ ct i m x q ≤ q * B := by
  intro q
  induction q with
  | zero => simp [ct]
  | succ q ih =>
    simp only [ct]
    split
    · refine ⟨by omega, ?_⟩
      have : ((q + 1 : Nat) : Int) * B = q * B + B := by rw [Int.natCast_add, Int.add_mul]; simp
      omega
    · refine ⟨by omega, ?_⟩
      have : ((q + 1 : Nat) : Int) * B = q * B + B := by rw [Int.natCast_add, Int.add_mul]; simp
      omega
theorem cont_small {f : Tx} (hs : ∀ i, i < 5 → ∀ c, f i = some c → 0 ≤ c ∧ c ≤ 1000000000) (S : Nat → Bool) (x : Nat) : 0 ≤ (cont f S x).getD 0 ∧ (cont f S x).getD 0 ≤ 10000000000 := by
  have p : ∀ i, i < 5 → 0 ≤ part f S i x ∧ part f S i x ≤ 2000000000 := by
    intro i hi
    have hm : 0 ≤ (f i).getD 0 ∧ (f i).getD 0 ≤ 1000000000 := by
      cases e : f i with
      | none => simp
      | some c => have := hs i hi c e; simpa using this
    have h2 := nl_le hi
    unfold part
    split
    · have := ct_small (i := i) (x := x) hm.1 hm.2 (nl i)
      have hn : nl i = 1 ∨ nl i = 2 := by omega
      rcases hn with e | e <;> rw [e] at this ⊢ <;> omega
    · omega
  have p0 := p 0 (by decide)
  have p1 := p 1 (by decide)
  have p2 := p 2 (by decide)
  have p3 := p 3 (by decide)
  have p4 := p 4 (by decide)
  unfold cont vl
  split
  · simp only [Option.getD_some]; omega
  · simp
theorem addTo_small {f : Tx} (hs : ∀ i, i < 5 → ∀ c, f i = some c → 0 ≤ c ∧ c ≤ 1000000000) (S : Nat → Bool) {i : Nat} {c : Int} (h0 : 0 ≤ c) (h1 : c ≤ 1000000000) {q : Nat} (hq : q ≤ 2) (x : Nat) :
    0 ≤ (addTo (cont f S) i c q x).getD 0 ∧ (addTo (cont f S) i c q x).getD 0 ≤ 100000000000 := by
  have a := cont_small hs S x
  have b := ct_small (i := i) (x := x) h0 h1 q
  have hn : q = 0 ∨ q = 1 ∨ q = 2 := by omega
  rw [addTo_is]
  split
  · simp only [Option.getD_some]
    rcases hn with e | e | e <;> rw [e] at b ⊢ <;> omega
  · omega
theorem grown_iterAt (w : World) (k : Nat) (s : ByteArray) (pos : Nat) : w.grownBy (w.iterAt k s pos) (some k) :=
  ⟨rfl, rfl, rfl, by rw [Lib.iterAt_size]; exact Nat.le_refl _, fun i _ hi => Lib.iterAt_other w k i s pos (fun e => hi (by rw [e]))⟩
theorem Tri3.grown {w w' : World} {b : Nat} {x y z : Value} {t : TypeId} {row : Option Nat} (h : Tri3 w b x y z t) (hg : w.grownBy w' row) (hne : some b ≠ row) : Tri3 w' b x y z t := h.of (hg.block b h.lt hne)
theorem MapI.drew {w : World} {M n : Nat} {f : Tx} (h : MapI w M n f) : MapI w.drew M n f := h

set_option maxRecDepth 100000 in
set_option maxHeartbeats 400000 in
theorem oneMore (w : World) (T0 n : Nat) (f : Tx) (h : MapI w T0 n f) (hs : ∀ i, i < 5 → ∀ c, f i = some c → 0 ≤ c ∧ c ≤ 1000000000) :
    Calls Try.prog 47 #[.map (some T0)] w fun e w' => e = .returned (.map (some w.heap.size)) ∧ MapI w' w.heap.size 10 (fwStep f) ∧ Below w.heap.size w w' := by
  obtain ⟨D, hown, hD⟩ := h
  have hmm := @run_makeMap Try.prog
  have hbl := hown.lt
  have e1 : (w.alloc (.map #[] 0)).heap.size = w.heap.size + 1 := by simp
  go_enter Try.func47, Try.ntmps47
  go_wp2_with (first
    | (at_range; refine wpList_range_own _ rfl _ 60 rfl 25 3 keyed Try.underlying60 _ T0 n _ rfl (hown.alloc _) ?_; intro w0 hrg0 hg0 hs0)
    | fail)
  go_frame
  rw [e1] at hrg0 hs0 ⊢
  go_loopw [5] (fun _ wr => ∃ (left : Lit → Bool) (cnt m : Nat), wr.ranges Try.prog 25 (plainElem Try.prog 3) T0 (w.heap.size + 1) n D left cnt ∧ MapI wr w.heap.size m (cont f (doneB f left)) ∧ m + 2 * mu left ≤ 10 ∧ Below w.heap.size w wr) (fun _ wr => wr.rangeLeft T0 (w.heap.size + 1))
  case atStart =>
    refine ⟨_, _, 0, hrg0, ((MapI.new w).kept hg0 (by simp)).congr (fun i _ => ?_), by have := mu_le (Maps.has D); omega, ((Below.refl _ _).alloc (Nat.le_refl _) _).grown hg0 (by simp) (fun j hj => by cases hj)⟩
    rw [cont_none f (fun j hj => by unfold doneB; rw [hD.1 j hj]; simp)]
  case round =>
    obtain ⟨left, cnt, m, hrg, hmp, hmu, hbel⟩ := hrel
    obtain ⟨wo, rfl⟩ : ∃ X, X = wr := ⟨_, rfl⟩
    go_wp2_with (first
      | (at_next; refine wpList_next_B rfl _ rfl T0 (w.heap.size + 1) n D left cnt f hD rfl hrg ?_ ?_; rotate_left; intro i x c w1 cnt1 HX HR hen; rotate_left; intro hl0)
      | fail)
    · go_wp2_with fail
      go_ret
      refine ⟨rfl, (hmp.mono (by omega)).congr (fun i _ => ?_), hbel⟩
      unfold fwStep
      rw [cont_congr (S' := fun i => (f i).isSome) (fun j _ => by unfold doneB; rw [hl0]; simp)]
    · have HMP := Lib.hid hmp
      have HRO := Lib.hid hrg
      have HDD := Lib.hid hD
      have HOW := Lib.hid hown
      clear hmp hrg hD hown hrg0 hg0 hs0 hmm
      have NX := Lib.hid (show ∀ w : World, Calls Try.prog 24 #[.agg #[.int .i64 x.1, .bool x.2.1, .bool x.2.2]] w fun e w' => e = .returned (.string (nxS x)) ∧ Below w.heap.size w w' from implNext x)
      obtain ⟨S, hS⟩ : ∃ S, S = nxS x := ⟨_, rfl⟩
      rw [← hS] at NX
      have HS := Lib.hid hS
      clear hS
      go_wp2_with (go_at_call 24; refine (NX.out _).mono ?_)
      rintro e w2 ⟨rfl, b2⟩
      go_wp2_with fail
      have hE : w1.heap.size < w2.heap.size := by have := b2.size; simp at this; omega
      have hsz : w1.heap.size = wo.heap.size := HR.out.2.2.2
      have hwo : w.heap.size + 1 < wo.heap.size := HRO.out.lt
      have hi : i < 5 := HX.out.1
      have tE : Tri3 w2 w1.heap.size (.int .i64 x.1) (.bool x.2.1) (.bool x.2.2) 25 := (Tri3.new w1 _ _ _ _).below b2
      have g2 : w1.grownBy w2 none := (World.grownBy_alloc w1 _ none).andThen (below_grown b2) (fun j hj => by cases hj)
      obtain ⟨WI, hWI⟩ : ∃ W, W = w2.iter S 0 := ⟨_, rfl⟩
      have gI : w2.grownBy WI none := by rw [hWI]; exact World.grownBy_alloc _ _ _
      have it0 : WI.heap[w2.heap.size]? = some (.stringIter S 0) := by rw [hWI]; exact World.iter_heap _ _ _
      have tI : Tri3 WI w1.heap.size (.int .i64 x.1) (.bool x.2.1) (.bool x.2.2) 25 := by rw [hWI]; exact tE.alloc _
      have r2 := (HR.out.1.kept g2 (by simp) (by simp)).kept gI (by simp) (by simp)
      have m2 : MapI WI w.heap.size m (cont f (doneB f left)) := ((HMP.out.kept HR.out.2.2.1 (by simp)).kept g2 (by simp)).kept gI (by simp)
      have bI : Below w.heap.size w WI := ((hbel.grown HR.out.2.2.1 hbel.size (fun j hj => by cases hj; omega)).grown g2 (by omega) (fun j hj => by cases hj)).grown gI (by omega) (fun j hj => by cases hj)
      rw [← hWI]
      have TI := Lib.hid tI
      have IT := Lib.hid it0
      have R2 := Lib.hid r2
      have M2 := Lib.hid m2
      have BI := Lib.hid bI
      have HSZ := Lib.hid (And.intro hsz (And.intro hwo hE))
      clear tI it0 r2 m2 bI tE g2 gI hWI b2 hsz hwo hE hbel hen
      go_loopw [7] (fun _ wr => ∃ q : Nat, q ≤ nl i ∧ Hid (wr.heap[w2.heap.size]? = some (.stringIter S q) ∧ Tri3 wr w1.heap.size (.int .i64 x.1) (.bool x.2.1) (.bool x.2.2) 25 ∧
        wr.ranges Try.prog 25 (plainElem Try.prog 3) T0 (w.heap.size + 1) n D (fun z => left z && !z.sameKey (kd i)) cnt1 ∧ MapI wr w.heap.size (m + q) (addTo (cont f (doneB f left)) i c q) ∧ Below w.heap.size w wr)) (fun _ wr => 2 - wr.iterPos w2.heap.size)
      case atStart => exact ⟨0, by omega, IT.out, TI.out, R2.out, M2.out, BI.out⟩
      case round =>
        obtain ⟨q, hq, RR⟩ := hrel
        by_cases hlt : q < nl i
        · obtain ⟨hx5, hxx, hlk, hfi, hwc⟩ := HX.out
          obtain ⟨hsz, hwo, hE⟩ := HSZ.out
          obtain ⟨hit, tr, hrg, hmp, hbel⟩ := RR.out
          have hKl : w2.heap.size < wr.heap.size := (Array.getElem?_eq_some_iff.1 hit).1
          have hS : S = nxS (bkAt i) := HS.out.trans (by rw [hxx])
          have hc := hs i hx5 c hfi
          have hq2 := nl_le hx5
          obtain ⟨l, hl⟩ : ∃ l : Int, l = (lb i q).toNat := ⟨_, rfl⟩
          obtain ⟨L, hL⟩ : ∃ L, L = lS i q := ⟨_, rfl⟩
          obtain ⟨y, hy⟩ : ∃ y, y = bkAt (tg i q) := ⟨_, rfl⟩
          have hty := (tg_is hx5 hlt).1
          have hnx : ∀ ty, (Instr.next (.pointer (some ⟨w2.heap.size, 0, none⟩)) true ty).run Try.prog wr = .ok (.tuple #[.bool true, .int .i64 q, .int .i32 l]) (wr.iterAt w2.heap.size S (q + 1)) := by
            intro ty; rw [hS] at hit ⊢; rw [hl]; exact nxS_next hx5 hlt hit ty
          have hcv : ∀ w, (Go.convert 21 9 (.int .i32 l)).run Try.prog w = .ok (.string L) w := by rw [hl, hL]; exact fun w => lS_convert hx5 hlt w
          have SP := Lib.hid (show ∀ w : World, Calls Try.prog 19 #[.agg #[.int .i64 x.1, .bool x.2.1, .bool x.2.2], .string L] w fun e w' => e = .returned (.tuple #[.agg #[.int .i64 y.1, .bool y.2.1, .bool y.2.2], .bool true]) ∧ Below w.heap.size w w' by
            intro w
            have := implStepE x L (by rw [hL, lS_size]; omega) w
            rw [show bkOne x L = some y by rw [hxx, hL, hy]; exact lS_step hx5 hlt] at this
            exact this)
          have gA := grown_iterAt wr w2.heap.size S (q + 1)
          obtain ⟨WA, hWA⟩ : ∃ W, W = wr.iterAt w2.heap.size S (q + 1) := ⟨_, rfl⟩
          have itA : WA.heap[w2.heap.size]? = some (.stringIter S (q + 1)) := by rw [hWA]; exact Lib.iterAt_heap wr _ S q (q + 1) hit
          rw [← hWA] at hnx gA
          have tA := tr.grown gA (by simp; omega)
          have rA := hrg.kept gA (by simp; have := hrg.owns.lt; omega) (by simp; omega)
          have mA := hmp.kept gA (by simp; omega)
          have bA := hbel.grown gA (by omega) (fun j hj => by cases hj; omega)
          have ho : MapI wr w.heap.size (m + q) (addTo (cont f (doneB f left)) i c q) := hmp
          have sA : WA.heap.size = wr.heap.size := by rw [hWA]; exact Lib.iterAt_size _ _ _ _
          obtain ⟨g, hg⟩ : ∃ g, g = addTo (cont f (doneB f left)) i c q := ⟨_, rfl⟩
          have hsm := addTo_small hs (doneB f left) (i := i) hc.1 hc.2 (q := q) (by omega) (tg i q)
          have hgs : addTo (cont f (doneB f left)) i c (q + 1) = addE g (tg i q) c := by rw [hg]; rfl
          rw [← hg] at hsm mA
          obtain ⟨vv, hvv⟩ : ∃ v, v = (g (tg i q)).getD 0 := ⟨_, rfl⟩
          rw [← hvv] at hsm
          have c0 := tA.cell0
          have c1 := tA.cell1
          have c2 := tA.cell2
          have TA := Lib.hid tA
          have RA := Lib.hid rA
          have MA := Lib.hid mA
          have BA := Lib.hid bA
          have IA := Lib.hid itA
          have HY := Lib.hid (And.intro hy (And.intro hvv (And.intro hgs (And.intro hty (And.intro sA hKl)))))
          have HC := Lib.hid (And.intro hc hsm)
          clear hx5 hxx hlk hfi hwc hit tr hrg hmp hbel hS hl hL hy hgs hg hvv ho tA rA mA bA itA gA hWA hc hsm hsz hwo hE hty sA hKl hq2
          go_wp2_with (go_at_call 19; refine (SP.out _).mono ?_)
          rintro e w3 ⟨rfl, b3⟩
          go_upto_region 9 with fail
          have hwf3 : w.heap.size + 1 < wo.heap.size := HSZ.out.2.1
          have h12 : w1.heap.size = wo.heap.size := HSZ.out.1
          have h2w : w1.heap.size < w2.heap.size := HSZ.out.2.2
          have hK : w2.heap.size < wr.heap.size := HY.out.2.2.2.2.2
          have hsA : WA.heap.size = wr.heap.size := HY.out.2.2.2.2.1
          have hn2 := nl_le HX.out.1
          have hn : m + q < maxLen := by unfold maxLen; omega
          obtain ⟨W9, hW9⟩ : ∃ W, W = w3.alloc (.cells #[.int .i64 y.1, .bool y.2.1, .bool y.2.2] 25) := ⟨_, rfl⟩
          have g9 : WA.grownBy W9 none := by rw [hW9]; exact (below_grown b3).andThen (World.grownBy_alloc _ _ none) (fun j hj => by cases hj)
          have t9 : Tri3 W9 w3.heap.size (.int .i64 y.1) (.bool y.2.1) (.bool y.2.2) 25 := by rw [hW9]; exact Tri3.new _ _ _ _ _
          have m9 := MA.out.kept g9 (by simp)
          obtain ⟨st, WB, hE1, hL2, hS1⟩ := m9.drew.entry hn HY.out.2.2.2.1
          obtain ⟨hc0, hc1⟩ := HC.out.1
          obtain ⟨hv0, hv1⟩ := HC.out.2
          have hwfs : (Lit.int .i64 (vv + c)).wf = true := WalkArith.wf_i64 (by omega)
          obtain ⟨WC, hS2, hM2, hG2⟩ := hS1 (vv + c) hwfs
          have hL1 := m9.drew.lookup HY.out.2.2.2.1
          rw [← HY.out.1, ← HY.out.2.1] at hL1 hL2 hE1
          have L1 : (Instr.lookup 60 (.map (some w.heap.size)) (.agg #[.int .i64 y.1, .bool y.2.1, .bool y.2.2]) false).run Try.prog W9.drew = .ok (.int .i64 vv) W9.drew := hL1
          have L2 : (Instr.lookup 60 (.map (some w.heap.size)) (.agg #[.int .i64 y.1, .bool y.2.1, .bool y.2.2]) false).run Try.prog WB = .ok (.int .i64 vv) WB := hL2
          have E1 : (Instr.mapEntry 60 (.map (some w.heap.size)) (.agg #[.int .i64 y.1, .bool y.2.1, .bool y.2.2])).run Try.prog W9.drew = .ok (.tuple #[.int .i64 vv, .int .i64 st]) WB := hE1
          have c0 := t9.cell0
          have c1 := t9.cell1
          have c2 := t9.cell2
          have hw1 : IntKind.i64.wrap (vv + c) = vv + c := IntWalk.i64_in _ (by omega)
          have hw2 : wrap64 (vv + c) = vv + c := (IntWalk.i64_left _).symm.trans hw1
          have G9 := Lib.hid g9
          have M2 := Lib.hid hM2
          have G2 := Lib.hid hG2
          rw [← hW9]
          clear hL1 hL2 hE1 hS1 hM2 hG2 g9 m9 t9 hW9 hwfs
          go_region
          have gC : WA.grownBy WC (some w.heap.size) := G9.out.but _ |>.andThen (show W9.grownBy WC (some w.heap.size) from ⟨G2.out.os, G2.out.tape, G2.out.output, G2.out.size, G2.out.block⟩) (fun j hj => .inr hj)
          have hitC : WC.heap[w2.heap.size]? = some (.stringIter S (q + 1)) := (gC.block _ (by omega) (by simp; omega)).trans IA.out
          have rC := RA.out.kept gC (by simp; have := RA.out.owns.lt; omega) (by simp)
          have tC := TA.out.grown gC (by simp; omega)
          have bC := BA.out.grown gC (by omega) (fun j hj => by cases hj; exact Nat.le_refl _)
          have mC : MapI WC w.heap.size (m + (q + 1)) (addTo (cont f (doneB f left)) i c (q + 1)) := by
            rw [HY.out.2.2.1]
            exact M2.out.congr (addE_is HY.out.2.1)
          go_roundw
          case rel =>
            repeat apply Exists.intro
            exact ⟨⟨q + 1, by omega, hitC, tC, rC, mC, bC⟩, rfl⟩
          case measure =>
            have h1 := RR.out.1
            simp only [World.iterPos, hitC, h1]
            omega
        · obtain rfl : q = nl i := by omega
          obtain ⟨hx5, hxx, hlk, hfi, hwc⟩ := HX.out
          obtain ⟨hit, tr, hrg, hmp, hbel⟩ := RR.out
          have hS : S = nxS (bkAt i) := HS.out.trans (by rw [hxx])
          have hnx : ∀ ty, (Instr.next (.pointer (some ⟨w2.heap.size, 0, none⟩)) true ty).run Try.prog wr = .ok (.tuple #[.bool false]) wr := by
            intro ty; rw [hS] at hit; exact nxS_stop hit ty
          have hn2 := nl_le hx5
          have hm2 := mu_strike hx5 hlk
          have mC : MapI wr w.heap.size (m + nl i) (cont f (doneB f (fun z => left z && !z.sameKey (kd i)))) := by
            rw [cont_congr (done_strike hx5 hfi), ← cont_with hx5 (done_not hlk) hfi]
            exact hmp
          have MC := Lib.hid mC
          have RC := Lib.hid hrg
          have HN := Lib.hid (And.intro hn2 hm2)
          clear hx5 hxx hlk hfi hwc hit tr hmp hS hn2 hm2 mC hrg
          go_wp2_with fail
          go_roundw
          case rel =>
            exact ⟨_, _, m + nl i, RC.out, MC.out, by have := HN.out; omega, hbel⟩
          case measure =>
            rw [RC.out.left_eq, HRO.out.left_eq]
            exact HR.out.2.1

end Go.Proofs.Ytedbfmmklmidjab
