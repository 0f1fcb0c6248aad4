/-
  The program's BlockMany. No condition.
-/
import Derived.Test.YtedbfmmklmidjabOneM
namespace Go.Proofs.Ytedbfmmklmidjab
open Go.RowKit Go.Sort
open Go.Maps (Keyed)

/-- How many texts of n events can be done from a block on. -/
def bkMany (b : Blk) (n : Int) : Int := if bkPos b = true ∧ 0 ≤ n ∧ n ≤ 30 then (bw n.toNat).getD (bkIx b) 0 else -1
theorem bkMany_no {b : Blk} {n : Int} (h : bkPos b = false ∨ n < 0 ∨ 30 < n) : bkMany b n = -1 := by
  unfold bkMany
  rw [if_neg]
  rintro ⟨h1, h2, h3⟩
  rcases h with h | h | h
  · rw [h1] at h; cases h
  · omega
  · omega
theorem bkMany_yes {b : Blk} {n : Nat} (h : bkPos b = true) (hn : n ≤ 30) : bkMany b n = (bw n).getD (bkIx b) 0 := by
  unfold bkMany
  rw [if_pos ⟨h, by omega, by omega⟩, Int.toNat_natCast]

/-- What has been summed up. -/
def sm (f : Tx) (S : Nat → Bool) (i : Nat) : Int := if S i then (f i).getD 0 else 0
def totS (f : Tx) (S : Nat → Bool) : Int := sm f S 0 + sm f S 1 + sm f S 2 + sm f S 3 + sm f S 4
theorem totS_with {f : Tx} {S : Nat → Bool} {i : Nat} {c : Int} (hi : i < 5) (hs : S i = false) (hf : f i = some c) : totS f (with1 S i) = totS f S + c := by
  have hp : sm f (with1 S i) i = c := by simp [sm, with1, hf]
  have h0 : sm f S i = 0 := by simp [sm, hs]
  have ho : ∀ j, j ≠ i → sm f (with1 S i) j = sm f S j := by intro j hj; simp [sm, with1, hj]
  unfold totS
  match i, hi with
  | 0, _ => rw [hp, h0, ho 1 (by decide), ho 2 (by decide), ho 3 (by decide), ho 4 (by decide)]; omega
  | 1, _ => rw [hp, h0, ho 0 (by decide), ho 2 (by decide), ho 3 (by decide), ho 4 (by decide)]; omega
  | 2, _ => rw [hp, h0, ho 1 (by decide), ho 0 (by decide), ho 3 (by decide), ho 4 (by decide)]; omega
  | 3, _ => rw [hp, h0, ho 1 (by decide), ho 2 (by decide), ho 0 (by decide), ho 4 (by decide)]; omega
  | 4, _ => rw [hp, h0, ho 1 (by decide), ho 2 (by decide), ho 3 (by decide), ho 0 (by decide)]; omega
theorem totS_congr {f : Tx} {S S' : Nat → Bool} (h : ∀ j, j < 5 → S j = S' j) : totS f S = totS f S' := by
  unfold totS sm
  rw [h 0 (by decide), h 1 (by decide), h 2 (by decide), h 3 (by decide), h 4 (by decide)]
theorem totS_none {f : Tx} {S : Nat → Bool} (h : ∀ j, j < 5 → S j = false) : totS f S = 0 := by
  unfold totS sm
  rw [h 0 (by decide), h 1 (by decide), h 2 (by decide), h 3 (by decide), h 4 (by decide)]
  simp
theorem totS_all {f : Tx} {S : Nat → Bool} (h : ∀ j, j < 5 → S j = (f j).isSome) : totS f S = total f := by
  have e : ∀ j, j < 5 → sm f S j = (f j).getD 0 := by
    intro j hj
    unfold sm
    rw [h j hj]
    cases f j <;> simp
  unfold totS total
  rw [e 0 (by decide), e 1 (by decide), e 2 (by decide), e 3 (by decide), e 4 (by decide)]
theorem totS_small {f : Tx} (hs : ∀ i, i < 5 → ∀ c, f i = some c → 0 ≤ c ∧ c ≤ 1000000000) (S : Nat → Bool) : 0 ≤ totS f S ∧ totS f S ≤ 5000000000 := by
  have p : ∀ i, i < 5 → 0 ≤ sm f S i ∧ sm f S i ≤ 1000000000 := by
    intro i hi
    unfold sm
    split
    · cases e : f i with
      | none => simp
      | some c => have := hs i hi c e; simpa using this
    · omega
  have p0 := p 0 (by decide)
  have p1 := p 1 (by decide)
  have p2 := p 2 (by decide)
  have p3 := p 3 (by decide)
  have p4 := p 4 (by decide)
  unfold totS
  omega
theorem fw_bound {b k : Nat} (hb : b < 5) (hk : k ≤ 30) : ∀ i, i < 5 → ∀ c, fw b k i = some c → 0 ≤ c ∧ c ≤ 1000000000 := by
  intro i hi c hc
  have := fw_small k hk b hb i hi
  rw [hc] at this
  exact this
theorem fw_zero {b : Nat} : ∀ x, x < 5 → setE (fun _ => none) b (1 : Int) x = fw b 0 x := by
  intro x hx
  unfold fw setE
  simp only [fwT]
  rw [List.getD_eq_getElem?_getD, List.getElem?_map, List.getElem?_range hx]
  rfl

set_option maxRecDepth 100000 in
set_option maxHeartbeats 400000 in
theorem implMany (b : Blk) (n : Int) (w : World) :
    Calls Try.prog 15 #[bkV b, .int .i64 n] w fun e w' => e = .returned (.int .i64 (bkMany b n)) ∧ Below w.heap.size w w' := by
  unfold bkV
  have hmm := @run_makeMap Try.prog
  have q0 := below_alloc w (.cells #[.int .i64 b.1, .bool b.2.1, .bool b.2.2] 25)
  have t0 := Tri3.new w (.int .i64 b.1) (.bool b.2.1) (.bool b.2.2) 25
  have PO := Lib.hid (show ∀ w : World, Calls Try.prog 22 #[.agg #[.int .i64 b.1, .bool b.2.1, .bool b.2.2]] w fun e w' => e = .returned (.bool (bkPos b)) ∧ Below w.heap.size w w' from implPossible b)
  by_cases hno : bkPos b = false ∨ n < 0 ∨ 30 < n
  · have N := Lib.hid (bkMany_no hno)
    obtain ⟨p, hp⟩ : ∃ p, p = bkPos b := ⟨_, rfl⟩
    rw [← hp] at PO hno
    clear hp hmm
    cases p
    · clear hno
      go_enter Try.func15, Try.ntmps15
      go_wp2_with (go_at_call 22; refine (PO.out _).mono ?_)
      rintro e w1 ⟨rfl, b1⟩
      go_wp2_with fail
      go_ret
      exact ⟨ret_int N.out.symm, q0.trans (b1.mono q0.size)⟩
    · have hno' : n < 0 ∨ 30 < n := by simpa using hno
      clear hno
      rcases hno' with h | h
      · go_enter Try.func15, Try.ntmps15
        go_wp2_with (go_at_call 22; refine (PO.out _).mono ?_)
        rintro e w1 ⟨rfl, b1⟩
        go_wp2_with fail
        go_ret
        exact ⟨ret_int N.out.symm, q0.trans (b1.mono q0.size)⟩
      · have h' : decide (n < 0) = false := by simp; omega
        go_enter Try.func15, Try.ntmps15
        go_wp2_with (go_at_call 22; refine (PO.out _).mono ?_)
        rintro e w1 ⟨rfl, b1⟩
        go_wp2_with fail
        go_ret
        exact ⟨ret_int N.out.symm, q0.trans (b1.mono q0.size)⟩
  · have hb : bkPos b = true := by
      cases e : bkPos b
      · exact absurd (.inl e) hno
      · rfl
    obtain ⟨m, rfl⟩ : ∃ m : Nat, n = m := ⟨n.toNat, by omega⟩
    have hm : m ≤ 30 := by omega
    have N := Lib.hid (bkMany_yes hb hm)
    rw [hb] at PO
    obtain ⟨hi, hbi⟩ := bkAt_ix hb
    obtain ⟨i, hie⟩ : ∃ i, i = bkIx b := ⟨_, rfl⟩
    rw [← hie] at N hi hbi
    have HBI := Lib.hid hbi
    have HI := Lib.hid hi
    have h1 : decide ((m : Int) < 0) = false := by simp
    have h2 : decide (30 < (m : Int)) = false := by simp; omega
    have T0 := Lib.hid t0
    have Q0 := Lib.hid q0
    clear hno hie hb hbi hi t0 q0
    go_enter Try.func15, Try.ntmps15
    go_wp2_with (go_at_call 22; refine (PO.out _).mono ?_)
    rintro e w1 ⟨rfl, b1⟩
    have t1 := (T0.out.below b1).alloc (.map #[] 0)
    have c0 := t1.cell0
    have c1 := t1.cell1
    have c2 := t1.cell2
    obtain ⟨w2, hup, hm2, hg2⟩ := (MapI.new w1).update (by decide) HI.out (m := 1) (by decide)
    rw [HBI.out] at hup
    have UP : (Instr.mapUpdate 60 (.map (some w1.heap.size)) (.agg #[.int .i64 b.1, .bool b.2.1, .bool b.2.2]) (.int .i64 1)).run Try.prog (w1.alloc (.map #[] 0)) = .ok () w2 := hup
    have b2 : Below w1.heap.size w1 w2 := ((below_self w1).alloc (Nat.le_refl _) _).grown hg2 (by simp) (fun j hj => by cases hj; exact Nat.le_refl _)
    have BW := Lib.hid ((Q0.out.trans (b1.mono Q0.out.size)).trans (b2.mono (by have := b1.size; have := Q0.out.size; omega)))
    have M2 := Lib.hid ((hm2.congr fw_zero).mono (n' := 10) (by omega))
    clear t1 hup hm2 hg2 b2
    go_wp2_with fail
    go_loopw [5, 24] (fun t k wr => ∃ (j M : Nat), j ≤ m ∧ k = .int .i64 j ∧ t = .map (some M) ∧ Hid (MapI wr M 10 (fw i j)) ∧ Below w.heap.size w wr) (fun _ k _ => m - (intOf k).toNat)
    case atStart => exact ⟨0, w1.heap.size, by omega, rfl, rfl, M2.out, BW.out⟩
    case round =>
      obtain ⟨j, M, hj, rfl, rfl, HM, hbel⟩ := hrel
      by_cases hlt : j < m
      · have hlt' : (j : Int) < (m : Int) := by omega
        have OM := Lib.hid (fun (w : World) (h : MapI w M 10 (fw i j)) => oneMore w M 10 (fw i j) h (fw_bound HI.out (by omega)))
        go_wp2_with (go_at_call 47; refine (OM.out _ HM.out).mono ?_)
        rintro e w3 ⟨rfl, hm3, b3⟩
        have M3 := Lib.hid (hm3.congr (g := fw i (j + 1)) (fun x hx => (fw_succ hx).symm))
        clear hm3
        go_wp2_with fail
        go_roundw
        case rel => exact ⟨j + 1, _, by omega, by go_num, rfl, M3.out, hbel.trans (b3.mono hbel.size)⟩
        case measure => simp [intOf]; omega
      · obtain rfl : j = m := by omega
        obtain ⟨wo, rfl⟩ : ∃ X, X = wr := ⟨_, rfl⟩
        obtain ⟨D, hown, hD⟩ := HM.out
        have ht : decide ((j : Int) < (j : Int)) = false := by simp
        have TT := Lib.hid (show total (fw i j) = bkMany b j by rw [N.out]; exact total_is j hm i HI.out)
        have FS := Lib.hid (fw_bound HI.out hm)
        obtain ⟨f, hf⟩ : ∃ f, f = fw i j := ⟨_, rfl⟩
        rw [← hf] at hD TT FS
        clear HM hf
        have HD := Lib.hid hD
        clear hD
        go_wp2_with (first
          | (at_range; refine wpList_range_own _ rfl _ 60 rfl 25 3 keyed Try.underlying60 _ M 10 D rfl hown ?_; intro w0 hrg0 hg0 hs0)
          | fail)
        go_frame
        have R0 := Lib.hid hrg0
        have B0 := Lib.hid (hbel.grown hg0 hbel.size (fun j hj => by cases hj))
        have S0 := Lib.hid hs0
        clear hrg0 hg0 hs0 hown
        go_loopw [6, 8] (fun s _ wr => ∃ (left : Lit → Bool) (cnt : Nat), Hid (wr.ranges Try.prog 25 (plainElem Try.prog 3) M wo.heap.size 10 D left cnt) ∧ s = .int .i64 (totS f (doneB f left)) ∧ Hid (Below w.heap.size w wr)) (fun _ _ wr => wr.rangeLeft M wo.heap.size)
        case atStart => exact ⟨_, _, R0.out, by rw [totS_none (fun j hj => by unfold doneB; rw [HD.out.1 j hj]; simp)], B0.out⟩
        case round =>
          obtain ⟨left, cnt, RR, rfl, BB⟩ := hrel
          have hsm := totS_small FS.out (doneB f left)
          have TS := Lib.hid (fun (i : Nat) (c : Int) (hi : i < 5) (hl : left (kd i) = true) (hf : f i = some c) => (totS_congr (done_strike hi hf)).trans (totS_with hi (done_not hl) hf))
          have TE := Lib.hid (fun (hl : ∀ kl, left kl = false) => totS_all (f := f) (S := doneB f left) (fun j _ => by unfold doneB; rw [hl]; simp))
          obtain ⟨s, hs⟩ : ∃ s, s = totS f (doneB f left) := ⟨_, rfl⟩
          rw [← hs] at hsm TS TE ⊢
          obtain ⟨hsm0, hsm1⟩ := hsm
          clear hs
          go_wp2_with (first
            | (at_next; refine wpList_next_B rfl _ rfl M wo.heap.size 10 D left cnt f HD.out rfl RR.out ?_ ?_; rotate_left; intro i1 x c w1 cnt1 HX HR hen; rotate_left; intro hl0)
            | fail)
          · have E := Lib.hid (TE.out hl0)
            clear hl0
            go_wp2_with fail
            go_ret
            exact ⟨ret_int (E.out.trans TT.out), BB.out⟩
          · obtain ⟨hi5, hx, hlk, hfi, hwc⟩ := HX.out
            have hc := FS.out i1 hi5 c hfi
            obtain ⟨hc0, hc1⟩ := hc
            have E := Lib.hid (TS.out i1 c hi5 hlk hfi)
            clear hx hlk hfi hwc hi5
            go_wp2_with fail
            go_roundw
            case rel =>
              exact ⟨_, _, HR.out.1, by rw [E.out, show wrap64 (s + c) = s + c from (IntWalk.i64_left _).symm.trans (IntWalk.i64_in _ (by omega))], BB.out.grown HR.out.2.2.1 BB.out.size (fun j hj => by cases hj; exact hbel.size)⟩
            case measure =>
              rw [HR.out.1.left_eq, RR.out.left_eq]
              exact HR.out.2.1

end Go.Proofs.Ytedbfmmklmidjab
