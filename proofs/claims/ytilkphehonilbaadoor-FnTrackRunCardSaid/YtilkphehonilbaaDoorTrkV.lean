/-
  How often the last circuit becomes free: the model's TrackPassed. For lists of at most 1048576 texts of at most 1048576 bytes each.
-/
import Derived.Test.YtilkphehonilbaaDoorTrkZ
namespace Go.Proofs.YtilkphehonilbaaDoor
open Go.RowKit Go.Sort

/-- Becomes the last circuit free with step i? -/
def psB (xs : List ByteArray) (i : Nat) : Bool := (oc (xs.getD i ⟨#[]⟩)).testBit ((xs.getD 0 ⟨#[]⟩).size - 1) && !(oc (xs.getD (i + 1) ⟨#[]⟩)).testBit ((xs.getD 0 ⟨#[]⟩).size - 1)
def psTo (xs : List ByteArray) : Nat → Int
  | 0 => 0
  | k + 1 => psTo xs k + (if psB xs k then 1 else 0)
def psV (xs : List ByteArray) : Int := if walkB xs then psTo xs (xs.length - 1) else -1
theorem psTo_range (xs : List ByteArray) : ∀ k : Nat, 0 ≤ psTo xs k ∧ psTo xs k ≤ (k : Int) := by
  intro k
  induction k with
  | zero => simp [psTo]
  | succ k ih => simp only [psTo]; split <;> omega
theorem wk_all {xs : List ByteArray} : ∀ n, wkTo xs n = true → ∀ i, i < n → wkOk xs i = true := by
  intro n
  induction n with
  | zero => intro _ i hi; omega
  | succ n ih =>
    intro h i hi
    simp only [wkTo, Bool.and_eq_true] at h
    by_cases e : i = n
    · rw [e]; exact h.2
    · exact ih h.1 i (by omega)
theorem walk_sizes {xs : List ByteArray} (h : walkB xs = true) : 0 < xs.length ∧ ∀ i, i < xs.length → trB (xs.getD i ⟨#[]⟩) = true ∧ (xs.getD i ⟨#[]⟩).size = (xs.getD 0 ⟨#[]⟩).size := by
  unfold walkB at h
  simp only [Bool.and_eq_true, decide_eq_true_eq] at h
  have hv : ∀ i, i < xs.length → trB (xs.getD i ⟨#[]⟩) = true := fun i hi => by
    have := wk_all _ h.1 i hi
    simp only [wkOk, Bool.and_eq_true] at this
    exact this.1
  refine ⟨h.2, fun i => ?_⟩
  induction i with
  | zero => intro hi; exact ⟨hv 0 hi, rfl⟩
  | succ i ih =>
    intro hi
    refine ⟨hv _ hi, ?_⟩
    have hi0 := ih (by omega)
    have := wk_all _ h.1 (i + 1) hi
    simp only [wkOk, Bool.and_eq_true, Bool.or_eq_true, decide_eq_true_eq] at this
    have h2 := this.2
    rcases h2 with h2 | h2
    · omega
    · rw [Nat.add_sub_cancel, isB_is hi0.1 (hv _ hi), Bool.and_eq_true, decide_eq_true_eq] at h2
      omega

set_option maxHeartbeats 4000000 in
theorem specPassed {w : World} {base : Nat} {v : Value} {xs : List ByteArray} (h : OwnS w base v xs) (hl : xs.length ≤ 1048576) (hz : ∀ i, i < xs.length → (xs.getD i ⟨#[]⟩).size ≤ 1048576) :
    Calls Tryd.prog 26 #[v] w fun e w' => e = .returned (.int .i64 (psV xs)) ∧ Below w.heap.size w w' := by
  have hli : (xs.length : Int) ≤ 1048576 := by omega
  have SW := specWalk h hl hz
  obtain ⟨a, cap, rfl, hcap, hc⟩ := h.cells
  have HC := Lib.hid hc
  obtain ⟨t, ht⟩ : ∃ t, t = walkB xs := ⟨_, rfl⟩
  rw [← ht] at SW
  have SW := Lib.hid SW
  clear h hc hz
  cases t with
  | false =>
    have E := Lib.hid (show psV xs = -1 by unfold psV; rw [← ht]; rfl)
    clear ht
    go_enter Tryd.func26, Tryd.ntmps26
    go_wp2_with (go_at_call 11; refine SW.out.mono ?_; rintro e w1 ⟨rfl, b1⟩)
    go_ret
    exact ⟨by rw [E.out]; rfl, b1⟩
  | true =>
    have E := Lib.hid (show psV xs = psTo xs (xs.length - 1) by unfold psV; rw [← ht]; rfl)
    obtain ⟨hpos, hall⟩ := walk_sizes ht.symm
    have ALL := Lib.hid hall
    obtain ⟨g, rfl, hg0, hg, hcell⟩ : ∃ g, a = some ⟨g, 0, none⟩ ∧ base ≤ g ∧ g < w.heap.size ∧ ∀ i, i < xs.length → w.cell? ⟨g, i, none⟩ = some (.string (xs.getD i ⟨#[]⟩)) := by
      rcases HC.out with h | h
      · rw [h] at hpos; simp at hpos
      · exact h
    have CE := Lib.hid hcell
    obtain ⟨A, hA⟩ : ∃ A, A = xs.getD 0 ⟨#[]⟩ := ⟨_, rfl⟩
    have hA8 := (trB_of (hall 0 hpos).1).1
    rw [← hA] at hA8
    have HA := Lib.hid hA
    obtain ⟨l, hlA⟩ : ∃ l, A.size = l + 1 := ⟨A.size - 1, by omega⟩
    have hw : IntKind.i64.wrap ((A.size : Int) - 1) = (l : Int) := by rw [IntWalk.i64_in _ (by omega)]; omega
    have HL := Lib.hid hlA
    have hl7 : l ≤ 7 := by omega
    have hpi : (0 : Int) < (xs.length : Int) := by omega
    clear ht hall hcell hA hlA hA8
    go_enter Tryd.func26, Tryd.ntmps26
    go_wp2_with (go_at_call 11; refine SW.out.mono ?_; rintro e w1 ⟨rfl, b1⟩; have c0 := (b1.cell (p := ⟨g, 0, none⟩) hg).trans (CE.out 0 hpos); rw [← HA.out] at c0)
    have B1 := Lib.hid b1
    clear b1 c0 hw
    go_loopw [3, 5] (fun s i wr => ∃ k : Nat, 1 ≤ k ∧ k ≤ xs.length ∧ i = .int .i64 k ∧ s = .int .i64 (psTo xs (k - 1)) ∧ wr = w1) (fun _ i _ => xs.length - (intOf i).toNat)
    case atStart => exact ⟨1, by omega, by omega, rfl, rfl, rfl⟩
    case round =>
      obtain ⟨k, hk1, hk, rfl, rfl, rfl⟩ := hrel
      by_cases hlt : k < xs.length
      · have hki : (k : Int) < (xs.length : Int) := by omega
        obtain ⟨j, hj⟩ : ∃ j, k = j + 1 := ⟨k - 1, by omega⟩
        have hjl : j < xs.length := by omega
        have hji : (j : Int) < (xs.length : Int) := by omega
        have hw1 : IntKind.i64.wrap ((k : Int) - 1) = (j : Int) := by rw [IntWalk.i64_in _ (by omega)]; omega
        obtain ⟨S, hS⟩ : ∃ S, S = xs.getD j ⟨#[]⟩ := ⟨_, rfl⟩
        obtain ⟨T, hT⟩ : ∃ T, T = xs.getD k ⟨#[]⟩ := ⟨_, rfl⟩
        have c1 := (B1.out.cell (p := ⟨g, j, none⟩) hg).trans (CE.out j hjl)
        have c2 := (B1.out.cell (p := ⟨g, k, none⟩) hg).trans (CE.out k hlt)
        obtain ⟨s1, s2⟩ := ALL.out j hjl
        obtain ⟨t1, t2⟩ := ALL.out k hlt
        rw [← hS] at c1 s1 s2
        rw [← hT] at c2 t1 t2
        rw [← HA.out] at s2 t2
        have hlS : l < S.size := by have := HL.out; omega
        have hlT : l < T.size := by have := HL.out; omega
        have iS := index_is hlS
        have iT := index_is hlT
        have bS := oc_at s1 hlS
        have bT := oc_at t1 hlT
        have NX := Lib.hid (show psTo xs (k - 1 + 1) = psTo xs (k - 1) + (if ((oc S).testBit l && !(oc T).testBit l) = true then 1 else 0) by
          have e : psB xs (k - 1) = ((oc S).testBit l && !(oc T).testBit l) := by
            unfold psB
            rw [show k - 1 = j by omega, show j + 1 = k by omega, ← hS, ← hT, ← HA.out, HL.out, Nat.add_sub_cancel]
          rw [← e]
          rfl)
        have hr := psTo_range xs (k - 1)
        obtain ⟨n, hn⟩ : ∃ n, n = psTo xs (k - 1) := ⟨_, rfl⟩
        rw [← hn] at NX hr
        rw [← hn]
        have hwn : IntKind.i64.wrap (n + 1) = n + 1 := IntWalk.i64_in _ (by omega)
        have hkk : k + 1 - 1 = k - 1 + 1 := by omega
        have HKK := Lib.hid hkk
        obtain ⟨x, hx⟩ : ∃ x, x = bt S l := ⟨_, rfl⟩
        obtain ⟨y, hy⟩ : ∃ y, y = bt T l := ⟨_, rfl⟩
        rw [← hx] at iS bS
        rw [← hy] at iT bT
        obtain ⟨p, hp⟩ : ∃ p, p = (oc S).testBit l := ⟨_, rfl⟩
        obtain ⟨q, hq⟩ : ∃ q, q = (oc T).testBit l := ⟨_, rfl⟩
        rw [← hp] at bS NX
        rw [← hq] at bT NX
        have e1 : (x == 49) = p := by rw [bS]; cases p <;> rfl
        have e2 : (y == 48) = !q := by rw [bT]; cases q <;> rfl
        clear hS hT s1 s2 t1 t2 hlS hlT bS bT hn hkk hx hy hp hq hj hlt
        cases p with
        | false =>
          go_wp2_with fail
          go_roundw
          case rel => exact ⟨k + 1, by omega, by omega, by go_num, by rw [HKK.out, NX.out]; simp, by first | rfl | trivial⟩
          case measure => simp [intOf]; omega
        | true =>
          cases q with
          | true =>
            go_wp2_with fail
            go_roundw
            case rel => exact ⟨k + 1, by omega, by omega, by go_num, by rw [HKK.out, NX.out]; simp, by first | rfl | trivial⟩
            case measure => simp [intOf]; omega
          | false =>
            go_wp2_with fail
            go_roundw
            case rel => exact ⟨k + 1, by omega, by omega, by go_num, by rw [HKK.out, NX.out]; simp, by first | rfl | trivial⟩
            case measure => simp [intOf]; omega
      · obtain rfl : k = xs.length := by omega
        clear hlt
        go_wp2_with fail
        go_ret
        exact ⟨by rw [E.out]; rfl, B1.out⟩

end Go.Proofs.YtilkphehonilbaaDoor
