/-
  Trains of registers, plainly: their minutes, their sum, their number; the same ones later; the laws' sum. For registers; the walk for lists of at most 30 numbers.
-/
import Derived.Test.YtphadofigcipcaaRegL
import Derived.Test.YtphadofigcipcaaBlockT
import Derived.Test.YtphadofigcipcaaRegR
namespace Go.Proofs.Ytphadofigcipcaa
open Go.RowKit

def sumI (xs : List Int) : Nat → Int
  | 0 => 0
  | k + 1 => sumI xs k + xs.getD k 0
theorem sumI_range {xs : List Int} {k : Nat} (h : ∀ i, i < k → 0 ≤ xs.getD i 0 ∧ xs.getD i 0 ≤ 3200) : 0 ≤ sumI xs k ∧ sumI xs k ≤ 3200 * (k : Int) := by
  induction k with
  | zero => simp [sumI]
  | succ k ih =>
    have h1 := ih (fun i hi => h i (by omega))
    have h2 := h k (by omega)
    simp only [sumI]
    omega

theorem sumI_front (xs ys : List Int) : ∀ k, k ≤ xs.length → sumI (xs ++ ys) k = sumI xs k
  | 0, _ => rfl
  | k + 1, h => by
    simp only [sumI]
    rw [sumI_front xs ys k (by omega)]
    congr 1
    rw [List.getD_eq_getElem?_getD, List.getElem?_append_left (by omega), ← List.getD_eq_getElem?_getD]
theorem sumI_snoc (xs : List Int) (x : Int) : sumI (xs ++ [x]) (xs ++ [x]).length = sumI xs xs.length + x := by
  rw [List.length_append, List.length_singleton]
  simp only [sumI]
  rw [sumI_front xs [x] xs.length (Nat.le_refl _)]
  congr 1
  simp
theorem trT_mem {ns : List Mv} (h : regB ns = true) : ∀ k, k ≤ ns.length → ∀ x ∈ trT ns k, 0 ≤ x ∧ x ≤ 2000
  | 0, _ => fun x hx => by simp [trT] at hx
  | 1, _ => fun x hx => by simp [trT] at hx
  | k + 2, hk => fun x hx => by
    by_cases e : (ns.getD (k + 1) noMv).2 = ltS 4
    · rw [trT_yes e, List.mem_append] at hx
      rcases hx with hx | hx
      · exact trT_mem h (k + 1) (by omega) x hx
      · rw [List.mem_singleton.1 hx]
        have := reg_pair h (i := k) (j := k + 1) (by omega) (by omega)
        have := reg_note h (i := k) (by omega)
        have := reg_note h (i := k + 1) (by omega)
        omega
    · rw [trT_no e] at hx
      exact trT_mem h (k + 1) (by omega) x hx
theorem trT_sum {ns : List Mv} (h : regB ns = true) : ∀ k, k + 1 ≤ ns.length → sumI (trT ns (k + 1)) (trT ns (k + 1)).length ≤ (ns.getD k noMv).1 - (ns.getD 0 noMv).1
  | 0, _ => by simp [trT, sumI]
  | k + 1, hk => by
    have ih := trT_sum h k (by omega)
    have := reg_pair h (i := k) (j := k + 1) (by omega) (by omega)
    by_cases e : (ns.getD (k + 1) noMv).2 = ltS 4
    · rw [trT_yes e, sumI_snoc]; omega
    · rw [trT_no e]; omega
theorem bt_is_l {ns : List Mv} (h : regB ns = true) {i : Nat} (hi : i < ns.length) : bt (nTx ns) i = 108 ↔ (ns.getD i noMv).2 = ltS 4 := by
  have e4 : evB (ltS 4) = true := evB_yes (k := 4) (by omega) rfl
  rw [evB_bt (reg_note h hi).2.2 e4, ← reg_bt h hi, ltr_bt]
  exact Iff.rfl
theorem trT_count {ns : List Mv} (h : soundB ns = true) : ∀ k, k ≤ ns.length → ((trT ns k).length : Int) = cntTo (nTx ns) 108 k
  | 0, _ => rfl
  | 1, hk => by
    have h0 := sound_l0 h (by omega)
    rw [cntTo_no (fun q => h0 ((bt_is_l (sound_is h).1 (by omega)).1 q))]
    rfl
  | k + 2, hk => by
    have ih := trT_count h (k + 1) (by omega)
    by_cases e : (ns.getD (k + 1) noMv).2 = ltS 4
    · rw [trT_yes e, cntTo_yes ((bt_is_l (sound_is h).1 (by omega)).2 e), List.length_append, List.length_singleton]
      omega
    · rw [trT_no e, cntTo_no (fun q => e ((bt_is_l (sound_is h).1 (by omega)).1 q))]
      exact ih
theorem latL_in {ns : List Mv} {k : Int} (h : regB ns = true) (hk : -2000 ≤ k ∧ k ≤ 2000) {i : Nat} (hi : i < ns.length) : (latL ns k).getD i noMv = ((ns.getD i noMv).1 + k, (ns.getD i noMv).2) := by
  rw [latL_get hi, IntWalk.wrap64_in _ (by have := reg_note h hi; omega)]
theorem latL_trT {ns : List Mv} {k : Int} (h : regB ns = true) (hk : -2000 ≤ k ∧ k ≤ 2000) : ∀ j, j ≤ ns.length → trT (latL ns k) j = trT ns j
  | 0, _ => rfl
  | 1, _ => rfl
  | j + 2, hj => by
    have ih := latL_trT h hk (j + 1) (by omega)
    have e1 := latL_in h hk (i := j) (by omega)
    have e2 := latL_in h hk (i := j + 1) (by omega)
    simp only [trT]
    rw [ih, e1, e2]
    simp only
    have e3 : (ns.getD (j + 1) noMv).1 + k - ((ns.getD j noMv).1 + k) = (ns.getD (j + 1) noMv).1 - (ns.getD j noMv).1 := by omega
    rw [e3]
theorem latL_ntx {ns : List Mv} {k : Int} : ∀ j, j ≤ ns.length → ntx (latL ns k) j = ntx ns j
  | 0, _ => rfl
  | j + 1, hj => by
    simp only [ntx]
    rw [latL_ntx j (by omega), latL_get (by omega)]
theorem latL_nTx (ns : List Mv) (k : Int) : nTx (latL ns k) = nTx ns := by
  unfold nTx; rw [latL_length]; exact latL_ntx _ (Nat.le_refl _)
theorem lat_facts {ns : List Mv} {k : Int} (h : latB ns k = true) : regB ns = true ∧ regB (latL ns k) = true ∧ latV ns k = latL ns k := by
  unfold latB at h
  rw [Bool.and_eq_true] at h
  exact ⟨h.1, h.2, by unfold latV; rw [h.1, if_pos rfl, regL_yes h.2]⟩
theorem lat_trL {ns : List Mv} {k : Int} (hs : soundB ns = true) (h : latB ns k = true) (hk : -2000 ≤ k ∧ k ≤ 2000) : trL (latV ns k) = trL ns := by
  obtain ⟨h1, h2, h3⟩ := lat_facts h
  have h4 : soundB (latL ns k) = true := by unfold soundB; rw [h2, latL_nTx, (sound_is hs).2]; rfl
  rw [h3]
  unfold trL
  rw [h4, hs, if_pos rfl, if_pos rfl, latL_length]
  exact latL_trT h1 hk _ (Nat.le_refl _)
theorem trL_facts {ns : List Mv} (h : trL ns ≠ []) : soundB ns = true ∧ 0 < ns.length ∧ ns.length ≤ 30 ∧ (trL ns).length ≤ 30 ∧ (∀ i, i < (trL ns).length → 0 ≤ (trL ns).getD i 0 ∧ (trL ns).getD i 0 ≤ 3200) ∧ sumI (trL ns) (trL ns).length ≤ (ns.getD (ns.length - 1) noMv).1 - (ns.getD 0 noMv).1 ∧ ((trL ns).length : Int) = cntTo (nTx ns) 108 (nTx ns).size := by
  have hs : soundB ns = true := by
    cases q : soundB ns
    · exact absurd (by unfold trL; rw [q]; rfl) h
    · rfl
  have hr := (sound_is hs).1
  have e : trL ns = trT ns ns.length := by unfold trL; rw [hs, if_pos rfl]
  have hl := trT_length ns ns.length
  have h30 := (regB_is hr).1
  have hp : 0 < ns.length := by
    rcases Nat.eq_zero_or_pos ns.length with q | q
    · rw [e, q] at h; exact absurd rfl h
    · exact q
  rw [e]
  refine ⟨hs, hp, h30, by omega, fun i hi => ?_, ?_, ?_⟩
  · have hm : (trT ns ns.length).getD i 0 ∈ trT ns ns.length := by
      rw [List.getD_eq_getElem?_getD, List.getElem?_eq_getElem hi]; exact List.getElem_mem hi
    have := trT_mem hr ns.length (Nat.le_refl _) _ hm
    omega
  · obtain ⟨n, hn⟩ : ∃ n, ns.length = n + 1 := ⟨ns.length - 1, by omega⟩
    have := trT_sum hr n (by omega)
    rw [hn]
    simpa using this
  · rw [nTx_size hr]; exact trT_count hs _ (Nat.le_refl _)

set_option maxHeartbeats 1000000 in
theorem lawSum {w : World} {v : Value} {xs : List Int} (h : Ints w v xs) (hl : xs.length ≤ 30) (hr : ∀ i, i < xs.length → 0 ≤ xs.getD i 0 ∧ xs.getD i 0 ≤ 3200) :
    Calls Try.prog 30 #[v] w fun e w' => e = .returned (.int .i64 (sumI xs xs.length)) ∧ w = w' := by
  obtain ⟨a, cap, rfl, -, hc⟩ := h
  have hl' : (xs.length : Int) ≤ 30 := by omega
  have RG := Lib.hid (fun (k : Nat) (hk : k ≤ xs.length) => sumI_range (xs := xs) (k := k) (fun i hi => hr i (by omega)))
  rcases hc with rfl | ⟨b, o, rfl, hb, hcell⟩
  · clear hr RG
    go_enter Try.func30, Try.ntmps30
    go_wp2_with fail
    refine wp_loop_rounds 1 ?_
    rw [rounds_succ]
    go_wp2_with fail
    go_ret
    exact ⟨rfl, rfl⟩
  have HC := Lib.hid hcell
  have HR := Lib.hid hr
  clear hcell hr
  go_enter Try.func30, Try.ntmps30
  go_wp2_with fail
  go_loop [3, 4] (fun n i => ∃ k : Nat, k ≤ xs.length ∧ i = .int .i64 (k : Int) ∧ n = .int .i64 (sumI xs k)) (fun _ i => xs.length - (intOf i).toNat)
  case atStart => exact ⟨0, by omega, rfl, rfl⟩
  case round =>
    obtain ⟨k, hk, rfl, rfl⟩ := hrel
    by_cases hlt : k < xs.length
    · have e1 := HC.out k hlt
      have r1 := RG.out k hk
      have r2 := HR.out k hlt
      have E : sumI xs (k + 1) = sumI xs k + xs.getD k 0 := rfl
      obtain ⟨x, hx⟩ : ∃ x, x = xs.getD k 0 := ⟨_, rfl⟩
      obtain ⟨y, hy⟩ : ∃ y, y = sumI xs k := ⟨_, rfl⟩
      rw [← hx] at e1 r2 E
      rw [← hy] at r1 E ⊢
      have E := Lib.hid E
      obtain ⟨r1, r1'⟩ := r1
      obtain ⟨r2, r2'⟩ := r2
      have hkx : (k : Int) < (xs.length : Int) := by omega
      have hy2 : y ≤ 96000 := by omega
      clear hx hy r1'
      go_wp2_with fail
      go_round
      case rel => exact ⟨k + 1, by omega, by go_num, by rw [E.out]⟩
      case measure => simp [intOf]; omega
    · obtain rfl : k = xs.length := by omega
      go_wp2_with fail
      go_ret
      exact ⟨rfl, rfl⟩

end Go.Proofs.Ytphadofigcipcaa
