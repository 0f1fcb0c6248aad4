/-
  First come first served, plainly: an order that the line has, each train ready no sooner than the one ahead of it; where the head is the run, none ends sooner. No walk.
-/
import Derived.Test.YtlcmkocbpnekhaaSgR
import Derived.Test.YtlcmkocbpnekhaaSgJ
namespace Go.Proofs.Ytlcmkocbpnekhaa
open Go.RowKit Go.Sort

theorem bt_fs {s : Sg} {n k : Nat} (h : k < n) : bt (fsT s n) k = if tkU s (fiA s k) (k - fiA s k) then 85 else 68 := by
  unfold fsT
  rw [bt_list]
  have : (fsTo s n)[k]? = some (fsL s k) := by simp [fsTo, h]
  rw [this]
  show ((fsL s k).toNat : Int) = _
  unfold fsL
  split <;> rfl
theorem upTo_fs {s : Sg} {n : Nat} (k : Nat) (h : k ≤ n) : upTo (fsT s n) k = fiA s k := by
  induction k with
  | zero => rfl
  | succ k ih =>
    rw [upTo, fiA, ih (by omega), bt_fs (by omega)]
    cases tkU s (fiA s k) (k - fiA s k)
    · rfl
    · rfl
theorem fs_ok (s : Sg) : OrdOk s.A.length s.B.length (fsT s (s.A.length + s.B.length)) := by
  have hr := fiA_range s (s.A.length + s.B.length) (Nat.le_refl _)
  have hl := fiA_le s (s.A.length + s.B.length)
  refine ⟨fun j hj => ?_, ?_, fsT_size _ _⟩
  · rw [fsT_size] at hj
    rw [bt_fs hj]
    cases tkU s (fiA s j) (j - fiA s j)
    · exact .inr rfl
    · exact .inl rfl
  · rw [fsT_size, upTo_fs _ (Nat.le_refl _)]
    omega
theorem fs_sgO {s : Sg} (h : sgB s = true) : sgO s (fsV s) = true := by
  rw [fsV_yes h]; exact sgO_yes h (ordB_yes (fs_ok s))
theorem fs_size {s : Sg} (h : sgB s = true) : (fsV s).size = s.A.length + s.B.length := by rw [fsV_yes h, fsT_size]
/-- When a train is ready that goes at a place of first come first served. -/
theorem rdy_fs {s : Sg} {n k : Nat} (h : k < n) : rdy s (fsT s n) k = if tkU s (fiA s k) (k - fiA s k) then s.A.getD (fiA s k) 0 else s.B.getD (k - fiA s k) 0 := by
  unfold rdy
  rw [bt_fs h, upTo_fs k (by omega)]
  cases tkU s (fiA s k) (k - fiA s k)
  · rfl
  · rfl
theorem tk_of {s : Sg} {i j : Nat} (h : tkU s i j = true) : j = s.B.length ∨ (i < s.A.length ∧ s.A.getD i 0 ≤ s.B.getD j 0) := of_decide_eq_true h
theorem tk_not {s : Sg} {i j : Nat} (h : tkU s i j = false) : ¬ (j = s.B.length ∨ (i < s.A.length ∧ s.A.getD i 0 ≤ s.B.getD j 0)) := of_decide_eq_false h
/-- Whoever is still waiting is ready no sooner. -/
theorem fs_least {s : Sg} {n k : Nat} (h : sgB s = true) (hn : n = s.A.length + s.B.length) (hk : k < n) :
    (∀ i, fiA s k ≤ i → i < s.A.length → rdy s (fsT s n) k ≤ s.A.getD i 0) ∧ ∀ j, k - fiA s k ≤ j → j < s.B.length → rdy s (fsT s n) k ≤ s.B.getD j 0 := by
  have o := sgB_of h
  have hA := (qB_of o.a).2
  have hB := (qB_of o.b).2
  have hr := fiA_range s k (by omega)
  have hl := fiA_le s k
  rw [rdy_fs hk]
  cases t : tkU s (fiA s k) (k - fiA s k)
  · have q := tk_not t
    rw [if_neg (by decide)]
    refine ⟨fun i hi hil => ?_, fun j hj hjl => hB.le hj hjl⟩
    have a := hA.le (i := fiA s k) (j := i) hi hil
    by_cases e : fiA s k < s.A.length
    · by_cases e2 : s.A.getD (fiA s k) 0 ≤ s.B.getD (k - fiA s k) 0
      · exact absurd (Or.inr ⟨e, e2⟩) q
      · omega
    · omega
  · have q := tk_of t
    rw [if_pos rfl]
    refine ⟨fun i hi hil => hA.le hi hil, fun j hj hjl => ?_⟩
    rcases q with q | ⟨q1, q2⟩
    · omega
    · have := hB.le (i := k - fiA s k) (j := j) hj hjl
      omega
theorem fs_rise {s : Sg} {n k : Nat} (h : sgB s = true) (hn : n = s.A.length + s.B.length) (hk : k + 1 < n) : rdy s (fsT s n) k ≤ rdy s (fsT s n) (k + 1) := by
  have hr := fiA_range s (k + 1) (by omega)
  have hl := fiA_le s (k + 1)
  have hl0 := fiA_le s k
  obtain ⟨h1, h2⟩ := fs_least h hn (k := k) (by omega)
  have step : fiA s k ≤ fiA s (k + 1) ∧ k - fiA s k ≤ k + 1 - fiA s (k + 1) := by
    simp only [fiA]; split <;> omega
  rw [rdy_fs (k := k + 1) hk]
  have ok := fs_ok s
  rw [← hn] at ok
  cases t : tkU s (fiA s (k + 1)) (k + 1 - fiA s (k + 1))
  · rw [if_neg (by decide)]
    have hb : bt (fsT s n) (k + 1) ≠ 85 := by rw [bt_fs hk, t]; decide
    have := ok.downAt (by rw [fsT_size]; exact hk) hb
    rw [upTo_fs _ (by omega)] at this
    exact h2 _ step.2 this
  · rw [if_pos rfl]
    have hb : bt (fsT s n) (k + 1) = 85 := by rw [bt_fs hk, t]; rfl
    have := ok.upAt (by rw [fsT_size]; exact hk) hb
    rw [upTo_fs _ (by omega)] at this
    exact h1 _ step.1 this
theorem stA_up {s : Sg} {S : ByteArray} (h : SgOk s) {j k : Nat} (hjk : j ≤ k) : stA s S j ≤ stA s S k := by
  induction k with
  | zero => obtain rfl : j = 0 := by omega
            exact Int.le_refl _
  | succ k ih =>
    rcases Nat.lt_or_ge j (k + 1) with q | q
    · have := ih (by omega)
      have g := (gap_range h S (k + 1)).1
      simp only [stA]; omega
    · obtain rfl : j = k + 1 := by omega
      exact Int.le_refl _
theorem nth_u (S : ByteArray) (n i : Nat) (h : i < upTo S n) : ∃ k, k < n ∧ bt S k = 85 ∧ upTo S k = i := by
  induction n with
  | zero => exact absurd h (Nat.not_lt_zero _)
  | succ n ih =>
    rcases Nat.lt_or_ge i (upTo S n) with q | q
    · obtain ⟨k, a, b⟩ := ih q; exact ⟨k, by omega, b⟩
    · by_cases e : bt S n = 85
      · rw [upTo_U e] at h; exact ⟨n, by omega, e, by omega⟩
      · rw [upTo_D e] at h; omega
theorem nth_d (S : ByteArray) (n i : Nat) (h : i < n - upTo S n) : ∃ k, k < n ∧ bt S k ≠ 85 ∧ k - upTo S k = i := by
  induction n with
  | zero => exact absurd h (Nat.not_lt_zero _)
  | succ n ih =>
    have hl := upTo_le S n
    rcases Nat.lt_or_ge i (n - upTo S n) with q | q
    · obtain ⟨k, a, b⟩ := ih q; exact ⟨k, by omega, b⟩
    · by_cases e : bt S n = 85
      · rw [upTo_U e] at h; omega
      · rw [upTo_D e] at h; exact ⟨n, by omega, e, by omega⟩
/-- In any order one of the first k + 1 trains is ready no sooner than the one at place k of first come first served. -/
theorem fs_under {s : Sg} {S : ByteArray} {n k : Nat} (h : sgO s S = true) (hn : n = s.A.length + s.B.length) (hk : k < n) : rdy s (fsT s n) k ≤ stA s S k := by
  obtain ⟨o1, o2⟩ := sgO_of h
  have hs := sgB_yes o1
  obtain ⟨h1, h2⟩ := fs_least hs hn hk
  have hsz : S.size = n := by rw [o2.size, hn]
  have l1 := fiA_le s k
  have l2 := upTo_le S (k + 1)
  have hu := upTo_mono S (j := k + 1) (k := S.size) (by omega)
  have hd := downTo_mono S (j := k + 1) (k := S.size) (by omega)
  rw [o2.ups] at hu hd
  have hfin : ∀ j, j < k + 1 → rdy s (fsT s n) k ≤ rdy s S j → rdy s (fsT s n) k ≤ stA s S k := by
    intro j hj hle
    have a := (stA_range h (k := j) (by omega)).1
    have b := stA_up (S := S) o1 (j := j) (k := k) (by omega)
    omega
  rcases Nat.lt_or_ge (fiA s k) (upTo S (k + 1)) with q | q
  · obtain ⟨j, hj, e, u⟩ := nth_u S (k + 1) (fiA s k) q
    refine hfin j hj ?_
    rw [rdy_U e, u]
    exact h1 _ (Nat.le_refl _) (by omega)
  · obtain ⟨j, hj, e, u⟩ := nth_d S (k + 1) (k - fiA s k) (by omega)
    refine hfin j hj ?_
    rw [rdy_D e, u]
    exact h2 _ (Nat.le_refl _) (by omega)
/-- Where the head is the run, first come first served starts no train later than any order does at its place. -/
theorem fs_starts {s : Sg} {S : ByteArray} {n : Nat} (h : sgO s S = true) (hr : s.head = s.run) (hn : n = s.A.length + s.B.length) (k : Nat) (hk : k < n) : stA s (fsT s n) k ≤ stA s S k := by
  induction k with
  | zero => exact fs_under h hn hk
  | succ k ih =>
    have a := ih (by omega)
    have b := fs_under h hn hk
    have g1 : gap s (fsT s n) (k + 1) = s.run := by unfold gap; split <;> simp [hr]
    have g2 : gap s S (k + 1) = s.run := by unfold gap; split <;> simp [hr]
    simp only [stA] at b ⊢
    rw [g1]; rw [g2] at b ⊢
    omega
theorem fs_soon {s : Sg} (h : sgB s = true) (hr : s.head = s.run) : endV s (fsV s) = soonV s := by
  obtain ⟨g0, g1, o, ho, e⟩ := soon_le (fs_sgO h)
  refine Int.le_antisymm ?_ g1
  rw [← e]
  have z1 := fs_size h
  have z2 := (sgO_of ho).2.size
  obtain ⟨n, hn⟩ : ∃ n, n = s.A.length + s.B.length := ⟨_, rfl⟩
  rw [← hn] at z1 z2
  rcases n with _ | n
  · rw [endV_nil (fs_sgO h) z1, endV_nil ho z2]
    exact Int.le_refl _
  · rw [endV_yes (fs_sgO h) z1, endV_yes ho z2]
    have := fs_starts ho hr hn n (by omega)
    rw [fsV_yes h, ← hn]
    omega
/-- The line with the run as its head is a line, too, with the same orders. -/
theorem slow_ok {s : Sg} (h : sgB s = true) : sgB ⟨s.A, s.B, s.run, s.run⟩ = true ∧ fsV ⟨s.A, s.B, s.run, s.run⟩ = fsV s := by
  obtain ⟨a, b, r1, r2, h1, h2⟩ := sgB_of h
  have k : sgB ⟨s.A, s.B, s.run, s.run⟩ = true := sgB_yes ⟨a, b, r1, r2, r1, Int.le_refl _⟩
  refine ⟨k, ?_⟩
  rw [fsV_yes k, fsV_yes h]
  have hf : ∀ k, fiA ⟨s.A, s.B, s.run, s.run⟩ k = fiA s k := by
    intro k
    induction k with
    | zero => rfl
    | succ k ih => simp only [fiA, ih]; rfl
  unfold fsT fsTo
  congr 2
  apply List.map_congr_left
  intro k _
  unfold fsL
  rw [hf]; rfl
theorem slow_soon {s : Sg} (h : sgB s = true) : endV ⟨s.A, s.B, s.run, s.run⟩ (fsV s) = soonV ⟨s.A, s.B, s.run, s.run⟩ := by
  obtain ⟨k, e⟩ := slow_ok h
  rw [← e]; exact fs_soon k rfl

end Go.Proofs.Ytlcmkocbpnekhaa
