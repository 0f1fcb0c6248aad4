/-
  A single line with both ends exchanged, and one with later trains, plainly: orders wait and end as before. No walk.
-/
import Derived.Test.YtlcmkocbpnekhaaGreatDoorSgR
namespace Go.Proofs.YtlcmkocbpnekhaaGreatDoor
open Go.RowKit Go.Sort

def sx (b : UInt8) : UInt8 := if b = 85 then 68 else if b = 68 then 85 else b
def sxB (c : Int) : Int := if c = 85 then 68 else if c = 68 then 85 else c
/-- An order seen from the other side. -/
def swO (S : ByteArray) : ByteArray := ⟨(S.data.toList.map sx).toArray⟩
theorem swO_size (S : ByteArray) : (swO S).size = S.size := by
  show (S.data.toList.map sx).toArray.size = S.data.size
  rw [List.size_toArray, List.length_map, Array.length_toList]
theorem sx_nat (b : UInt8) : ((sx b).toNat : Int) = sxB (b.toNat : Int) := by
  unfold sx sxB
  by_cases h1 : b = 85
  · subst h1; rfl
  · by_cases h2 : b = 68
    · subst h2; rfl
    · have n1 : ¬ ((b.toNat : Int) = 85) := fun e => h1 (UInt8.toNat_inj.1 (by rw [show (85 : UInt8).toNat = 85 from rfl]; omega))
      have n2 : ¬ ((b.toNat : Int) = 68) := fun e => h2 (UInt8.toNat_inj.1 (by rw [show (68 : UInt8).toNat = 68 from rfl]; omega))
      rw [if_neg h1, if_neg h2, if_neg n1, if_neg n2]
theorem bt_sw {S : ByteArray} {k : Nat} (h : k < S.size) : bt (swO S) k = sxB (bt S k) := by
  have hl : k < S.data.toList.length := by rw [Array.length_toList]; exact h
  have e : S = ⟨S.data.toList.toArray⟩ := by apply ByteArray.ext; simp
  have e2 : bt S k = ((S.data.toList[k]?.getD 0).toNat : Int) := by conv => lhs; rw [e, bt_list]
  unfold swO
  rw [bt_list, e2, List.getElem?_map, List.getElem?_eq_getElem hl]
  exact sx_nat _
theorem sx_twice (b : UInt8) : sx (sx b) = b := by
  unfold sx
  by_cases h1 : b = 85
  · subst h1; rfl
  · by_cases h2 : b = 68
    · subst h2; rfl
    · rw [if_neg h1, if_neg h2, if_neg h1, if_neg h2]
theorem swO_twice (S : ByteArray) : swO (swO S) = S := by
  unfold swO
  apply ByteArray.ext
  apply Array.toList_inj.1
  simp [sx_twice, Function.comp_def]
def tuG (s : Sg) : Sg := ⟨s.B, s.A, s.run, s.head⟩
theorem tuG_ok {s : Sg} (h : sgB s = true) : sgB (tuG s) = true := by
  obtain ⟨a, b, r1, r2, h1, h2⟩ := sgB_of h
  exact sgB_yes ⟨b, a, r1, r2, h1, h2⟩
theorem upTo_sw {S : ByteArray} (h : ∀ j, j < S.size → bt S j = 85 ∨ bt S j = 68) : ∀ k, k ≤ S.size → upTo (swO S) k = k - upTo S k
  | 0, _ => rfl
  | k + 1, hk => by
    have l := upTo_le S k
    rw [upTo, upTo_sw h k (by omega), bt_sw (by omega)]
    rcases h k (by omega) with e | e
    · rw [upTo_U e, e, if_neg (by decide)]; omega
    · rw [upTo_D (by rw [e]; decide), e, if_pos (by decide)]; omega
theorem OrdOk.sw {u d : Nat} {S : ByteArray} (h : OrdOk u d S) : OrdOk d u (swO S) := by
  have l := h.size
  refine ⟨fun j hj => ?_, ?_, ?_⟩
  · rw [swO_size] at hj
    rw [bt_sw hj]
    rcases h.only j hj with e | e
    · exact .inr (by rw [e]; rfl)
    · exact .inl (by rw [e]; rfl)
  · rw [swO_size, upTo_sw h.only _ (Nat.le_refl _), h.ups]; omega
  · rw [swO_size]; omega
theorem tuG_sgO {s : Sg} {S : ByteArray} (h : sgO s S = true) : sgO (tuG s) (swO S) = true := by
  obtain ⟨h1, h2⟩ := sgO_of h
  exact sgO_yes (tuG_ok (sgB_yes h1)) (ordB_yes h2.sw)
theorem tuG_rdy {s : Sg} {S : ByteArray} (h : sgO s S = true) {k : Nat} (hk : k < S.size) : rdy (tuG s) (swO S) k = rdy s S k := by
  obtain ⟨-, h2⟩ := sgO_of h
  have l := upTo_le S k
  rcases h2.only k hk with e | e
  · rw [rdy_U e, rdy_D (by rw [bt_sw hk, e]; decide), upTo_sw h2.only k (by omega)]
    have : k - (k - upTo S k) = upTo S k := by omega
    rw [this]; rfl
  · rw [rdy_U (s := tuG s) (S := swO S) (by rw [bt_sw hk, e]; rfl), rdy_D (s := s) (S := S) (by rw [e]; decide), upTo_sw h2.only k (by omega)]
    rfl
theorem tuG_gap {s : Sg} {S : ByteArray} (h : sgO s S = true) {k : Nat} (hk : k < S.size) : gap (tuG s) (swO S) k = gap s S k := by
  obtain ⟨-, h2⟩ := sgO_of h
  unfold gap
  rw [bt_sw hk, bt_sw (by omega : k - 1 < S.size)]
  rcases h2.only k hk with e | e <;> rcases h2.only (k - 1) (by omega) with f | f <;> rw [e, f] <;> rfl
theorem tuG_stA {s : Sg} {S : ByteArray} (h : sgO s S = true) : ∀ k, k < S.size → stA (tuG s) (swO S) k = stA s S k
  | 0, hk => by simp only [stA]; exact tuG_rdy h hk
  | k + 1, hk => by simp only [stA]; rw [tuG_rdy h hk, tuG_gap h hk, tuG_stA h k (by omega)]
theorem tuG_wtTo {s : Sg} {S : ByteArray} (h : sgO s S = true) : ∀ k, k ≤ S.size → wtTo (tuG s) (swO S) k = wtTo s S k
  | 0, _ => rfl
  | k + 1, hk => by simp only [wtTo]; rw [tuG_rdy h (by omega), tuG_stA h k (by omega), tuG_wtTo h k (by omega)]
theorem tuG_wait {s : Sg} {S : ByteArray} (h : sgO s S = true) : waitV (tuG s) (swO S) = waitV s S := by
  rw [waitV_yes h, waitV_yes (tuG_sgO h), swO_size]; exact tuG_wtTo h _ (Nat.le_refl _)
theorem tuG_end {s : Sg} {S : ByteArray} (h : sgO s S = true) : endV (tuG s) (swO S) = endV s S := by
  obtain ⟨n, hn⟩ : ∃ n, n = S.size := ⟨_, rfl⟩
  rcases n with _ | n
  · rw [endV_nil h hn.symm, endV_nil (tuG_sgO h) (by rw [swO_size]; exact hn.symm)]
  · rw [endV_yes h hn.symm, endV_yes (tuG_sgO h) (by rw [swO_size]; exact hn.symm), tuG_stA h n (by omega)]; rfl
theorem tuG_best {s : Sg} (h : sgB s = true) : waitV (tuG s) (bestV (tuG s)) = waitV s (bestV s) := by
  obtain ⟨o, ho⟩ := sg_has h
  obtain ⟨p, hp⟩ := sg_has (tuG_ok h)
  obtain ⟨-, -, b1⟩ := best_le ho
  obtain ⟨-, -, b2⟩ := best_le hp
  have q1 := (best_le (tuG_sgO b1)).2.1
  have q2 := (best_le (tuG_sgO b2)).2.1
  rw [tuG_wait b1] at q1
  rw [tuG_wait b2] at q2
  exact Int.le_antisymm q1 q2
theorem tuG_soon {s : Sg} (h : sgB s = true) : soonV (tuG s) = soonV s := by
  obtain ⟨o, ho⟩ := sg_has h
  obtain ⟨p, hp⟩ := sg_has (tuG_ok h)
  obtain ⟨-, -, x, hx, e1⟩ := soon_le ho
  obtain ⟨-, -, y, hy, e2⟩ := soon_le hp
  have q1 := (soon_le (tuG_sgO hx)).2.1
  have q2 := (soon_le (tuG_sgO hy)).2.1
  rw [tuG_end hx, e1] at q1
  rw [tuG_end hy, e2] at q2
  exact Int.le_antisymm q1 q2
theorem mny_comm (u : Nat) : ∀ d, mny u d = mny d u := by
  induction u with
  | zero => intro d; rw [mny_0d, mny_u0]
  | succ u ih =>
    intro d
    induction d with
    | zero => rw [mny_0d, mny_u0]
    | succ d jh => rw [mny_succ, mny_succ, ih (d + 1), jh]; omega
theorem tuG_many {s : Sg} (h : sgB s = true) : manyV (tuG s) = manyV s := by
  rw [manyV_yes h, manyV_yes (tuG_ok h)]
  show ((mny s.B.length s.A.length : Nat) : Int) = _
  rw [mny_comm]

/-! ### Later -/
def laG (s : Sg) (k : Int) : Sg := ⟨s.A.map (· + k), s.B.map (· + k), s.run, s.head⟩
theorem getD_later (xs : List Int) (k : Int) {i : Nat} (h : i < xs.length) : (xs.map (· + k)).getD i 0 = xs.getD i 0 + k := by
  simp [h]
theorem laG_ords (s : Sg) (k : Int) : ords (laG s k) = ords s := by
  unfold ords laG; simp
theorem laG_sgO {s : Sg} {k : Int} {S : ByteArray} (h : sgO s S = true) (hk : sgB (laG s k) = true) : sgO (laG s k) S = true := by
  obtain ⟨h1, h2⟩ := sgO_of h
  refine sgO_yes hk (ordB_yes ?_)
  simpa [laG] using h2
theorem laG_rdy {s : Sg} {k : Int} {S : ByteArray} (h : sgO s S = true) {i : Nat} (hi : i < S.size) : rdy (laG s k) S i = rdy s S i + k := by
  obtain ⟨-, h2⟩ := sgO_of h
  rcases h2.only i hi with e | e
  · rw [rdy_U e, rdy_U e]; exact getD_later _ _ (h2.upAt hi e)
  · have e' : bt S i ≠ 85 := by rw [e]; decide
    rw [rdy_D e', rdy_D e']; exact getD_later _ _ (h2.downAt hi e')
theorem laG_stA {s : Sg} {k : Int} {S : ByteArray} (h : sgO s S = true) : ∀ i, i < S.size → stA (laG s k) S i = stA s S i + k
  | 0, hi => by simp only [stA]; exact laG_rdy h hi
  | i + 1, hi => by
    have e : gap (laG s k) S (i + 1) = gap s S (i + 1) := rfl
    simp only [stA]; rw [laG_rdy h hi, e, laG_stA h i (by omega)]; omega
theorem laG_wtTo {s : Sg} {k : Int} {S : ByteArray} (h : sgO s S = true) : ∀ i, i ≤ S.size → wtTo (laG s k) S i = wtTo s S i
  | 0, _ => rfl
  | i + 1, hi => by simp only [wtTo]; rw [laG_rdy h (by omega), laG_stA h i (by omega), laG_wtTo h i (by omega)]; omega
theorem laG_wait {s : Sg} {k : Int} {S : ByteArray} (h : sgO s S = true) (hk : sgB (laG s k) = true) : waitV (laG s k) S = waitV s S := by
  rw [waitV_yes h, waitV_yes (laG_sgO h hk)]; exact laG_wtTo h _ (Nat.le_refl _)
theorem laG_end {s : Sg} {k : Int} {S : ByteArray} (h : sgO s S = true) (hk : sgB (laG s k) = true) (h0 : 0 < S.size) : endV (laG s k) S = endV s S + k := by
  obtain ⟨n, hn⟩ : ∃ n, S.size = n + 1 := ⟨S.size - 1, by omega⟩
  rw [endV_yes h hn, endV_yes (laG_sgO h hk) hn, laG_stA h n (by omega)]
  show stA s S n + k + s.run = _
  omega
theorem lsOf_congr {f g : ByteArray → Int} (L : List ByteArray) (h : ∀ o ∈ L, f o = g o) (q : ByteArray × Int) : L.foldl (lsStep f) q = L.foldl (lsStep g) q := by
  induction L generalizing q with
  | nil => rfl
  | cons a L ih =>
    simp only [List.foldl_cons]
    have : lsStep f q a = lsStep g q a := by unfold lsStep; rw [h a (by simp)]
    rw [this]
    exact ih (fun o ho => h o (by simp [ho])) _
theorem laG_best {s : Sg} {k : Int} (h : sgB s = true) (hk : sgB (laG s k) = true) : bestV (laG s k) = bestV s := by
  unfold bestV
  rw [if_pos h, if_pos hk, laG_ords]
  unfold lsOf
  rw [lsOf_congr (ords s) (fun o ho => laG_wait (ords_ok h ho) hk)]
theorem laG_soon {s : Sg} {k : Int} (h : sgB s = true) (hk : sgB (laG s k) = true) (h0 : 0 < s.A.length + s.B.length) : soonV (laG s k) = soonV s + k := by
  obtain ⟨o, ho⟩ := sg_has h
  have ho2 := laG_sgO ho hk
  obtain ⟨-, -, x, hx, e1⟩ := soon_le ho
  obtain ⟨-, -, y, hy, e2⟩ := soon_le ho2
  have hy0 : sgO s y = true := by
    obtain ⟨-, h2⟩ := sgO_of hy
    exact sgO_yes h (ordB_yes (by simpa [laG] using h2))
  have q1 := (soon_le (laG_sgO hx hk)).2.1
  have q2 := (soon_le hy0).2.1
  rw [laG_end hx hk (by rw [(sgO_of hx).2.size]; exact h0), e1] at q1
  rw [laG_end hy0 hk (by rw [(sgO_of hy0).2.size]; exact h0)] at e2
  omega
theorem laG_soon0 {s : Sg} {k : Int} (h : sgB s = true) (hk : sgB (laG s k) = true) (h0 : s.A.length + s.B.length = 0) : soonV (laG s k) = 0 ∧ soonV s = 0 := by
  obtain ⟨o, ho⟩ := sg_has h
  have ho2 := laG_sgO ho hk
  obtain ⟨-, -, x, hx, e1⟩ := soon_le ho
  obtain ⟨-, -, y, hy, e2⟩ := soon_le ho2
  rw [endV_nil hx (by rw [(sgO_of hx).2.size]; exact h0)] at e1
  rw [endV_nil hy (by rw [(sgO_of hy).2.size]; simp only [laG, List.length_map]; exact h0)] at e2
  exact ⟨e2.symm, e1.symm⟩
theorem laG_back (s : Sg) (k : Int) : laG (laG s k) (0 - k) = s := by
  unfold laG
  obtain ⟨a, b, r, h⟩ := s
  have e : (fun x : Int => x + k + (0 - k)) = id := by funext x; simp only [id]; omega
  simp only [List.map_map, Function.comp_def, e, List.map_id]
theorem best_size {s : Sg} (h : sgB s = true) : (bestV s).size = s.A.length + s.B.length := by
  obtain ⟨o, ho⟩ := sg_has h
  exact (sgO_of (best_le ho).2.2).2.size

end Go.Proofs.YtlcmkocbpnekhaaGreatDoor
