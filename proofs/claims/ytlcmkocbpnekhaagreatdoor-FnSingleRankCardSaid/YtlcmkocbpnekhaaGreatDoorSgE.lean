/-
  The starts of all trains in an order: the program's. For texts of at most 1048576 bytes.
-/
import Derived.Test.YtlcmkocbpnekhaaGreatDoorSgD
import Derived.Test.YtlcmkocbpnekhaaGreatDoorGoodsS
namespace Go.Proofs.YtlcmkocbpnekhaaGreatDoor
open Go.RowKit Go.Sort

/-- The first k starts, then ready times. -/
def mixL (s : Sg) (S : ByteArray) (n k : Nat) : List Int := (List.range n).map fun j => if j < k then stA s S j else rdy s S j
theorem mixL_len (s : Sg) (S : ByteArray) (n k : Nat) : (mixL s S n k).length = n := by simp [mixL]
theorem mixL_one (s : Sg) (S : ByteArray) (n : Nat) : mixL s S n 1 = rdL s S n := by
  unfold mixL rdL
  apply List.map_congr_left
  intro j _
  by_cases h : j < 1
  · have : j = 0 := by omega
    subst this; rfl
  · rw [if_neg h]
theorem mixL_all (s : Sg) (S : ByteArray) (n k : Nat) (h : n ≤ k) : mixL s S n k = stL s S n := by
  unfold mixL stL
  apply List.map_congr_left
  intro j hj
  rw [List.mem_range] at hj
  rw [if_pos (by omega)]
theorem mixL_at {s : Sg} {S : ByteArray} {n k j : Nat} (h : j < n) : (mixL s S n k).getD j 0 = if j < k then stA s S j else rdy s S j := by simp [mixL, h]
theorem mixL_set (s : Sg) (S : ByteArray) (n k : Nat) : (mixL s S n k).set k (stA s S k) = mixL s S n (k + 1) := by
  apply List.ext_getElem?
  intro i
  rw [List.getElem?_set, mixL_len]
  by_cases hi : i < n
  · by_cases e : k = i
    · subst e; rw [if_pos rfl, if_pos hi]; simp [mixL, hi]
    · rw [if_neg e]
      simp only [mixL, List.getElem?_map, List.getElem?_range hi, Option.map_some]
      by_cases q : i < k
      · rw [if_pos q, if_pos (by omega)]
      · rw [if_neg q, if_neg (by omega)]
  · have h1 : (mixL s S n k)[i]? = none := List.getElem?_eq_none (by rw [mixL_len]; omega)
    have h2 : (mixL s S n (k + 1))[i]? = none := List.getElem?_eq_none (by rw [mixL_len]; omega)
    rw [h2]
    by_cases e : k = i
    · rw [if_pos e, if_neg (by omega)]
    · rw [if_neg e, h1]

/-- A line in a box, as it is handed on. -/
def InBox (w : World) (b : Nat) (v : Value) : Prop := ∃ x y z u, v = .agg #[x, y, z, u] ∧ Quad w b x y z u 25

/-- What the operations of the program's drawing region yield. -/
def G7 (row kk j agg str pk pj : Value) (rd sj gp sum st xj xk : Int) (i : Nat) (v : Value) : Prop :=
  match i with
  | 0 => v = row
  | 1 => v = kk
  | 2 => v = row
  | 3 => v = kk
  | 4 => v = pk
  | 5 => v = .int .i64 rd
  | 6 => v = row
  | 7 => v = kk
  | 8 => v = j
  | 9 => v = pj
  | 10 => v = .int .i64 sj
  | 11 => v = agg
  | 12 => v = str
  | 13 => v = kk
  | 14 => v = j
  | 15 => v = .int .u8 xj
  | 16 => v = str
  | 17 => v = kk
  | 18 => v = .int .u8 xk
  | 19 => v = .int .i64 gp
  | 20 => v = .int .i64 sum
  | 21 => v = .int .i64 st
  | 22 => v = pk
  | _ => True

end Go.Proofs.YtlcmkocbpnekhaaGreatDoor
