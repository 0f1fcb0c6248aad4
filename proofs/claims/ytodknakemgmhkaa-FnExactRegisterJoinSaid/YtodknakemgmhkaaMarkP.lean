/-
  The cells of a list of moves, or of notes, that has been marked. No walk.
-/
import Derived.Test.YtodknakemgmhkaaBlks
import Derived.Test.YtodknakemgmhkaaMarkT
namespace Go.Proofs.Ytodknakemgmhkaa
open Go.RowKit Go.Sort

theorem own_mvs {w : World} {base : Nat} {v : Value} {ms : List Mv} (h : OwnM w base v ms) (hl : ms.length ≤ 1048576) : Mvs w v ms := Ow.rd h hl

/-- The cells of a list of moves that has been marked from k on. -/
def mkM (k : Int) (q : Nat) : Value := if q % 2 = 0 then .int .i64 (k + q) else .string (mkT (k + q))
theorem mkM0 (k : Int) (i : Nat) : mkM k (i * 2) = .int .i64 (k + i * 2) := by unfold mkM; rw [if_pos (by omega)]; norm_cast
theorem mkM1 (k : Int) (i : Nat) : mkM k (i * 2 + 1) = .string (mkT (k + i * 2 + 1)) := by
  unfold mkM; rw [if_neg (by omega), show k + ((i * 2 + 1 : Nat) : Int) = k + i * 2 + 1 by omega]
/-- A list whose first j moves are marked. -/
def mmTill (k : Int) (F : Nat → Value) (j q : Nat) : Value := if q < j * 2 then mkM k q else F q
theorem mmTill_succ (k : Int) (F : Nat → Value) (j q : Nat) : (if q = j * 2 + 1 then mkM k (j * 2 + 1) else if q = j * 2 then mkM k (j * 2) else mmTill k F j q) = mmTill k F (j + 1) q := by
  unfold mmTill
  by_cases h1 : q = j * 2 + 1
  · rw [if_pos h1, if_pos (by omega), h1]
  · rw [if_neg h1]
    by_cases h0 : q = j * 2
    · rw [if_pos h0, if_pos (by omega), h0]
    · rw [if_neg h0]
      by_cases h : q < j * 2
      · rw [if_pos h, if_pos (by omega)]
      · rw [if_neg h, if_neg (by omega)]

end Go.Proofs.Ytodknakemgmhkaa
