/-
  All orders of so many trains, visited with a callback: what the program's visitOrders does. For texts of at most 1048576 bytes.
-/
import Derived.Test.YtlcmkocbpnekhaaDoorSgG
namespace Go.Proofs.YtlcmkocbpnekhaaDoor
open Go.RowKit Go.Sort

def sD : ByteArray := ⟨#[68]⟩
def sU : ByteArray := ⟨#[85]⟩
/-- All orders of so many trains, byte by byte. -/
def allF : Nat → Nat → Nat → List ByteArray
  | 0, _, _ => [⟨#[]⟩]
  | n + 1, u, d => (if 0 < d then (allF n u (d - 1)).map (fun o => sD ++ o) else []) ++ (if 0 < u then (allF n (u - 1) d).map (fun o => sU ++ o) else [])

theorem ba_assoc (a b c : ByteArray) : a ++ b ++ c = a ++ (b ++ c) := by
  apply ByteArray.ext; simp
theorem ba_nil (a : ByteArray) : a ++ (⟨#[]⟩ : ByteArray) = a := by
  apply ByteArray.ext; simp

theorem add_text (A B : ByteArray) (h : A.size + B.size ≤ 9223372036854775807) : ∀ w, (Op.stringOp .add A B).run Tryd.prog w = .ok (.string (A ++ B)) w := fun w => run_string_add_sum (P := Tryd.prog) w A B (by omega)
theorem map_put (a b : ByteArray) (l : List ByteArray) : (l.map (fun o => b ++ o)).map (fun o => a ++ o) = l.map (fun o => a ++ b ++ o) := by
  rw [List.map_map]
  apply List.map_congr_left
  intro o _
  exact (ba_assoc a b o).symm

theorem allF_len (n u d : Nat) : (allF n u d).length ≤ 2 ^ n := by
  induction n generalizing u d with
  | zero => simp [allF]
  | succ n ih =>
    have h1 := ih u (d - 1)
    have h2 := ih (u - 1) d
    have h3 : 2 ^ (n + 1) = 2 ^ n + 2 ^ n := by rw [Nat.pow_succ]; omega
    simp only [allF, List.length_append]
    split <;> split <;> simp only [List.length_map, List.length_nil] <;> omega
theorem allF_many {n u d : Nat} (hn : n ≤ 12) : (allF n u d).length ≤ 4096 := by
  have h := allF_len n u d
  have : 2 ^ n ≤ 2 ^ 12 := Nat.pow_le_pow_right (by omega) hn
  omega
/-- All orders of a line. -/
def ords (s : Sg) : List ByteArray := allF (s.A.length + s.B.length) s.A.length s.B.length
theorem map_nil_put (l : List ByteArray) : l.map (fun o => (⟨#[]⟩ : ByteArray) ++ o) = l := by
  have : (fun o : ByteArray => (⟨#[]⟩ : ByteArray) ++ o) = id := by
    funext o; apply ByteArray.ext; simp
  rw [this, List.map_id]

end Go.Proofs.YtlcmkocbpnekhaaDoor
