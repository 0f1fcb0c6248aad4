/-
  Maps from blocks to texts. No condition; no walk.
-/
import Derived.Test.YtedbfmmklmidjabMapB
import Derived.Maps.StringElems
namespace Go.Proofs.Ytedbfmmklmidjab
open Go.RowKit Go.ChangeMaps Go.MapKept
open Go.Maps (Keyed)

/-- A text as a string. -/
def strOf (l : List UInt8) : ByteArray := ⟨l.toArray⟩
theorem strOf_size (l : List UInt8) : (strOf l).size = l.length := rfl
theorem strOf_list (l : List UInt8) : (strOf l).data.toList = l := by simp [strOf]
theorem strOf_data (s : ByteArray) : strOf s.data.toList = s := by
  cases s
  simp [strOf]
theorem strOf_add (l : List UInt8) (c : UInt8) : strOf l ++ ⟨#[c]⟩ = strOf (l ++ [c]) := by
  unfold strOf
  rw [ByteArray.mk_append_mk]

def MapS (w : World) (M n : Nat) (f : Nat → Option (List UInt8)) : Prop := ∃ D : DataW Unit, w.ownsMap Try.prog 25 (plainElem Try.prog 9) M n D ∧ HoldsB Lit.string f D
theorem MapS.lt {w : World} {M n : Nat} {f : Nat → Option (List UInt8)} (h : MapS w M n f) : M < w.heap.size := by obtain ⟨D, h, _⟩ := h; exact h.lt
theorem MapS.kept {w w' : World} {M n : Nat} {f : Nat → Option (List UInt8)} {row : Option Nat} (h : MapS w M n f) (hg : w.grownBy w' row) (hne : some M ≠ row) : MapS w' M n f := by
  obtain ⟨D, h, hf⟩ := h; exact ⟨D, h.kept hg hne, hf⟩
theorem MapS.mono {w : World} {M n n' : Nat} {f : Nat → Option (List UInt8)} (h : MapS w M n f) (hn : n ≤ n') : MapS w M n' f := by
  obtain ⟨D, h, hf⟩ := h; exact ⟨D, h.mono hn, hf⟩
theorem MapS.congr {w : World} {M n : Nat} {f g : Nat → Option (List UInt8)} (h : MapS w M n f) (e : ∀ i, i < 5 → f i = g i) : MapS w M n g := by
  obtain ⟨D, h, hf⟩ := h; exact ⟨D, h, hf.congr e⟩
theorem MapS.drew {w : World} {M n : Nat} {f : Nat → Option (List UInt8)} (h : MapS w M n f) : MapS w.drew M n f := h
theorem MapS.new (w : World) : MapS (w.alloc (.map #[] 0)) w.heap.size 0 (fun _ => none) :=
  ⟨_, World.ownsMap_made _ _ _ _, HoldsB.empty _⟩
/-- The map's block holds no cells. -/
theorem MapS.no_cells {w : World} {M n : Nat} {f : Nat → Option (List UInt8)} (h : MapS w M n f) {g : Nat} {cs : Array Value} {t : TypeId} {fr : Nat × Nat} (hg : w.heap[g]? = some (.cells cs t fr)) : g ≠ M := by
  rintro rfl
  obtain ⟨D, ⟨es, clock, hb, _⟩, _⟩ := h
  rw [hb] at hg
  cases hg

theorem zero_str (w : World) : (zeroValue 9).run Try.prog w = .ok (.string ⟨#[]⟩) w := by kernel_rfl
theorem elem_str {v : Value} {D : DataW Unit} {f : Nat → Option (List UInt8)} (hf : HoldsB Lit.string f D) {i : Nat} (hi : i < 5) {ps : List MemPlace} (hv : plainElem Try.prog 9 v = some (D.atKey (kd i) (.lit (.string [])), ps)) : v = .string (strOf ((f i).getD [])) := by
  obtain ⟨s, rfl, hv, _⟩ := plainElem_string_inv Try.underlying9 hv
  simp only [Prod.mk.injEq] at hv
  obtain ⟨hv, _⟩ := hv
  cases e : f i with
  | some l =>
    rw [hf.2.1 i hi l e] at hv
    simp only [DataW.lit.injEq, Lit.string.injEq] at hv
    rw [← strOf_data s, hv]; rfl
  | none =>
    have h0 := hf.1 i hi
    rw [e] at h0
    rw [Maps.atKey_of_not_has h0] at hv
    simp only [DataW.lit.injEq, Lit.string.injEq] at hv
    rw [← strOf_data s, hv]; rfl
theorem MapS.lookup {w : World} {M n : Nat} {f : Nat → Option (List UInt8)} (h : MapS w M n f) {i : Nat} (hi : i < 5) :
    (Instr.lookup 63 (.map (some M)) (bkV (bkAt i)) false).run Try.prog w = .ok (.string (strOf ((f i).getD []))) w := by
  obtain ⟨D, h, hf⟩ := h
  obtain ⟨v, ps, hrun, hv⟩ := h.lookup keyed Try.underlying63 (zero_str _) (plainElem_string Try.underlying9 (by decide)) (keyOf_kd hi)
  rw [hrun, elem_str hf hi hv]
theorem MapS.look_ok {w : World} {M n : Nat} {f : Nat → Option (List UInt8)} (h : MapS w M n f) {i : Nat} (hi : i < 5) :
    (Instr.lookup 63 (.map (some M)) (bkV (bkAt i)) true).run Try.prog w = .ok (.tuple #[.string (strOf ((f i).getD [])), .bool (f i).isSome]) w := by
  obtain ⟨D, h, hf⟩ := h
  obtain ⟨v, ps, hrun, hv⟩ := h.look_ok keyed Try.underlying63 (zero_str _) (plainElem_string Try.underlying9 (by decide)) (keyOf_kd hi)
  rw [hrun, elem_str hf hi hv, hf.1 i hi]
theorem MapS.update {w : World} {M n : Nat} {f : Nat → Option (List UInt8)} (h : MapS w M n f) (hn : n < maxLen) {i : Nat} (hi : i < 5) {l : List UInt8} (hl : l.length ≤ maxLen) :
    ∃ w', (Instr.mapUpdate 63 (.map (some M)) (bkV (bkAt i)) (.string (strOf l))).run Try.prog w = .ok () w' ∧ MapS w' M (n + 1) (setE f i l) ∧ w.grownBy w' (some M) := by
  obtain ⟨D, h, hf⟩ := h
  obtain ⟨w', hrun, ho, hg⟩ := h.update keyed Try.underlying63 hn (keyOf_kd hi) (plainElem_string Try.underlying9 (s := strOf l) hl)
  rw [strOf_list] at ho
  exact ⟨w', hrun, ⟨_, ho, hf.put (let ⟨_, _, _, _, _, e⟩ := h; ⟨_, e⟩) hi l⟩, hg⟩
end Go.Proofs.Ytedbfmmklmidjab
