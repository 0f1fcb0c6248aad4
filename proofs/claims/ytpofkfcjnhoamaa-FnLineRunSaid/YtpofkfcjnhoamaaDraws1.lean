/-
  The drawn inputs of chapter 1: what can be said of them. For codes of at most 1048576 bytes.
-/
import Derived.Test.YtpofkfcjnhoamaaDraw
import Derived.Test.YtpofkfcjnhoamaaRowK
namespace Go.Proofs.Ytpofkfcjnhoamaa
open Go.RowKit

theorem bytes_of_row {w : World} {a : Option Addr} {len cap : Nat} {zs : List Int} (h : IsRowK .u8 w a len cap zs) {n : Nat} (hn : n ≤ len) (h2 : n ≤ 2000) : Bytes w (.slice a n cap) n := by
  refine ⟨a, cap, rfl, h2, ?_⟩
  by_cases h0 : n = 0
  · exact .inl h0
  · rcases h with ⟨_, e, _⟩ | ⟨x, rfl, h1, _, h3, hc, hw⟩
    · omega
    · obtain ⟨b, off, spot⟩ := x
      have hspot : spot = none := by simpa [Addr.add] using World.cell?_spot (hc 0 (by omega))
      subst hspot
      refine .inr ⟨b, off, rfl, World.block_lt_of_cell? w _ (hc 0 (by omega)), fun i hi => ?_⟩
      have hci := hc i (by omega)
      have ea : (⟨b, off, none⟩ : Addr).add i = ⟨b, off + i, none⟩ := by unfold Addr.add; split <;> simp_all
      rw [ea] at hci
      have hm : zs.getD i 0 ∈ zs := by
        have hi' : i < zs.length := by omega
        simp [List.getD_eq_getElem?_getD, hi']
      have hwf := hw _ hm
      refine ⟨zs.getD i 0, hci, ?_⟩
      simp [Lit.wf] at hwf
      have m0 : IntKind.u8.min = 0 := by decide
      have m1 : IntKind.u8.max = 255 := by decide
      simp only [List.getD_eq_getElem?_getD]
      omega

/-- A reader that stands at its beginning, in a block of the call's own. -/
def Opened (w : World) (e : Ending) (w' : World) : Prop :=
  ∃ g, e = .returned (.pointer (some ⟨g, 0, none⟩)) ∧ w.heap.size ≤ g ∧ Rdr w' g 0 ∧ Below w.heap.size w w'

set_option maxHeartbeats 1000000 in
theorem openRd {w : World} {a : Option Addr} {len cap : Nat} {zs : List Int} (h : IsRowK .u8 w a len cap zs) (hl : len ≤ 1048576) :
    Calls Try.prog 39 #[.slice a len cap] w (Opened w) := by
  have hl' : (len : Int) ≤ 1048576 := by omega
  have hlc : len ≤ cap := by
    rcases h with ⟨_, e1, e2, _⟩ | ⟨_, _, q, _⟩
    · omega
    · exact q
  have fin : ∀ n : Nat, n ≤ len → n ≤ 2000 → Opened w (.returned (.pointer (some ⟨w.heap.size, 0, none⟩))) (w.alloc (.cells #[.slice a n cap, .int .i64 0] 107)) := by
    intro n h1 h2
    have hb := bytes_of_row h h1 h2
    refine ⟨w.heap.size, rfl, Nat.le_refl _, ⟨_, n, heap_alloc_new w _, ?_, ?_⟩, (Below.refl _ _).alloc (Nat.le_refl _) _⟩
    · obtain ⟨a', cap', e, hm, hc⟩ := hb
      simp only [Value.slice.injEq, true_and] at e
      obtain ⟨rfl, rfl⟩ := e
      refine ⟨a, cap, rfl, hm, ?_⟩
      rcases hc with q | ⟨b, o, rfl, hlt, hcell⟩
      · exact .inl q
      · refine .inr ⟨b, o, rfl, by simp; omega, fun i hi => ?_⟩
        obtain ⟨x, hx, hr⟩ := hcell i hi
        exact ⟨x, (World.cell?_of_block (Below.heap_alloc _ _ _ hlt)).trans hx, hr⟩
    · intro hn0 b o m c e
      simp only [Value.slice.injEq] at e
      obtain ⟨rfl, _, _⟩ := e
      obtain ⟨a', cap', e', _, hc⟩ := hb
      simp only [Value.slice.injEq, true_and] at e'
      obtain ⟨rfl, _⟩ := e'
      rcases hc with q | ⟨b', o', e2, hlt, _⟩
      · omega
      · simp only [Option.some.injEq, Addr.mk.injEq] at e2
        omega
  have HF := Lib.hid fin
  clear fin
  by_cases hbig : 2000 < len
  · have hb : (2000 : Int) < (len : Int) := by omega
    go_enter Try.func39, Try.ntmps39
    go_wp2_with fail
    go_ret
    exact HF.out 2000 (by omega) (by omega)
  · have hb : (len : Int) ≤ 2000 := by omega
    go_enter Try.func39, Try.ntmps39
    go_wp2_with fail
    go_ret
    exact HF.out len (by omega) (by omega)

/-- A drawn number. -/
def DrawnMany (w : World) (e : Ending) (w' : World) : Prop :=
  ∃ n : Int, e = .returned (.int .i64 n) ∧ -1 ≤ n ∧ n ≤ 31 ∧ Below w.heap.size w w'

end Go.Proofs.Ytpofkfcjnhoamaa
