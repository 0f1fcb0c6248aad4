/-
  What a replacer of single bytes by single bytes is built as: the table of U and D exchanged. No condition.
-/
import Derived.Test.YtlcmkocbpnekhaaGreatDoorRplA
import Derived.Deep.WholeRow
namespace Go.Proofs.YtlcmkocbpnekhaaGreatDoor
open Go.RowKit

/-- A table of 256 bytes in a block. -/
def Tab (w : World) (g : Nat) (f : Nat → Int) : Prop := ∃ cs : Array Value, w.heap[g]? = some (.cells cs 102 (0, 0)) ∧ cs.size = 256 ∧ ∀ i, i < 256 → cs[i]? = some (.int .u8 (f i))
section
variable {w w' : World} {g : Nat} {f : Nat → Int}
theorem Tab.lt (h : Tab w g f) : g < w.heap.size := by obtain ⟨cs, h, _⟩ := h; exact (Array.getElem?_eq_some_iff.1 h).1
theorem Tab.cell (h : Tab w g f) {i : Nat} (hi : i < 256) : w.cell? ⟨g, i, none⟩ = some (.int .u8 (f i)) := by
  obtain ⟨cs, h, hs, hc⟩ := h
  simp only [World.cell?, h]
  exact hc i hi
theorem Tab.frozen (h : Tab w g f) (i : Nat) : w.frozen? ⟨g, i, none⟩ = false := by
  obtain ⟨cs, h, hs, hc⟩ := h
  simp [World.frozen?, h]
theorem Tab.of (h : Tab w g f) (e : w'.heap[g]? = w.heap[g]?) : Tab w' g f := by obtain ⟨cs, h, hs, hc⟩ := h; exact ⟨cs, e.trans h, hs, hc⟩
theorem Tab.below (h : Tab w g f) (hb : Below w.heap.size w w') : Tab w' g f := h.of (hb.block _ h.lt)
theorem Tab.other (h : Tab w g f) {a : Addr} (ha : g ≠ a.block) (v : Value) : Tab (w.setCell a v) g f := h.of (Go.Deep.blk_setCell_other _ _ _ _ ha)
theorem Tab.congr (h : Tab w g f) {f' : Nat → Int} (e : ∀ i, i < 256 → f' i = f i) : Tab w g f' := by
  obtain ⟨cs, h, hs, hc⟩ := h
  exact ⟨cs, h, hs, fun i hi => by rw [e i hi]; exact hc i hi⟩
theorem Tab.set (h : Tab w g f) {k : Nat} (hk : k < 256) (x : Int) {f' : Nat → Int} (e : ∀ i, i < 256 → f' i = if i = k then x else f i) : Tab (w.setCell ⟨g, k, none⟩ (.int .u8 x)) g f' := by
  obtain ⟨cs, h, hs, hc⟩ := h
  refine ⟨cs.setIfInBounds k (.int .u8 x), ?_, by simp [hs], fun i hi => ?_⟩
  · simp [World.setCell, Array.getElem?_modify, h]
  · rw [e i hi, Array.getElem?_setIfInBounds]
    by_cases q : k = i
    · subst q; simp [hs, hk]
    · rw [if_neg q, if_neg (fun z => q z.symm)]; exact hc i hi
end

theorem zero_tab : Tryz.zeroCells102 = Array.replicate 256 (.int .u8 0) := by kernel_rfl
theorem size_tab : (Tryz.prog.info? 102).map (·.size) = some 256 := by kernel_rfl
theorem Tab.zero (w : World) : Tab (w.alloc (.cells Tryz.zeroCells102 102)) w.heap.size (fun _ => 0) := by
  rw [zero_tab]
  exact ⟨_, Go.Deep.blk_alloc_new _ _, by simp, fun i hi => by simp [hi]⟩
/-- U and D exchanged. -/
def turnB (i : Nat) : Int := if i = 85 then 68 else if i = 68 then 85 else (i : Int)

theorem byte_68 (w : World) : (Instr.index 9 (.string ⟨#[68]⟩) (.int .i64 0)).run Tryz.prog w = .ok (.int .u8 68) w := by
  rw [run_index_string _ _ _ _ _ Tryz.underlying9, dif_pos ⟨by omega, by show (0 : Int) < 1; omega⟩]
  rfl
theorem byte_85 (w : World) : (Instr.index 9 (.string ⟨#[85]⟩) (.int .i64 0)).run Tryz.prog w = .ok (.int .u8 85) w := by
  rw [run_index_string _ _ _ _ _ Tryz.underlying9, dif_pos ⟨by omega, by show (0 : Int) < 1; omega⟩]
  rfl

set_option maxRecDepth 1000000 in
set_option maxHeartbeats 2000000 in
theorem build_turn (b h c : Nat) (w : World) (hf : w.cell? ⟨b, 4, none⟩ = some (.slice (some ⟨h, 0, none⟩) 4 c)) (hp : Pairs w h [⟨#[85]⟩, ⟨#[68]⟩, ⟨#[68]⟩, ⟨#[85]⟩]) :
    Calls Tryz.prog 49 #[.pointer (some ⟨b, 0, none⟩)] w fun e w' => e = .returned (.iface 103 (.pointer (some ⟨w.heap.size, 0, none⟩))) ∧ Tab w' w.heap.size turnB ∧ Below w.heap.size w w' := by
  have p0 := hp 0 _ rfl
  have p1 := hp 1 _ rfl
  have p2 := hp 2 _ rfl
  have p3 := hp 3 _ rfl
  have hsc := run_storeCells_new (P := Tryz.prog) w 102 Tryz.zeroCells102 Tryz.zeroCells102 (by rw [zero_tab]; exact size_tab) rfl (by rw [zero_tab]; kernel_rfl)
  have HS := Lib.hid hsc
  have T0 := Lib.hid (Tab.zero w)
  have HP := Lib.hid hp
  have B0 := Lib.hid (below_alloc w (.cells Tryz.zeroCells102 102))
  clear hsc hp
  go_enter Tryz.func49, Tryz.ntmps49
  go_wp2_with fail
  refine wp_loop_rounds 3 ?_
  rw [rounds_succ]
  go_wp2_with fail
  rw [rounds_succ]
  go_wp2_with fail
  rw [rounds_succ]
  go_wp2_with fail
  rw [HS.out]
  simp only [Result.andThen]
  rw [Oper.upon_skip]
  obtain ⟨W, hW⟩ : ∃ W, W = w.alloc (.cells Tryz.zeroCells102 102) := ⟨_, rfl⟩
  have TW := Lib.hid (show Tab W w.heap.size (fun _ => 0) from hW ▸ T0.out)
  have BW := Lib.hid (show Below w.heap.size w W from hW ▸ B0.out)
  rw [← hW]
  clear hW HS T0 B0
  go_wp2_with fail
  go_loopw [61] (fun i wr => ∃ k : Nat, k ≤ 256 ∧ i = .int .i64 k ∧ Tab wr w.heap.size (fun i => if i < k then (i : Int) else 0) ∧ Below w.heap.size w wr) (fun i _ => 256 - (intOf i).toNat)
  case atStart => exact ⟨0, by omega, rfl, TW.out.congr (fun i hi => by simp), BW.out⟩
  case round =>
    obtain ⟨k, hk, rfl, tab, hbel⟩ := hrel
    by_cases hlt : k < 256
    · have hki : (k : Int) < 256 := by omega
      have c0 := tab.cell hlt
      have f0 := tab.frozen k
      have TS := Lib.hid (tab.set hlt (k : Int) (f' := fun i => if i < k + 1 then (i : Int) else 0) (fun i hi => by
        by_cases e : i = k
        · subst e; simp
        · simp only [if_neg e, show (i < k + 1) = (i < k) by apply propext; omega]))
      have BS := Lib.hid (hbel.setCell (p := ⟨w.heap.size, k, none⟩) (Nat.le_refl _) (.int .u8 (k : Int)))
      clear tab hbel
      go_wp2_with fail
      go_roundw
      case rel => exact ⟨k + 1, by omega, by go_num, TS.out, BS.out⟩
      case measure => simp [intOf]; omega
    · obtain rfl : k = 256 := by omega
      have T1 := Lib.hid (tab.congr (f' := fun i => (i : Int)) (fun i hi => by simp [hi]))
      have BB := Lib.hid hbel
      have q0 := (HP.out.below BB.out) 0 _ rfl
      have q1 := (HP.out.below BB.out) 1 _ rfl
      have q2 := (HP.out.below BB.out) 2 _ rfl
      have q3 := (HP.out.below BB.out) 3 _ rfl
      have hne : h ≠ w.heap.size := Nat.ne_of_lt (World.block_lt_of_cell? w _ (HP.out 0 _ rfl))
      have c0 := T1.out.cell (i := 68) (by omega)
      have f0 := T1.out.frozen 68
      have P1 := Lib.hid ((HP.out.below BB.out).setCell (a := ⟨w.heap.size, 68, none⟩) hne (.int .u8 85))
      have T2 := Lib.hid (T1.out.set (k := 68) (by omega) 85 (f' := fun i => if i = 68 then 85 else (i : Int)) (fun i hi => rfl))
      have B2 := Lib.hid (BB.out.setCell (p := ⟨w.heap.size, 68, none⟩) (Nat.le_refl _) (.int .u8 85))
      have x68 := byte_68
      have x85 := byte_85
      clear tab hbel hne
      go_wp2_with fail
      refine wp_loop_rounds 3 ?_
      rw [rounds_succ]
      go_wp2_with fail
      rw [rounds_succ]
      obtain ⟨W2, hW2⟩ : ∃ X, X = wr.setCell ⟨w.heap.size, 68, none⟩ (.int .u8 85) := ⟨_, rfl⟩
      rw [← hW2] at P1 T2 B2 ⊢
      clear hW2 q0 q1 q2 q3 c0 f0
      have q0 := P1.out 0 _ rfl
      have q1 := P1.out 1 _ rfl
      have c0 := T2.out.cell (i := 85) (by omega)
      have f0 := T2.out.frozen 85
      have T3 := Lib.hid (T2.out.set (k := 85) (by omega) 68 (f' := turnB) (fun i hi => by unfold turnB; split <;> rfl))
      have B3 := Lib.hid (B2.out.setCell (p := ⟨w.heap.size, 85, none⟩) (Nat.le_refl _) (.int .u8 68))
      go_wp2_with fail
      rw [rounds_succ]
      go_wp2_with fail
      go_ret
      exact ⟨rfl, T3.out, B3.out⟩

end Go.Proofs.YtlcmkocbpnekhaaGreatDoor
