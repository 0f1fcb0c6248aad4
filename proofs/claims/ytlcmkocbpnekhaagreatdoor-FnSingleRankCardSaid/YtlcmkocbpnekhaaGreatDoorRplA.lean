/-
  strings.NewReplacer of four texts. No condition.
-/
import Derived.Test.YtlcmkocbpnekhaaGreatDoorOnce
import Derived.Test.YtlcmkocbpnekhaaGreatDoorKit
import Derived.Maps.AppendAt
import Derived.Deep.DeepCutAuto
import Derived.Deep.RegionWith
namespace Go.Proofs.YtlcmkocbpnekhaaGreatDoor
open Go.RowKit

/-- A replacer in memory: its flag, its lock, what replaces, the pairs. -/
def Five (w : World) (b : Nat) (x0 x1 x2 x3 x4 : Value) : Prop := w.heap[b]? = some (.cells #[x0, x1, x2, x3, x4] 76 (0, 0))
section
variable {w w' : World} {b : Nat} {x0 x1 x2 x3 x4 : Value}
theorem Five.lt (h : Five w b x0 x1 x2 x3 x4) : b < w.heap.size := (Array.getElem?_eq_some_iff.1 h).1
theorem Five.cell0 (h : Five w b x0 x1 x2 x3 x4) : w.cell? ⟨b, 0, none⟩ = some x0 := by unfold Five at h; simp only [World.cell?, h]; rfl
theorem Five.cell1 (h : Five w b x0 x1 x2 x3 x4) : w.cell? ⟨b, 1, none⟩ = some x1 := by unfold Five at h; simp only [World.cell?, h]; rfl
theorem Five.cell3 (h : Five w b x0 x1 x2 x3 x4) : w.cell? ⟨b, 3, none⟩ = some x3 := by unfold Five at h; simp only [World.cell?, h]; rfl
theorem Five.cell4 (h : Five w b x0 x1 x2 x3 x4) : w.cell? ⟨b, 4, none⟩ = some x4 := by unfold Five at h; simp only [World.cell?, h]; rfl
theorem Five.frozen (h : Five w b x0 x1 x2 x3 x4) (i : Nat) : w.frozen? ⟨b, i, none⟩ = false := by unfold Five at h; simp [World.frozen?, h]
theorem Five.of (h : Five w b x0 x1 x2 x3 x4) (e : w'.heap[b]? = w.heap[b]?) : Five w' b x0 x1 x2 x3 x4 := e.trans h
theorem Five.below (h : Five w b x0 x1 x2 x3 x4) (hb : Below w.heap.size w w') : Five w' b x0 x1 x2 x3 x4 := h.of (hb.block _ h.lt)
theorem Five.alloc (h : Five w b x0 x1 x2 x3 x4) (o : Obj) : Five (w.alloc o) b x0 x1 x2 x3 x4 := h.of (Go.Deep.blk_alloc_lt _ _ _ h.lt)
theorem Five.other (h : Five w b x0 x1 x2 x3 x4) {a : Addr} (ha : b ≠ a.block) (v : Value) : Five (w.setCell a v) b x0 x1 x2 x3 x4 := h.of (Go.Deep.blk_setCell_other _ _ _ _ ha)
theorem Five.drew (h : Five w b x0 x1 x2 x3 x4) : Five w.drew b x0 x1 x2 x3 x4 := h
theorem Five.set0 (h : Five w b x0 x1 x2 x3 x4) (v : Value) : Five (w.setCell ⟨b, 0, none⟩ v) b v x1 x2 x3 x4 := by unfold Five at h ⊢; simp [World.setCell, Array.getElem?_modify, h]
theorem Five.set1 (h : Five w b x0 x1 x2 x3 x4) (v : Value) : Five (w.setCell ⟨b, 1, none⟩ v) b x0 v x2 x3 x4 := by unfold Five at h ⊢; simp [World.setCell, Array.getElem?_modify, h]
theorem Five.set3 (h : Five w b x0 x1 x2 x3 x4) (v : Value) : Five (w.setCell ⟨b, 3, none⟩ v) b x0 x1 x2 v x4 := by unfold Five at h ⊢; simp [World.setCell, Array.getElem?_modify, h]
theorem Five.set4 (h : Five w b x0 x1 x2 x3 x4) (v : Value) : Five (w.setCell ⟨b, 4, none⟩ v) b x0 x1 x2 x3 v := by unfold Five at h ⊢; simp [World.setCell, Array.getElem?_modify, h]
end

theorem info_strT : (Tryz.prog.info? 9).map (fun i => (i.zero, i.size, i.bytes)) = some (some (.string .empty), 1, 16) := by kernel_rfl

/-- The texts in a block. -/
def Pairs (w : World) (h : Nat) (ss : List ByteArray) : Prop := ∀ (i : Nat) (s : ByteArray), ss[i]? = some s → w.cell? ⟨h, i, none⟩ = some (.string s)
theorem Pairs.below {w w' : World} {h : Nat} {ss : List ByteArray} (p : Pairs w h ss) (hb : Below w.heap.size w w') : Pairs w' h ss := fun i s e =>
  (hb.cell (p := ⟨h, i, none⟩) (World.block_lt_of_cell? w _ (p i s e))).trans (p i s e)
theorem Pairs.setCell {w : World} {h : Nat} {ss : List ByteArray} (p : Pairs w h ss) {a : Addr} (ha : h ≠ a.block) (v : Value) : Pairs (w.setCell a v) h ss := fun i s e =>
  (World.cell?_setCell_other _ a ⟨h, i, none⟩ v (fun q => ha (by rw [q]))).trans (p i s e)

set_option maxRecDepth 100000 in
set_option maxHeartbeats 2000000 in
theorem newReplacer (g : Nat) (s0 s1 s2 s3 : ByteArray) (w : World) (hp : Pairs w g [s0, s1, s2, s3]) :
    Calls Tryz.prog 23 #[.slice (some ⟨g, 0, none⟩) 4 4] w fun e w' => ∃ b h c, e = .returned (.pointer (some ⟨b, 0, none⟩)) ∧ w.heap.size ≤ b ∧ w.heap.size ≤ h ∧ h ≠ b ∧
      Five w' b (.int .u32 0) (.int .i32 0) (.int .u32 0) .nilIface (.slice (some ⟨h, 0, none⟩) 4 c) ∧ Pairs w' h [s0, s1, s2, s3] ∧ h < w'.heap.size ∧ Below w.heap.size w w' := by
  obtain ⟨i0, hi, hz0, hz1, hz2⟩ := info_parts info_strT
  go_enter Tryz.func23, Tryz.ntmps23
  go_wp2_with (at_builtin; refine wpList_append_own _ rfl _ _ 60 rfl w.heap.size 9 i0 (.string .empty) 1 16 Tryz.underlying60 hi hz0 hz1 hz2 rfl (by decide) _ _ [] rfl (World.ownsRow_nil _ _ _ _) ⟨g, 0, none⟩ 4 4 [.string s0, .string s1, .string s2, .string s3] rfl rfl ?c1 ?c2 ?c3 ?c4 ?c5 ?_)
  case c1 =>
    intro j u hu
    have hj : j < 4 := (List.getElem?_eq_some_iff.1 hu).1
    have key : ∀ (i : Nat) (s : ByteArray), [s0, s1, s2, s3][i]? = some s → w.cell? ((⟨g, 0, none⟩ : Addr).add i) = some (.string s) := by
      intro i s e
      have : (⟨g, 0, none⟩ : Addr).add i = ⟨g, i, none⟩ := by unfold Addr.add; split <;> simp_all
      rw [this]
      exact hp i s e
    match j, hj with
    | 0, _ => cases hu; exact key 0 s0 rfl
    | 1, _ => cases hu; exact key 1 s1 rfl
    | 2, _ => cases hu; exact key 2 s2 rfl
    | 3, _ => cases hu; exact key 3 s3 rfl
  case c2 => intro u hu; simp only [List.mem_cons, List.not_mem_nil, or_false] at hu; rcases hu with rfl | rfl | rfl | rfl <;> rfl
  case c3 => simp only [maxLen]; omega
  case c4 => omega
  case c5 => simp
  intro v' w2 hown hgrow _
  have hbel : Below w.heap.size w w2 := (Below.refl _ w).grown hgrow (Nat.le_refl _) (fun g hg => by cases hg)
  obtain ⟨h, c, hv, hh, hlt, hcell⟩ : ∃ h c, v' = .slice (some ⟨h, 0, none⟩) 4 c ∧ w.heap.size ≤ h ∧ h < w2.heap.size ∧ Pairs w2 h [s0, s1, s2, s3] := by
    rcases hown.2 with ⟨rfl, h0⟩ | ⟨h, cap, cur, rfl, hb, hg, _⟩
    · exact absurd h0 (by decide)
    · refine ⟨h, cap, rfl, hb, (Array.getElem?_eq_some_iff.1 hg).1, fun i s e => ?_⟩
      have hat := fun i hi => World.ownsRow.cellAt hown i hi
      have hi : i < 4 := (List.getElem?_eq_some_iff.1 e).1
      match i, hi with
      | 0, _ => cases e; exact hat 0 (by decide)
      | 1, _ => cases e; exact hat 1 (by decide)
      | 2, _ => cases e; exact hat 2 (by decide)
      | 3, _ => cases e; exact hat 3 (by decide)
  subst hv
  have HB := Lib.hid hbel
  have HC := Lib.hid hcell
  have HH := Lib.hid hh
  have HL := Lib.hid hlt
  clear hown hgrow hbel hcell hh hlt hp
  go_wp2_with fail
  go_ret
  exact ⟨_, h, c, rfl, HB.out.size, HH.out, Nat.ne_of_lt HL.out, Go.Deep.blk_alloc_new _ _, HC.out.below (below_alloc _ _), Nat.lt_trans HL.out (by simp), HB.out.alloc HB.out.size _⟩

end Go.Proofs.YtlcmkocbpnekhaaGreatDoor
