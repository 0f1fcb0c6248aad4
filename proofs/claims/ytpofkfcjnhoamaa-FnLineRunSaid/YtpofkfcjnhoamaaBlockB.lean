/-
  Instruments: the block of one, that of a block, that behind an event. No condition.
-/
import Derived.Test.YtpofkfcjnhoamaaBlockA
import Derived.BigQuiet
import Derived.Laws.StructEq
namespace Go.Proofs.Ytpofkfcjnhoamaa
open Go.RowKit Go.Sort

/-- The instrument of a possible block. -/
def insT (b : Blk) : TypeId :=
  if b = (0, false, false) then 116 else if b = (0, false, true) then 117 else if b = (1, false, false) then 118
  else if b = (2, true, false) then 119 else 120
def insV (b : Blk) : Value := .iface (insT b) (.agg #[])

/-- Is it the instrument of this block? -/
theorem is_ins {b : Blk} (hb : bkPos b = true) {c : Blk} (hc : bkPos c = true) (t : TypeId) (ht : insT c = t) (w : World) :
    (Instr.typeAssert (.iface (insT b) (.agg #[])) 90 t true).run Try.prog w = .ok (.tuple #[.agg #[], .bool (decide (b = c))]) w := by
  subst ht
  rcases bkPos_five hb with rfl | rfl | rfl | rfl | rfl <;> rcases bkPos_five hc with rfl | rfl | rfl | rfl | rfl <;> kernel_rfl

set_option maxHeartbeats 400000 in
theorem needle_normalState (w : World) :
    Calls Try.prog 113 #[.agg #[]] w fun e w' => e = .returned (.int .i64 0) ∧ w' = w.alloc (.cells #[] 116) := by
  go_enter Try.func113, Try.ntmps113
  go_wp2_with fail
  go_ret
  exact ⟨rfl, rfl⟩

set_option maxHeartbeats 400000 in
theorem needle_offeredState (w : World) :
    Calls Try.prog 114 #[.agg #[]] w fun e w' => e = .returned (.int .i64 0) ∧ w' = w.alloc (.cells #[] 117) := by
  go_enter Try.func114, Try.ntmps114
  go_wp2_with fail
  go_ret
  exact ⟨rfl, rfl⟩

set_option maxHeartbeats 400000 in
theorem needle_clearState (w : World) :
    Calls Try.prog 115 #[.agg #[]] w fun e w' => e = .returned (.int .i64 1) ∧ w' = w.alloc (.cells #[] 118) := by
  go_enter Try.func115, Try.ntmps115
  go_wp2_with fail
  go_ret
  exact ⟨rfl, rfl⟩

set_option maxHeartbeats 400000 in
theorem needle_insideState (w : World) :
    Calls Try.prog 116 #[.agg #[]] w fun e w' => e = .returned (.int .i64 2) ∧ w' = w.alloc (.cells #[] 119) := by
  go_enter Try.func116, Try.ntmps116
  go_wp2_with fail
  go_ret
  exact ⟨rfl, rfl⟩

set_option maxHeartbeats 400000 in
theorem needle_leftState (w : World) :
    Calls Try.prog 117 #[.agg #[]] w fun e w' => e = .returned (.int .i64 2) ∧ w' = w.alloc (.cells #[] 120) := by
  go_enter Try.func117, Try.ntmps117
  go_wp2_with fail
  go_ret
  exact ⟨rfl, rfl⟩

/-! ### A block of three cells -/

def Tri3 (w : World) (b : Nat) (x y z : Value) (t : TypeId) : Prop := w.heap[b]? = some (.cells #[x, y, z] t (0, 0))
theorem Tri3.lt {w : World} {b : Nat} {x y z : Value} {t : TypeId} (h : Tri3 w b x y z t) : b < w.heap.size := (Array.getElem?_eq_some_iff.1 h).1
theorem Tri3.cell0 {w : World} {b : Nat} {x y z : Value} {t : TypeId} (h : Tri3 w b x y z t) : w.cell? ⟨b, 0, none⟩ = some x := by unfold Tri3 at h; simp only [World.cell?, h]; rfl
theorem Tri3.cell1 {w : World} {b : Nat} {x y z : Value} {t : TypeId} (h : Tri3 w b x y z t) : w.cell? ⟨b, 1, none⟩ = some y := by unfold Tri3 at h; simp only [World.cell?, h]; rfl
theorem Tri3.cell2 {w : World} {b : Nat} {x y z : Value} {t : TypeId} (h : Tri3 w b x y z t) : w.cell? ⟨b, 2, none⟩ = some z := by unfold Tri3 at h; simp only [World.cell?, h]; rfl
theorem Tri3.frozen {w : World} {b : Nat} {x y z : Value} {t : TypeId} (h : Tri3 w b x y z t) (i : Nat) : w.frozen? ⟨b, i, none⟩ = false := by unfold Tri3 at h; simp [World.frozen?, h]
theorem Tri3.new (w : World) (x y z : Value) (t : TypeId) : Tri3 (w.alloc (.cells #[x, y, z] t)) w.heap.size x y z t := Go.Deep.blk_alloc_new _ _
theorem Tri3.of {w w' : World} {b : Nat} {x y z : Value} {t : TypeId} (h : Tri3 w b x y z t) (e : w'.heap[b]? = w.heap[b]?) : Tri3 w' b x y z t := e.trans h
theorem Tri3.below {w w' : World} {b : Nat} {x y z : Value} {t : TypeId} (h : Tri3 w b x y z t) (hb : Below w.heap.size w w') : Tri3 w' b x y z t := h.of (hb.block _ h.lt)
theorem Tri3.alloc {w : World} {b : Nat} {x y z : Value} {t : TypeId} (h : Tri3 w b x y z t) (o : Obj) : Tri3 (w.alloc o) b x y z t := h.of (Go.Deep.blk_alloc_lt _ _ _ h.lt)
theorem Tri3.other {w : World} {b : Nat} {x y z : Value} {t : TypeId} (h : Tri3 w b x y z t) {a : Addr} (ha : b ≠ a.block) (v : Value) : Tri3 (w.setCell a v) b x y z t := h.of (Go.Deep.blk_setCell_other _ _ _ _ ha)

set_option maxHeartbeats 2000000 in
theorem blockOf (b : Blk) (hb : bkPos b = true) (w : World) :
    Calls Try.prog 60 #[insV b] w fun e w' => e = .returned (bkV b) ∧ Below w.heap.size w w' := by
  have a1 := is_ins hb (c := (0, false, true)) rfl 117 rfl
  have a2 := is_ins hb (c := (2, true, false)) rfl 119 rfl
  unfold insV
  rcases bkPos_five hb with rfl | rfl | rfl | rfl | rfl
  · have hm : ∀ (n : Nat) (w : World), (method (n + 1) (insT (0, false, false)) (.agg #[]) "loop.example/blockboxes/impl.needle").run Try.prog w = .ok (113, .agg #[]) w := fun _ _ => by kernel_rfl
    clear hb
    go_enter Try.func60, Try.ntmps60
    go_wp2_with (go_at_call 113; refine (needle_normalState _).mono ?_; rintro e w1 ⟨rfl, rfl⟩)
    exact bodyPost_ret (v := bkV (0, false, false)) (by simp [results, Try.results60, go_sem, bkV]) rfl ⟨rfl, (((below_self w).alloc (Nat.le_refl _) _).alloc (by simp) _).alloc (by simp; omega) _⟩
  · have hm : ∀ (n : Nat) (w : World), (method (n + 1) (insT (0, false, true)) (.agg #[]) "loop.example/blockboxes/impl.needle").run Try.prog w = .ok (114, .agg #[]) w := fun _ _ => by kernel_rfl
    clear hb
    go_enter Try.func60, Try.ntmps60
    go_wp2_with (go_at_call 114; refine (needle_offeredState _).mono ?_; rintro e w1 ⟨rfl, rfl⟩)
    exact bodyPost_ret (v := bkV (0, false, true)) (by simp [results, Try.results60, go_sem, bkV]) rfl ⟨rfl, (((below_self w).alloc (Nat.le_refl _) _).alloc (by simp) _).alloc (by simp; omega) _⟩
  · have hm : ∀ (n : Nat) (w : World), (method (n + 1) (insT (1, false, false)) (.agg #[]) "loop.example/blockboxes/impl.needle").run Try.prog w = .ok (115, .agg #[]) w := fun _ _ => by kernel_rfl
    clear hb
    go_enter Try.func60, Try.ntmps60
    go_wp2_with (go_at_call 115; refine (needle_clearState _).mono ?_; rintro e w1 ⟨rfl, rfl⟩)
    exact bodyPost_ret (v := bkV (1, false, false)) (by simp [results, Try.results60, go_sem, bkV]) rfl ⟨rfl, (((below_self w).alloc (Nat.le_refl _) _).alloc (by simp) _).alloc (by simp; omega) _⟩
  · have hm : ∀ (n : Nat) (w : World), (method (n + 1) (insT (2, true, false)) (.agg #[]) "loop.example/blockboxes/impl.needle").run Try.prog w = .ok (116, .agg #[]) w := fun _ _ => by kernel_rfl
    clear hb
    go_enter Try.func60, Try.ntmps60
    go_wp2_with (go_at_call 116; refine (needle_insideState _).mono ?_; rintro e w1 ⟨rfl, rfl⟩)
    exact bodyPost_ret (v := bkV (2, true, false)) (by simp [results, Try.results60, go_sem, bkV]) rfl ⟨rfl, (((below_self w).alloc (Nat.le_refl _) _).alloc (by simp) _).alloc (by simp; omega) _⟩
  · have hm : ∀ (n : Nat) (w : World), (method (n + 1) (insT (2, false, false)) (.agg #[]) "loop.example/blockboxes/impl.needle").run Try.prog w = .ok (117, .agg #[]) w := fun _ _ => by kernel_rfl
    clear hb
    go_enter Try.func60, Try.ntmps60
    go_wp2_with (go_at_call 117; refine (needle_leftState _).mono ?_; rintro e w1 ⟨rfl, rfl⟩)
    exact bodyPost_ret (v := bkV (2, false, false)) (by simp [results, Try.results60, go_sem, bkV]) rfl ⟨rfl, (((below_self w).alloc (Nat.le_refl _) _).alloc (by simp) _).alloc (by simp; omega) _⟩

set_option maxHeartbeats 2000000 in
theorem after (b : Blk) (hb : bkPos b = true) (c : Int) (w : World) :
    Calls Try.prog 59 #[insV b, .int .u8 c] w fun e w' => (∃ v, e = .returned (.tuple #[v, .bool (bkStep b c).isSome]) ∧ ∀ b', bkStep b c = some b' → v = insV b') ∧ w = w' := by
  rcases letter_or c with hc | hc
  · rcases hc with rfl | rfl | rfl | rfl | rfl | rfl | rfl
    · have a1 := is_ins hb (c := (0, false, false)) rfl 116 rfl
      have E := Lib.hid (show (bkStep b 111).isSome = decide (b = (0, false, false)) ∧ ∀ b', bkStep b 111 = some b' → b' = (0, false, true) by
        by_cases e : b = (0, false, false)
        · subst e; exact ⟨rfl, fun b' h => (Option.some.inj h).symm⟩
        · simp [bkStep, e])
      clear hb
      unfold insV
      go_enter Try.func59, Try.ntmps59
      go_wp2_with fail
      go_ret2
      exact ⟨⟨insV (0, false, true), by rw [E.out.1]; rfl, fun b' h => by have q := E.out.2 b' h; subst q; rfl⟩, rfl⟩
    · have a1 := is_ins hb (c := (0, false, true)) rfl 117 rfl
      have E := Lib.hid (show (bkStep b 114).isSome = decide (b = (0, false, true)) ∧ ∀ b', bkStep b 114 = some b' → b' = (0, false, false) by
        by_cases e : b = (0, false, true)
        · subst e; exact ⟨rfl, fun b' h => (Option.some.inj h).symm⟩
        · simp [bkStep, e])
      clear hb
      unfold insV
      go_enter Try.func59, Try.ntmps59
      go_wp2_with fail
      go_ret2
      exact ⟨⟨insV (0, false, false), by rw [E.out.1]; rfl, fun b' h => by have q := E.out.2 b' h; subst q; rfl⟩, rfl⟩
    · have a1 := is_ins hb (c := (0, false, true)) rfl 117 rfl
      have E := Lib.hid (show (bkStep b 97).isSome = decide (b = (0, false, true)) ∧ ∀ b', bkStep b 97 = some b' → b' = (1, false, false) by
        by_cases e : b = (0, false, true)
        · subst e; exact ⟨rfl, fun b' h => (Option.some.inj h).symm⟩
        · simp [bkStep, e])
      clear hb
      unfold insV
      go_enter Try.func59, Try.ntmps59
      go_wp2_with fail
      go_ret2
      exact ⟨⟨insV (1, false, false), by rw [E.out.1]; rfl, fun b' h => by have q := E.out.2 b' h; subst q; rfl⟩, rfl⟩
    · have a1 := is_ins hb (c := (1, false, false)) rfl 118 rfl
      have E := Lib.hid (show (bkStep b 99).isSome = decide (b = (1, false, false)) ∧ ∀ b', bkStep b 99 = some b' → b' = (0, false, false) by
        by_cases e : b = (1, false, false)
        · subst e; exact ⟨rfl, fun b' h => (Option.some.inj h).symm⟩
        · simp [bkStep, e])
      clear hb
      unfold insV
      go_enter Try.func59, Try.ntmps59
      go_wp2_with fail
      go_ret2
      exact ⟨⟨insV (0, false, false), by rw [E.out.1]; rfl, fun b' h => by have q := E.out.2 b' h; subst q; rfl⟩, rfl⟩
    · have a1 := is_ins hb (c := (1, false, false)) rfl 118 rfl
      have E := Lib.hid (show (bkStep b 101).isSome = decide (b = (1, false, false)) ∧ ∀ b', bkStep b 101 = some b' → b' = (2, true, false) by
        by_cases e : b = (1, false, false)
        · subst e; exact ⟨rfl, fun b' h => (Option.some.inj h).symm⟩
        · simp [bkStep, e])
      clear hb
      unfold insV
      go_enter Try.func59, Try.ntmps59
      go_wp2_with fail
      go_ret2
      exact ⟨⟨insV (2, true, false), by rw [E.out.1]; rfl, fun b' h => by have q := E.out.2 b' h; subst q; rfl⟩, rfl⟩
    · have a1 := is_ins hb (c := (2, true, false)) rfl 119 rfl
      have E := Lib.hid (show (bkStep b 108).isSome = decide (b = (2, true, false)) ∧ ∀ b', bkStep b 108 = some b' → b' = (2, false, false) by
        by_cases e : b = (2, true, false)
        · subst e; exact ⟨rfl, fun b' h => (Option.some.inj h).symm⟩
        · simp [bkStep, e])
      clear hb
      unfold insV
      go_enter Try.func59, Try.ntmps59
      go_wp2_with fail
      go_ret2
      exact ⟨⟨insV (2, false, false), by rw [E.out.1]; rfl, fun b' h => by have q := E.out.2 b' h; subst q; rfl⟩, rfl⟩
    · have a1 := is_ins hb (c := (2, false, false)) rfl 120 rfl
      have E := Lib.hid (show (bkStep b 102).isSome = decide (b = (2, false, false)) ∧ ∀ b', bkStep b 102 = some b' → b' = (0, false, false) by
        by_cases e : b = (2, false, false)
        · subst e; exact ⟨rfl, fun b' h => (Option.some.inj h).symm⟩
        · simp [bkStep, e])
      clear hb
      unfold insV
      go_enter Try.func59, Try.ntmps59
      go_wp2_with fail
      go_ret2
      exact ⟨⟨insV (0, false, false), by rw [E.out.1]; rfl, fun b' h => by have q := E.out.2 b' h; subst q; rfl⟩, rfl⟩
  · have E := Lib.hid (bkStep_other (b := b) hc)
    obtain ⟨h1, h2, h3, h4, h5, h6, h7⟩ := hc
    clear hb
    unfold insV
    go_enter Try.func59, Try.ntmps59
    go_wp2_with fail
    go_ret2
    exact ⟨⟨.nilIface, by rw [E.out]; rfl, fun b' h => by rw [E.out] at h; cases h⟩, rfl⟩

end Go.Proofs.Ytpofkfcjnhoamaa
