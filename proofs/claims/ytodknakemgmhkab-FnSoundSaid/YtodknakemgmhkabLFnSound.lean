/-
  For every input the law 'FnSound' returns true, and each of its arguments reads behind the call as it read before. Conditions: none beyond those of the row.
-/
import Derived.Test.YtodknakemgmhkabRows
import Derived.WalkKit
import Derived.ProofKit
import Derived.OpenShut
import Derived.ShutString
import Derived.ChangeOld
import Derived.Below
import Derived.Deep.Matrix
import Derived.Test.YtodknakemgmhkabIo
import Derived.Test.YtodknakemgmhkabDrawG
import Derived.Test.YtodknakemgmhkabRegP
import Derived.Test.YtodknakemgmhkabRegS
import Derived.Test.YtodknakemgmhkabRegV
import Derived.Lib.QuietBelow
import Derived.BigQuiet
namespace Go.Proofs.Ytodknakemgmhkab
open Go.RowKit

open Go.Sort

set_option maxHeartbeats 1000000 in
theorem normalBlk (w : World) :
    Calls Try.prog 22 #[] w fun e w' => e = .returned (bkV nb) ∧ Below w.heap.size w w' := by
  go_enter Try.func22, Try.ntmps22
  go_wp2_with fail
  exact bodyPost_ret (v := bkV nb) (by simp [results, Try.results22, go_sem, bkV, nb]) rfl ⟨rfl, below_alloc _ _⟩
theorem normalE (w : World) :
    Calls Try.prog 22 #[] w fun e w' => e = .returned (.agg #[.int .i64 nb.1, .bool nb.2.1, .bool nb.2.2]) ∧ Below w.heap.size w w' := normalBlk w

set_option maxRecDepth 100000 in
set_option maxHeartbeats 8000000 in
theorem walk_FnSound (a0 : Option Addr) (len0 cap0 : Nat) (z0 : List Int) (a1 : Option Addr) (len1 cap1 : Nat) (z1 : List Int) (w : World) (w0 : IsRowK .u8 w a0 len0 cap0 z0) (w1 : IsRowK .u8 w a1 len1 cap1 z1) :
    Calls Try.prog 3 #[.slice a0 len0 cap0, .slice a1 len1 cap1] w fun e w' => e = .returned (.bool true) ∧ Below w.heap.size w w' := by
  have _ := w1
  rcases Nat.lt_or_ge 1048576 len0 with hbig | hsm
  · have hb : (1048576 : Int) < (len0 : Int) := by omega
    go_enter Try.func3, Try.ntmps3
    go_wp2_with fail
    go_ret
    exact ⟨rfl, Below.refl _ _⟩
  have hb : (len0 : Int) ≤ 1048576 := by omega
  rcases Nat.lt_or_ge 1048576 len1 with hbig1 | hsm1
  · have hb1 : (1048576 : Int) < (len1 : Int) := by omega
    go_enter Try.func3, Try.ntmps3
    go_wp2_with fail
    go_ret
    exact ⟨rfl, Below.refl _ _⟩
  have hb1 : (len1 : Int) ≤ 1048576 := by omega
  have DN := Lib.hid (drawSound w0 hsm)
  clear w0
  go_enter Try.func3, Try.ntmps3
  go_wp2_with (go_at_call 16; refine DN.out.mono ?_; rintro e u1 ⟨v, ns, rfl, ho, hl, hd, b1⟩)
  have M1 := OwnN.nts ho (by omega)
  have M := Lib.hid (fun (X : World) (c : Below u1.heap.size u1 X) => (Rd.below M1 c : Mvs X v ns))
  have C1 := Lib.hid b1
  clear ho hd b1 M1 DN
  have SI := Lib.hid (fun (X : World) (c : Below u1.heap.size u1 X) => implRegisterSound (M.out X c))
  have SS := Lib.hid (fun (X : World) (c : Below u1.heap.size u1 X) => specRegisterSound (M.out X c))
  cases hs : soundB ns
  · rw [hs] at SI SS
    clear hs M
    go_wp2_with (first
      | (go_at_call 17; refine (SI.out _ (Below.refl _ _)).mono ?_; rintro e u2 ⟨rfl, b2⟩; clear SI)
      | (go_at_call 18; refine (SS.out _ b2).mono ?_; rintro e u3 ⟨rfl, b3⟩))
    go_ret
    exact ⟨rfl, chain C1.out (chain b2 b3)⟩
  · rw [hs] at SI SS
    obtain ⟨hr, hlg⟩ := sound_is hs
    obtain ⟨y, hy⟩ : ∃ y, bkRun nb (nTx ns) = some y := Option.isSome_iff_exists.1 hlg
    have hsz : (nTx ns).size ≤ 2097152 := by rw [nTx_size hr]; omega
    have FU := Lib.hid (fun (m : Int) => show soundB (untV ns m) = true by unfold untV; rw [regL_yes hr]; exact sound_unt hs m)
    have UL := Lib.hid (fun (m : Int) => show (untV ns m).length ≤ 1048576 from Nat.le_trans (untV_len ns m) (by omega))
    have UI := Lib.hid (fun (X : World) (c : Below u1.heap.size u1 X) (m : Int) => show Calls Try.prog 19 #[v, .int .i64 m] X (MadeNtsB X (untV ns m) true) by have := implRegisterUntil (M.out X c) m; rw [hr] at this; exact this)
    have BK := Lib.hid (fun (X : World) (c : Below u1.heap.size u1 X) => show Calls Try.prog 20 #[v, .int .i64 2000] X fun e w' => e = .returned (.tuple #[.agg #[.int .i64 y.1, .bool y.2.1, .bool y.2.2], .bool true]) ∧ Below X.heap.size X w' by
      have := implRegisterBlock (M.out X c) 2000
      rw [show blkV ns 2000 = some y by unfold blkV; rw [if_pos hs, unt_all hr, hy]] at this
      exact this)
    have TX := Lib.hid (fun (X : World) (c : Below u1.heap.size u1 X) => show Calls Try.prog 23 #[v] X fun e w' => e = .returned (.string (nTx ns)) ∧ Below X.heap.size X w' by
      have := implRegisterText (M.out X c)
      rw [show regT ns = nTx ns by unfold regT; rw [regL_yes hr]] at this
      exact this)
    have RN := Lib.hid (fun (X : World) => show Calls Try.prog 21 #[.agg #[.int .i64 nb.1, .bool nb.2.1, .bool nb.2.2], .string (nTx ns)] X fun e w' => e = .returned (.tuple #[.agg #[.int .i64 y.1, .bool y.2.1, .bool y.2.2], .bool true]) ∧ Below X.heap.size X w' by
      have := implRunE nb (nTx ns) hsz X
      rw [hy] at this
      exact this)
    have LG := Lib.hid (fun (X : World) => show Calls Try.prog 24 #[.string (nTx ns)] X fun e w' => e = .returned (.bool true) ∧ Below X.heap.size X w' by
      have := implLegal (nTx ns) hsz X
      rw [hlg] at this
      exact this)
    have eqb := fun w => eqBlk y y w
    rw [decide_eq_true (rfl : y = y)] at eqb
    obtain ⟨S, hS⟩ : ∃ S, S = nTx ns := ⟨_, rfl⟩
    rw [← hS] at TX RN LG
    clear hs hr hlg hy hsz hS M
    go_wp2_with (first
      | (go_at_call 17; refine (SI.out _ (Below.refl _ _)).mono ?_; rintro e u2 ⟨rfl, b2⟩)
      | (go_at_call 18; refine (SS.out _ b2).mono ?_; rintro e u3 ⟨rfl, b3⟩; have B3 := Lib.hid (chain b2 b3); clear b2 b3 SS)
      | (go_at_call 19; refine (UI.out _ B3.out _).mono ?_; rintro e u4 ⟨x, rfl, ox, b4⟩; have OX := Lib.hid ox; have B4 := Lib.hid (chain B3.out b4); clear ox b4)
      | (go_at_call 20; refine (BK.out _ B4.out).mono ?_; rintro e u5 ⟨rfl, b5⟩; have B5 := Lib.hid (chain B4.out b5); have K5 := Lib.hid b5; clear b5))
    have e5 := below_alloc u5 (.cells #[.int .i64 y.1, .bool y.2.1, .bool y.2.2] 29)
    have t5 := Tri3.new u5 (.int .i64 y.1) (.bool y.2.1) (.bool y.2.2) 29
    have ox5 := OX.out.below (chain K5.out e5)
    obtain ⟨X5, hX5⟩ : ∃ X, X = u5.alloc (.cells #[.int .i64 y.1, .bool y.2.1, .bool y.2.2] 29) := ⟨_, rfl⟩
    rw [← hX5] at e5 t5 ox5 ⊢
    have C5 := Lib.hid (chain B5.out e5)
    have SX := Lib.hid (fun (X : World) (c : Below X5.heap.size X5 X) => show Calls Try.prog 17 #[x] X fun e w' => e = .returned (.bool true) ∧ Below X.heap.size X w' by
      have := implRegisterSound (Rd.below (OwnN.nts ox5 (UL.out _)) c)
      rw [FU.out _] at this
      exact this)
    clear hX5 e5 ox5 UI BK SI OX K5 FU UL
    refine (normalE X5).mono ?_
    rintro e u6 ⟨rfl, b6⟩
    have t6 := t5.below b6
    clear t5
    go_upto_region 11 with (first
      | (go_at_call 23; refine (TX.out _ (chain C5.out b6)).mono ?_; rintro e u7 ⟨rfl, b7⟩)
      | (go_at_call 21; refine (RN.out _).mono ?_; rintro e u8 ⟨rfl, b8⟩))
    have e8 := below_alloc u8 (.cells #[.int .i64 y.1, .bool y.2.1, .bool y.2.2] 29)
    have t8 := Tri3.new u8 (.int .i64 y.1) (.bool y.2.1) (.bool y.2.2) 29
    have s8 := ((t6.below b7).below b8).below e8
    obtain ⟨X8, hX8⟩ : ∃ X, X = u8.alloc (.cells #[.int .i64 y.1, .bool y.2.1, .bool y.2.2] 29) := ⟨_, rfl⟩
    rw [← hX8] at e8 t8 s8 ⊢
    have D8 := Lib.hid (chain b6 (chain b7 (chain b8 e8)))
    have l0 := t8.cell0
    have l1 := t8.cell1
    have l2 := t8.cell2
    have m0 := s8.cell0
    have m1 := s8.cell1
    have m2 := s8.cell2
    clear hX8 e8 t8 s8 b6 b7 b8 t6 RN
    go_wp2_with (first
      | (go_at_call 17; refine (SX.out _ D8.out).mono ?_; rintro e u9 ⟨rfl, b9⟩; have D9 := Lib.hid (chain D8.out b9); clear b9)
      | (go_at_call 23; refine (TX.out _ (chain C5.out D9.out)).mono ?_; rintro e v1 ⟨rfl, c1⟩; have E1 := Lib.hid (chain D9.out c1); clear c1)
      | (go_at_call 24; refine (LG.out _).mono ?_; rintro e v2 ⟨rfl, c2⟩; have E2 := Lib.hid (chain E1.out c2); clear c2))
    go_ret
    exact ⟨rfl, chain C1.out (chain C5.out E2.out)⟩

end Go.Proofs.Ytodknakemgmhkab

namespace Go.Proofs.Ytodknakemgmhkab.fnSound
open Go.ChangeShapes Go.WideShapes Go.ChangeAt Go.RowKit
open Go.ChangeMaps (open_string shut_string)
set_option linter.unusedVariables false

theorem own : ownKnob Try.prog.godebug = none := by kernel_rfl
theorem laidOut : laidOutB Try.prog = true := by kernel_rfl

set_option maxRecDepth 100000 in
theorem lifted (os : Os) (started : os.Started) (H : Type) (enc : TypeId × Value → H) :
    ReturnsInHanded {} Try.checked os 3 .any (Rows.fnSoundSpec.pre6 enc Try.prog Try.f3 Rows.fnSoundRow.domain false) (Rows.fnSoundSpec.post enc Try.prog Try.f3 false true false false) := by
  refine returnsInHanded_of_change (C := Try.checked) own started (by kernel_rfl) Try.func3
    (ChangeSpec.witness6 (enc := enc) (C := Try.checked) false ⟨#[], #[.slice none 0 0, .slice none 0 0], []⟩ 8 (by kernel_rfl) (by kernel_rfl) (by kernel_rfl) (by kernel_rfl)) ?_
  intro W base args ds gs before hval0 hW hcnd _
  have hval : ∀ (j : Nat) t v, Try.f3.params[j]? = some t → args[j]? = some v → Value.okWide Try.prog W .any base t v := hval0
  have hW' := hW
  obtain ⟨p, q, hA0, hV, rfl, hfz, hnd⟩ := hW
  have hA : DataW.TrodAll enc Try.prog W 0 (fun _ => true) true Try.f3.params.toList args.toList ds p := hA0
  rw [Try.params3] at hA hval
  obtain ⟨v0, vs0, d0, ds0, p0, q0, hargs, rfl, rfl, h0, r0⟩ := trodAll_cons hA
  obtain ⟨v1, vs1, d1, ds1, p1, q1, rfl, rfl, rfl, h1, r1⟩ := trodAll_cons r0
  obtain ⟨rfl, rfl, rfl⟩ := trodAll_nil r1
  obtain rfl : args = #[v0, v1] := by cases args; simp_all
  obtain ⟨rfl, rfl⟩ := trodVars_none hV
  obtain ⟨a0, len0, cap0, rfl⟩ := okWide_slice Try.underlying22 (hval 0 22 v0 rfl rfl)
  have k0 := h0
  have lt0 : ∀ x ∈ p0, x.block < W.heap.size := by obtain ⟨m, hm⟩ := k0; exact DataW.trod_lt m _ _ _ hm
  obtain ⟨z0, w0⟩ : ∃ zs, IsRowK .u8 W a0 len0 cap0 zs := by
    obtain ⟨fuel, hf⟩ := h0
    rcases open_ints Try.underlying22 Try.underlying5 (by kernel_rfl) hf with ⟨hcs, _⟩ | ⟨x, l, c, zs, hcs, _, hl, hm, hz, _, hcell, hwz⟩
    · simp [Value.cells] at hcs
      obtain ⟨rfl, rfl, rfl⟩ := hcs
      exact ⟨[], .inl ⟨rfl, rfl, rfl, rfl⟩⟩
    · simp [Value.cells] at hcs
      obtain ⟨rfl, rfl, rfl⟩ := hcs
      exact ⟨zs, .inr ⟨_, rfl, hl, hm, by simpa using hz, hcell, hwz⟩⟩
  obtain ⟨a1, len1, cap1, rfl⟩ := okWide_slice Try.underlying22 (hval 1 22 v1 rfl rfl)
  have k1 := h1
  have lt1 : ∀ x ∈ p1, x.block < W.heap.size := by obtain ⟨m, hm⟩ := k1; exact DataW.trod_lt m _ _ _ hm
  obtain ⟨z1, w1⟩ : ∃ zs, IsRowK .u8 W a1 len1 cap1 zs := by
    obtain ⟨fuel, hf⟩ := h1
    rcases open_ints Try.underlying22 Try.underlying5 (by kernel_rfl) hf with ⟨hcs, _⟩ | ⟨x, l, c, zs, hcs, _, hl, hm, hz, _, hcell, hwz⟩
    · simp [Value.cells] at hcs
      obtain ⟨rfl, rfl, rfl⟩ := hcs
      exact ⟨[], .inl ⟨rfl, rfl, rfl, rfl⟩⟩
    · simp [Value.cells] at hcs
      obtain ⟨rfl, rfl, rfl⟩ := hcs
      exact ⟨zs, .inr ⟨_, rfl, hl, hm, by simpa using hz, hcell, hwz⟩⟩
  clear hA0 hval0
  refine (walk_FnSound a0 len0 cap0 z0 a1 len1 cap1 z1 W w0 w1).mono fun e W' ⟨he, bel⟩ => ?_
  subst he
  exact ⟨_, rfl, _, _, _, [], _, [], hW', trodAll_mk1 (shut_bool Try.underlying4 _), (trodAll_cons_mk (Below.trod laidOut (by kernel_rfl) (of_decide_eq_true (by kernel_rfl)) k0 bel lt0) (trodAll_cons_mk (Below.trod laidOut (by kernel_rfl) (of_decide_eq_true (by kernel_rfl)) k1 bel lt1) trodAll_mk0)), rfl, bel.frame _, fun h => by cases h⟩

theorem closed : joinedFacts Try.checked.prog 3 Try.f3 Rows.fnSoundSpec Rows.fnSoundRow = true := by
  unfold joinedFacts
  simp only [Bool.and_eq_true]
  repeat' (refine And.intro ?_ ?_)
  all_goals first
    | with_reducible exact may_enter
    | (rw [lifts_final]; kernel_rfl)
    | (rw [make_is]; kernel_rfl)
    | kernel_rfl

theorem over : Rows.fnSoundRow.holds Try.pinned (OpenSpec.ofChange Rows.fnSoundSpec) :=
  OpenClaim.holds_of_wide 3 Try.f3 rfl rfl rfl rfl rfl rfl rfl ⟨rfl, rfl, rfl, rfl, rfl⟩ rfl rfl rfl rfl rfl (by kernel_rfl) Try.func3 closed
    (of_decide_eq_true (by kernel_rfl)) (by unfold Func.isWrapper; first | (rw [if_pos (by decide +kernel)]; kernel_rfl) | (rw [if_neg (by decide +kernel)]; exact ⟨rfl, rfl⟩))
    (fun os started H enc _ => lifted os started H enc)

theorem proved : Rows.FnSoundSaid := over
#print axioms proved
end Go.Proofs.Ytodknakemgmhkab.fnSound
