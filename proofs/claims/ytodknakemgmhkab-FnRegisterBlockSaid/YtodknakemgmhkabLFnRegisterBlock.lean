/-
  For every input the law 'FnRegisterBlock' returns true, and each of its arguments reads behind the call as it read before. Conditions: none beyond those of the row.
-/
import Derived.Test.YtodknakemgmhkabRows
import Derived.WalkKit
import Derived.ProofKit
import Derived.OpenShut
import Derived.ShutString
import Derived.ChangeOld
import Derived.Below
import Derived.Deep.Matrix
import Derived.Test.YtodknakemgmhkabIo
import Derived.Test.YtodknakemgmhkabDrawG
import Derived.Test.YtodknakemgmhkabRegP
import Derived.Test.YtodknakemgmhkabRegS
import Derived.Test.YtodknakemgmhkabRegV
import Derived.Lib.QuietBelow
import Derived.BigQuiet
import Derived.Test.YtodknakemgmhkabNoteF
import Derived.Test.YtodknakemgmhkabRegB
import Derived.Test.YtodknakemgmhkabRegR
import Derived.Test.YtodknakemgmhkabBlockT
namespace Go.Proofs.Ytodknakemgmhkab
open Go.RowKit

open Go.Sort

theorem trains_count {ns : List Mv} (h : soundB ns = true) : ∀ k, k < ns.length → ((trT ns (k + 1)).length : Int) = cntTo (nTx ns) 108 (k + 1) := by
  obtain ⟨hr, hl⟩ := sound_is h
  intro k
  induction k with
  | zero =>
    intro hk
    have := legal_l0 hl (by rw [nTx_size hr]; exact hk)
    simp only [trT, cntTo]
    rw [if_neg this]
    rfl
  | succ k ih =>
    intro hk
    have i := ih (by omega)
    have hb := reg_bt hr hk
    have he := (reg_note hr hk).2.2
    rw [cntTo]
    by_cases e : (ns.getD (k + 1) noMv).2 = ltS 4
    · rw [trT_yes e, List.length_append, if_pos (by rw [hb, e]; decide), ← i]
      rfl
    · rw [trT_no e, if_neg (fun q => e (size_one_ext (evB_size he) (by decide) (by rw [← hb, q]; decide))), i]
theorem trL_count {ns : List Mv} (h : soundB ns = true) : trainsOf (nTx ns) = ((trL ns).length : Int) := by
  obtain ⟨hr, hl⟩ := sound_is h
  unfold trainsOf trL
  rw [if_pos hl, if_pos h, nTx_size hr]
  rcases Nat.eq_zero_or_pos ns.length with h0 | h0
  · rw [h0]; rfl
  · have := trains_count h (ns.length - 1) (by omega)
    rw [show ns.length - 1 + 1 = ns.length by omega] at this
    exact this.symm
theorem neBlk (x y : Blk) (w : World) : (binOp .neq 29 (.agg #[.int .i64 x.1, .bool x.2.1, .bool x.2.2]) (.agg #[.int .i64 y.1, .bool y.2.1, .bool y.2.2])).run Try.prog w = .ok (.bool (!decide (x = y))) w := by
  obtain ⟨n, i, o⟩ := x
  obtain ⟨n', i', o'⟩ := y
  by_cases e : n = n'
  · subst e
    cases i <;> cases i' <;> cases o <;> cases o' <;> simp [go_sem, Try.underlying29, Try.underlying3, Try.underlying4]
  · simp [go_sem, Try.underlying29, Try.underlying3, Try.underlying4, e]

set_option maxHeartbeats 1000000 in
theorem drawBlockM {w : World} {a : Option Addr} {len cap : Nat} {zs : List Int} (h : IsRowK .u8 w a len cap zs) (hl : len ≤ 1048576) :
    Calls Try.prog 32 #[.slice a len cap] w fun e w' => ∃ (v : Value) (m : Int) (ns : List Mv), e = .returned (.tuple #[v, .int .i64 m]) ∧ OwnN w' w.heap.size v ns ∧ ns.length ≤ 33 ∧ (-2 ≤ m ∧ m ≤ 110) ∧ Below w.heap.size w w' := by
  go_enter Try.func32, Try.ntmps32
  go_wp2_with (first
    | (go_at_call 70; refine (openRd h hl).mono ?_; rintro e w1 ⟨g, rfl, hg, hr, b1⟩; have R1 := Lib.hid hr; have B1 := Lib.hid b1; clear hr b1)
    | (go_at_call 69; refine (drawNotes R1.out (by omega) hg).mono ?_; rintro e w2 ⟨v, ns, q, rfl, ho, hn, -, hr, hq, b2⟩; have HO := Lib.hid ho; have R2 := Lib.hid hr; have B2 := Lib.hid (B1.out.trans b2); have G2 := Lib.hid (show w.heap.size ≤ w2.heap.size from (B1.out.trans b2).size); clear ho hr b2)
    | (go_at_call 83; refine (pick R2.out (by omega) (by omega) (by omega)).mono ?_; rintro e w3 ⟨r, rfl, hr0, hr1, -, g3⟩; have hr2 := hr1 (by omega); have HG := Lib.hid g3; clear g3 hr1))
  go_ret2
  exact ⟨v, r - 2, ns, rfl, Ow.mono (own_pickN HO.out HG.out R1.out.lt) B1.out.size, hn, by omega, Below.pick B2.out G2.out hg HG.out⟩

set_option maxRecDepth 100000 in
set_option maxHeartbeats 8000000 in
theorem walk_FnRegisterBlock (a0 : Option Addr) (len0 cap0 : Nat) (z0 : List Int) (w : World) (w0 : IsRowK .u8 w a0 len0 cap0 z0) :
    Calls Try.prog 7 #[.slice a0 len0 cap0] w fun e w' => e = .returned (.bool true) ∧ Below w.heap.size w w' := by
  rcases Nat.lt_or_ge 1048576 len0 with hbig | hsm
  · have hb : (1048576 : Int) < (len0 : Int) := by omega
    go_enter Try.func7, Try.ntmps7
    go_wp2_with fail
    go_ret
    exact ⟨rfl, Below.refl _ _⟩
  have hb : (len0 : Int) ≤ 1048576 := by omega
  have DN := Lib.hid (drawBlockM w0 hsm)
  clear w0
  go_enter Try.func7, Try.ntmps7
  go_wp2_with (go_at_call 32; refine DN.out.mono ?_; rintro e u1 ⟨v, m, ns, rfl, ho, hl, hm, b1⟩)
  have M1 := OwnN.nts ho (by omega)
  have M := Lib.hid (fun (X : World) (c : Below u1.heap.size u1 X) => (Rd.below M1 c : Mvs X v ns))
  have C1 := Lib.hid b1
  clear ho b1 M1 DN hm
  have BI := Lib.hid (fun (X : World) (c : Below u1.heap.size u1 X) => implRegisterBlock (M.out X c) m)
  have BS := Lib.hid (fun (X : World) (c : Below u1.heap.size u1 X) => specRegisterBlock (M.out X c) m)
  obtain ⟨y, hy⟩ : ∃ y, y = (blkV ns m).getD nb := ⟨_, rfl⟩
  obtain ⟨t, ht⟩ : ∃ t, t = (blkV ns m).isSome := ⟨_, rfl⟩
  rw [← hy, ← ht] at BI BS
  have HY := Lib.hid (And.intro hy ht)
  clear hy ht
  have eqb := fun w => eqBlk y y w
  rw [decide_eq_true (rfl : y = y)] at eqb
  have neb := fun w => neBlk y y w
  rw [decide_eq_true (rfl : y = y)] at neb
  refine (BI.out _ (Below.refl _ _)).mono ?_
  rintro e u2 ⟨rfl, b2⟩
  have e2 := below_alloc u2 (.cells #[.int .i64 y.1, .bool y.2.1, .bool y.2.2] 29)
  have t2 := Tri3.new u2 (.int .i64 y.1) (.bool y.2.1) (.bool y.2.2) 29
  obtain ⟨X2, hX2⟩ : ∃ X, X = u2.alloc (.cells #[.int .i64 y.1, .bool y.2.1, .bool y.2.2] 29) := ⟨_, rfl⟩
  rw [← hX2] at e2 t2
  have HX2 := Lib.hid hX2
  have C2 := Lib.hid (chain b2 e2)
  clear hX2 e2 b2
  go_upto_region 5 with fail
  rw [← HX2.out]
  go_wp2_with (go_at_call 33; refine (BS.out _ C2.out).mono ?_)
  rintro e u3 ⟨rfl, b3⟩
  have e3 := below_alloc u3 (.cells #[.int .i64 y.1, .bool y.2.1, .bool y.2.2] 29)
  have t3 := Tri3.new u3 (.int .i64 y.1) (.bool y.2.1) (.bool y.2.2) 29
  have s3 := (t2.below b3).below e3
  obtain ⟨X3, hX3⟩ : ∃ X, X = u3.alloc (.cells #[.int .i64 y.1, .bool y.2.1, .bool y.2.2] 29) := ⟨_, rfl⟩
  rw [← hX3] at e3 t3 s3
  have HX3 := Lib.hid hX3
  have C3 := Lib.hid (chain C2.out (chain b3 e3))
  clear hX3 e3 b3 t2
  go_upto_region 6 with fail
  rw [← HX3.out]
  have l0 := t3.cell0
  have l1 := t3.cell1
  have l2 := t3.cell2
  have m0 := s3.cell0
  have m1 := s3.cell1
  have m2 := s3.cell2
  cases t
  · clear M BI BS HY
    go_wp2_with fail
    go_ret
    exact ⟨rfl, chain C1.out C3.out⟩
  · have S3 := Lib.hid s3
    have hs : soundB ns = true := by
      have q := HY.out.2
      cases e : soundB ns
      · rw [show blkV ns m = none by unfold blkV; rw [if_neg (by simp [e])]] at q
        cases q
      · rfl
    have hu := sound_unt hs m
    obtain ⟨U, hU⟩ : ∃ U, U = untL ns m := ⟨_, rfl⟩
    have hb : bkRun nb (nTx U) = some y := by
      have q := HY.out
      rw [show blkV ns m = bkRun nb (nTx U) by unfold blkV; rw [if_pos hs, hU]] at q
      cases e : bkRun nb (nTx U) with
      | none => rw [e] at q; cases q.2
      | some z => rw [e] at q; rw [q.1]; rfl
    rw [← hU] at hu
    obtain ⟨hr, hlg⟩ := sound_is hu
    have hsz : (nTx U).size ≤ 1048576 := by rw [nTx_size hr]; have := (regB_is hr).1; omega
    have hpos : bkPos y = true := by
      have q := hb
      unfold bkRun at q
      split at q
      · exact bkTo_pos (by decide) q
      · cases q
    have UI := Lib.hid (fun (X : World) (c : Below u1.heap.size u1 X) => show Calls Try.prog 19 #[v, .int .i64 m] X (MadeNtsB X U true) by
      have := implRegisterUntil (M.out X c) m
      rw [(sound_is hs).1, show untV ns m = U by unfold untV; rw [regL_yes (sound_is hs).1, hU]] at this
      exact this)
    have UL := Lib.hid (show U.length ≤ 1048576 by have := (regB_is hr).1; omega)
    have BK := Lib.hid (fun (X : World) (x : Value) (i : Mvs X x U) => show Calls Try.prog 20 #[x, .int .i64 2000] X fun e w' => e = .returned (.tuple #[.agg #[.int .i64 y.1, .bool y.2.1, .bool y.2.2], .bool true]) ∧ Below X.heap.size X w' by
      have := implRegisterBlock i 2000
      rw [show blkV U 2000 = some y by unfold blkV; rw [if_pos hu, unt_all hr, hb]] at this
      exact this)
    have TX := Lib.hid (fun (X : World) (x : Value) (i : Mvs X x U) => show Calls Try.prog 23 #[x] X fun e w' => e = .returned (.string (nTx U)) ∧ Below X.heap.size X w' by
      have := implRegisterText i
      rw [show regT U = nTx U by unfold regT; rw [regL_yes hr]] at this
      exact this)
    have PS := Lib.hid (fun (X : World) => show Calls Try.prog 34 #[.agg #[.int .i64 y.1, .bool y.2.1, .bool y.2.2]] X fun e w' => e = .returned (.bool true) ∧ Below X.heap.size X w' by
      have := implPossible y X
      rw [hpos] at this
      exact this)
    have TR := Lib.hid (fun (X : World) => show Calls Try.prog 36 #[.string (nTx U)] X fun e w' => e = .returned (.int .i64 ((trL U).length : Int)) ∧ Below X.heap.size X w' by
      have := implTrains (nTx U) hsz X
      rw [trL_count hu] at this
      exact this)
    have RT := Lib.hid (fun (X : World) (x : Value) (i : Mvs X x U) => implRegisterTrains i)
    obtain ⟨ts, hts⟩ : ∃ ts, ts = trL U := ⟨_, rfl⟩
    obtain ⟨S, hS⟩ : ∃ S, S = nTx U := ⟨_, rfl⟩
    rw [← hts] at TR RT
    rw [← hS] at TX TR
    clear hs hu hU hb hr hlg hsz hpos hts hS M BI BS HY
    go_upto_region 10 with (first
      | (go_at_call 19; refine (UI.out _ C3.out).mono ?_; rintro e u4 ⟨x, rfl, ox, b4⟩; have OX := Lib.hid (OwnN.nts ox UL.out); have B4 := Lib.hid b4; clear ox b4)
      | (go_at_call 20; refine (BK.out _ _ OX.out).mono ?_; rintro e u5 ⟨rfl, b5⟩))
    clear l0 l1 l2 m0 m1 m2
    have e5 := below_alloc u5 (.cells #[.int .i64 y.1, .bool y.2.1, .bool y.2.2] 29)
    have t5 := Tri3.new u5 (.int .i64 y.1) (.bool y.2.1) (.bool y.2.2) 29
    have s5 := ((S3.out.below B4.out).below b5).below e5
    obtain ⟨X5, hX5⟩ : ∃ X, X = u5.alloc (.cells #[.int .i64 y.1, .bool y.2.1, .bool y.2.2] 29) := ⟨_, rfl⟩
    rw [← hX5] at e5 t5 s5 ⊢
    have C5 := Lib.hid (chain C3.out (chain B4.out (chain b5 e5)))
    have MX := Lib.hid (fun (X : World) (c : Below X5.heap.size X5 X) => (Rd.below (Rd.below OX.out (chain b5 e5)) c : Mvs X x U))
    have l0 := t5.cell0
    have l1 := t5.cell1
    have l2 := t5.cell2
    have m0 := s5.cell0
    have m1 := s5.cell1
    have m2 := s5.cell2
    clear hX5 e5 b5 t5 s5 OX UI BK
    go_wp2_with (first
      | (go_at_call 34; refine (PS.out _).mono ?_; rintro e u6 ⟨rfl, b6⟩; have D6 := Lib.hid b6; clear b6)
      | (go_at_call 35; refine (RT.out _ _ (MX.out _ D6.out)).mono ?_; rintro e u7 ⟨tv, rfl, ot, b7⟩; obtain ⟨ta, tc, rfl⟩ := own_slice2 ot; have D7 := Lib.hid (chain D6.out b7); clear ot b7)
      | (go_at_call 23; refine (TX.out _ _ (MX.out _ D7.out)).mono ?_; rintro e u8 ⟨rfl, b8⟩; have D8 := Lib.hid (chain D7.out b8); clear b8)
      | (go_at_call 36; refine (TR.out _).mono ?_; rintro e u9 ⟨rfl, b9⟩; have D9 := Lib.hid (chain D8.out b9); clear b9))
    go_ret
    exact ⟨rfl, chain C1.out (chain C5.out D9.out)⟩

end Go.Proofs.Ytodknakemgmhkab

namespace Go.Proofs.Ytodknakemgmhkab.fnRegisterBlock
open Go.ChangeShapes Go.WideShapes Go.ChangeAt Go.RowKit
open Go.ChangeMaps (open_string shut_string)
set_option linter.unusedVariables false

theorem own : ownKnob Try.prog.godebug = none := by kernel_rfl
theorem laidOut : laidOutB Try.prog = true := by kernel_rfl

set_option maxRecDepth 100000 in
theorem lifted (os : Os) (started : os.Started) (H : Type) (enc : TypeId × Value → H) :
    ReturnsInHanded {} Try.checked os 7 .any (Rows.fnRegisterBlockSpec.pre6 enc Try.prog Try.f7 Rows.fnRegisterBlockRow.domain false) (Rows.fnRegisterBlockSpec.post enc Try.prog Try.f7 false true false false) := by
  refine returnsInHanded_of_change (C := Try.checked) own started (by kernel_rfl) Try.func7
    (ChangeSpec.witness6 (enc := enc) (C := Try.checked) false ⟨#[], #[.slice none 0 0], []⟩ 8 (by kernel_rfl) (by kernel_rfl) (by kernel_rfl) (by kernel_rfl)) ?_
  intro W base args ds gs before hval0 hW hcnd _
  have hval : ∀ (j : Nat) t v, Try.f7.params[j]? = some t → args[j]? = some v → Value.okWide Try.prog W .any base t v := hval0
  have hW' := hW
  obtain ⟨p, q, hA0, hV, rfl, hfz, hnd⟩ := hW
  have hA : DataW.TrodAll enc Try.prog W 0 (fun _ => true) true Try.f7.params.toList args.toList ds p := hA0
  rw [Try.params7] at hA hval
  obtain ⟨v0, vs0, d0, ds0, p0, q0, hargs, rfl, rfl, h0, r0⟩ := trodAll_cons hA
  obtain ⟨rfl, rfl, rfl⟩ := trodAll_nil r0
  obtain rfl : args = #[v0] := by cases args; simp_all
  obtain ⟨rfl, rfl⟩ := trodVars_none hV
  obtain ⟨a0, len0, cap0, rfl⟩ := okWide_slice Try.underlying22 (hval 0 22 v0 rfl rfl)
  have k0 := h0
  have lt0 : ∀ x ∈ p0, x.block < W.heap.size := by obtain ⟨m, hm⟩ := k0; exact DataW.trod_lt m _ _ _ hm
  obtain ⟨z0, w0⟩ : ∃ zs, IsRowK .u8 W a0 len0 cap0 zs := by
    obtain ⟨fuel, hf⟩ := h0
    rcases open_ints Try.underlying22 Try.underlying5 (by kernel_rfl) hf with ⟨hcs, _⟩ | ⟨x, l, c, zs, hcs, _, hl, hm, hz, _, hcell, hwz⟩
    · simp [Value.cells] at hcs
      obtain ⟨rfl, rfl, rfl⟩ := hcs
      exact ⟨[], .inl ⟨rfl, rfl, rfl, rfl⟩⟩
    · simp [Value.cells] at hcs
      obtain ⟨rfl, rfl, rfl⟩ := hcs
      exact ⟨zs, .inr ⟨_, rfl, hl, hm, by simpa using hz, hcell, hwz⟩⟩
  clear hA0 hval0
  refine (walk_FnRegisterBlock a0 len0 cap0 z0 W w0).mono fun e W' ⟨he, bel⟩ => ?_
  subst he
  exact ⟨_, rfl, _, _, _, [], _, [], hW', trodAll_mk1 (shut_bool Try.underlying4 _), (trodAll_cons_mk (Below.trod laidOut (by kernel_rfl) (of_decide_eq_true (by kernel_rfl)) k0 bel lt0) trodAll_mk0), rfl, bel.frame _, fun h => by cases h⟩

theorem closed : joinedFacts Try.checked.prog 7 Try.f7 Rows.fnRegisterBlockSpec Rows.fnRegisterBlockRow = true := by
  unfold joinedFacts
  simp only [Bool.and_eq_true]
  repeat' (refine And.intro ?_ ?_)
  all_goals first
    | with_reducible exact may_enter
    | (rw [lifts_final]; kernel_rfl)
    | (rw [make_is]; kernel_rfl)
    | kernel_rfl

theorem over : Rows.fnRegisterBlockRow.holds Try.pinned (OpenSpec.ofChange Rows.fnRegisterBlockSpec) :=
  OpenClaim.holds_of_wide 7 Try.f7 rfl rfl rfl rfl rfl rfl rfl ⟨rfl, rfl, rfl, rfl, rfl⟩ rfl rfl rfl rfl rfl (by kernel_rfl) Try.func7 closed
    (of_decide_eq_true (by kernel_rfl)) (by unfold Func.isWrapper; first | (rw [if_pos (by decide +kernel)]; kernel_rfl) | (rw [if_neg (by decide +kernel)]; exact ⟨rfl, rfl⟩))
    (fun os started H enc _ => lifted os started H enc)

theorem proved : Rows.FnRegisterBlockSaid := over
#print axioms proved
end Go.Proofs.Ytodknakemgmhkab.fnRegisterBlock
