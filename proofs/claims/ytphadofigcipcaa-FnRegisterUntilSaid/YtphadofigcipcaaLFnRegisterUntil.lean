/-
  For every input the law 'FnRegisterUntil' returns true, and each of its arguments reads behind the call as it read before. Conditions: none beyond those of the row.
-/
import Derived.Test.YtphadofigcipcaaRows
import Derived.WalkKit
import Derived.ProofKit
import Derived.OpenShut
import Derived.ShutString
import Derived.ChangeOld
import Derived.Below
import Derived.Deep.Matrix
import Derived.Test.YtphadofigcipcaaIo
import Derived.Test.YtphadofigcipcaaDrawJ
import Derived.Test.YtphadofigcipcaaRegJ
import Derived.Test.YtphadofigcipcaaRegB
import Derived.Lib.QuietBelow
import Derived.BigQuiet
namespace Go.Proofs.Ytphadofigcipcaa
open Go.RowKit

open Go.Sort

set_option maxHeartbeats 1000000 in
theorem drawBlockM {w : World} {a : Option Addr} {len cap : Nat} {zs : List Int} (h : IsRowK .u8 w a len cap zs) (hl : len ≤ 1048576) :
    Calls Try.prog 68 #[.slice a len cap] w fun e w' => ∃ (v : Value) (m : Int) (ns : List Mv), e = .returned (.tuple #[v, .int .i64 m]) ∧ OwnN w' w.heap.size v ns ∧ ns.length ≤ 33 ∧ (-2 ≤ m ∧ m ≤ 110) ∧ Below w.heap.size w w' := by
  go_enter Try.func68, Try.ntmps68
  go_wp2_with (first
    | (go_at_call 57; refine (openRd h hl).mono ?_; rintro e w1 ⟨g, rfl, hg, hr, b1⟩; have R1 := Lib.hid hr; have B1 := Lib.hid b1; clear hr b1)
    | (go_at_call 72; refine (drawNotes R1.out (by omega) hg).mono ?_; rintro e w2 ⟨v, ns, q, rfl, ho, hn, -, hr, hq, b2⟩; have HO := Lib.hid ho; have R2 := Lib.hid hr; have B2 := Lib.hid (B1.out.trans b2); have G2 := Lib.hid (show w.heap.size ≤ w2.heap.size from (B1.out.trans b2).size); clear ho hr b2)
    | (go_at_call 59; refine (pick R2.out (by omega) (by omega) (by omega)).mono ?_; rintro e w3 ⟨r, rfl, hr0, hr1, -, g3⟩; have hr2 := hr1 (by omega); have HG := Lib.hid g3; clear g3 hr1))
  go_ret2
  exact ⟨v, r - 2, ns, rfl, Ow.mono (own_pickN HO.out HG.out R1.out.lt) B1.out.size, hn, by omega, Below.pick B2.out G2.out hg HG.out⟩

set_option maxHeartbeats 1000000 in
theorem drawUntilM {w : World} {a : Option Addr} {len cap : Nat} {zs : List Int} (h : IsRowK .u8 w a len cap zs) (hl : len ≤ 1048576) :
    Calls Try.prog 21 #[.slice a len cap] w fun e w' => ∃ (v : Value) (m : Int) (ns : List Mv), e = .returned (.tuple #[v, .int .i64 m]) ∧ OwnN w' w.heap.size v ns ∧ ns.length ≤ 33 ∧ (-2 ≤ m ∧ m ≤ 110) ∧ Below w.heap.size w w' := by
  have D := Lib.hid (drawBlockM h hl)
  clear h
  go_enter Try.func21, Try.ntmps21
  go_wp2_with (go_at_call 68; refine D.out.mono ?_; rintro e w1 ⟨v, m, ns, rfl, h1, h2, h3, h4⟩)
  go_ret2
  exact ⟨v, m, ns, rfl, h1, h2, h3, h4⟩

theorem unt_again (ns : List Mv) (m : Int) : untL (untL ns m) m = untL ns m := by
  induction ns with
  | nil => rfl
  | cons x r ih =>
    rcases Int.lt_or_le m x.1 with q | q
    · rw [untL_no q]; rfl
    · rw [untL_yes q, untL_yes q, ih]
theorem unt_end {ns : List Mv} {m : Int} (h : (untL ns m).length < ns.length) : m < (ns.getD (untL ns m).length noMv).1 := by
  induction ns with
  | nil => simp at h
  | cons x r ih =>
    rcases Int.lt_or_le m x.1 with q | q
    · rw [untL_no q]; exact q
    · rw [untL_yes q] at h ⊢
      exact ih (by simpa using h)
theorem mvs_end {w : World} {av : Option Addr} {ns : List Mv} {k : Nat} (h : ns.length ≤ k) : Mvs w (.slice av (ns.length - k) 0) (ns.drop k) := by
  have e : ns.drop k = [] := List.drop_eq_nil_of_le h
  rw [e, show ns.length - k = 0 by omega]
  exact ⟨av, 0, rfl, ⟨by simp, by simp⟩, .inl rfl⟩
theorem mvs_drop {w : World} {av : Option Addr} {cv : Nat} {ns : List Mv} (h : Mvs w (.slice av ns.length cv) ns) {k : Nat} (hk : k ≤ ns.length) :
    Mvs w (.slice (Option.map (fun x => x.add (k * 2)) av) (ns.length - k) (cv - k)) (ns.drop k) := by
  obtain ⟨a', c', e, ⟨l1, l2⟩, hc⟩ := h
  simp only [Value.slice.injEq] at e
  obtain ⟨rfl, -, rfl⟩ := e
  have hlen : (ns.drop k).length = ns.length - k := List.length_drop
  refine ⟨_, cv - k, by rw [hlen], ⟨by rw [hlen]; omega, by rw [hlen]; omega⟩, ?_⟩
  rcases hc with h0 | ⟨b, o, rfl, hb, hcell⟩
  · exact .inl (by rw [hlen]; omega)
  · refine .inr ⟨b, o + k * 2, by simp [Addr.add_lit], hb, fun q hq => ?_⟩
    rw [hlen] at hq
    have := hcell (k * 2 + q) (by omega)
    rw [show o + k * 2 + q = o + (k * 2 + q) by omega, this]
    unfold mvF
    rw [show (k * 2 + q) % 2 = q % 2 by omega, show (k * 2 + q) / 2 = k + q / 2 by omega]
    simp only [List.getD_eq_getElem?_getD, List.getElem?_drop]
theorem unt_rest (ns : List Mv) (m : Int) : ns = untL ns m ++ ns.drop (untL ns m).length := by
  have hp : untL ns m <+: ns := List.takeWhile_prefix _
  have e := List.prefix_iff_eq_take.1 hp
  conv => lhs; rw [← List.take_append_drop (untL ns m).length ns]
  rw [← e]
theorem unt_facts {ns : List Mv} {m : Int} (h : regB ns = true) : (untV ns m).length ≤ ns.length ∧ joinV (untV ns m) (ns.drop (untV ns m).length) = ns ∧ joinB (untV ns m) (ns.drop (untV ns m).length) = true ∧ untV (untV ns m) m = untV ns m ∧ regB (untV ns m) = true ∧ ((untV ns m).length < ns.length → m < (ns.getD (untV ns m).length noMv).1) := by
  have e : untV ns m = untL ns m := by unfold untV; rw [regL_yes h]
  have hr := reg_unt h m
  rw [e]
  have e2 : untV (untL ns m) m = untL ns m := by unfold untV; rw [regL_yes hr, unt_again]
  refine ⟨untL_length ns m, ?_, ?_, e2, hr, fun q => unt_end q⟩
  · unfold joinV; rw [← unt_rest, regL_yes h]
  · unfold joinB; rw [← unt_rest, h]

set_option maxRecDepth 100000 in
set_option maxHeartbeats 8000000 in
theorem walk_FnRegisterUntil (a0 : Option Addr) (len0 cap0 : Nat) (z0 : List Int) (w : World) (w0 : IsRowK .u8 w a0 len0 cap0 z0) :
    Calls Try.prog 6 #[.slice a0 len0 cap0] w fun e w' => e = .returned (.bool true) ∧ Below w.heap.size w w' := by
  rcases Nat.lt_or_ge 1048576 len0 with hbig | hsm
  · have hb : (1048576 : Int) < (len0 : Int) := by omega
    go_enter Try.func6, Try.ntmps6
    go_wp2_with fail
    go_ret
    exact ⟨rfl, Below.refl _ _⟩
  have hb : (len0 : Int) ≤ 1048576 := by omega
  have DN := Lib.hid (drawUntilM w0 hsm)
  clear w0
  go_enter Try.func6, Try.ntmps6
  go_upto_region 4 with (go_at_call 21; refine DN.out.mono ?_; rintro e u1 ⟨v, m, ns, rfl, ho, hl, hm, b1⟩)
  have M1 := OwnN.nts ho (by omega)
  have M := Lib.hid (fun (X : World) (c : Below u1.heap.size u1 X) => (Rd.below M1 c : Mvs X v ns))
  have C1 := Lib.hid b1
  have U0 := Lib.hid (below_self u1)
  clear ho b1 M1 DN hm
  have IE := Lib.hid (fun (X : World) (c : Below u1.heap.size u1 X) => implRegisterUntil (M.out X c) m)
  have SE := Lib.hid (fun (X : World) (c : Below u1.heap.size u1 X) => specRegisterUntil (M.out X c) m)
  have LL := Lib.hid (Nat.le_trans (untV_len ns m) (by omega : 30 ≤ 1048576))
  have FB := Lib.hid (fun (q : regB ns = true) => unt_facts (m := m) q)
  obtain ⟨ls, hls⟩ : ∃ x, x = untV ns m := ⟨_, rfl⟩
  rw [← hls] at IE SE LL FB
  obtain ⟨p, hp⟩ : ∃ x, x = regB ns := ⟨_, rfl⟩
  rw [← hp] at IE SE FB
  clear hls hp
  go_upto_region 5 with (go_at_call 22; refine (IE.out _ U0.out).mono ?_; rintro e u2 ⟨v2, rfl, o2, b2⟩)
  obtain ⟨a2, c2, rfl⟩ := Ow.slice o2
  have B2 := Lib.hid b2
  have N2 := OwnN.nts o2 LL.out
  have L2 := Lib.hid (fun (X : World) (c : Below u2.heap.size u2 X) => (Rd.below N2 c : Mvs X (.slice a2 ls.length c2) ls))
  clear b2 o2 N2
  go_upto_region 6 with (go_at_call 23; refine (SE.out _ B2.out).mono ?_; rintro e u3 ⟨v3, rfl, o3, b3⟩)
  have B3 := Lib.hid (B2.out.trans (b3.mono B2.out.size))
  have D3 := Lib.hid b3
  have N3 := OwnN.nts o3 LL.out
  have SM := Lib.hid (fun (X : World) (c : Below u3.heap.size u3 X) => sameNotesS (L2.out X (D3.out.trans (c.mono D3.out.size))) (Rd.below N3 c))
  clear b3 o3 N3
  cases p
  · clear FB
    go_wp2_with (first
      | (go_at_call 24; refine (SM.out _ (below_self _)).mono ?_; rintro e u4 ⟨rfl, b4⟩; clear IE)
      | (go_at_call 24; refine (SM.out _ b4).mono ?_; rintro e u5 ⟨rfl, b5⟩))
    go_ret
    exact ⟨rfl, C1.out.trans ((B3.out.trans ((b4.trans (b5.mono b4.size)).mono B3.out.size)).mono C1.out.size)⟩
  obtain ⟨F1, F2, F3, F4, F5, F6⟩ := FB.out rfl
  have HLE := Lib.hid F1
  have HGT := Lib.hid F6
  obtain ⟨av, cv, hv⟩ : ∃ a c, v = .slice a ns.length c := by obtain ⟨a, c, e, -⟩ := M.out _ U0.out; exact ⟨a, c, e⟩
  subst hv
  have hcap : ns.length ≤ cv := by
    obtain ⟨a', c', e, ⟨_, l2⟩, _⟩ := M.out _ U0.out
    simp only [Value.slice.injEq] at e
    obtain ⟨_, _, rfl⟩ := e
    exact l2
  have J1 := Lib.hid (fun (X : World) (c : Below u2.heap.size u2 X) (x : Value) (RM : Mvs X x (ns.drop ls.length)) => show Calls Try.prog 25 #[.slice a2 ls.length c2, x] X (MadeNtsB X ns true) from by
    have q := implRegisterJoin (L2.out X c) RM (by rw [List.length_drop]; omega)
    rw [F2, F3] at q
    exact q)
  have J2 := Lib.hid (fun (X : World) (c : Below u2.heap.size u2 X) => show Calls Try.prog 22 #[.slice a2 ls.length c2, .int .i64 m] X (MadeNtsB X ls true) from by
    have q := implRegisterUntil (L2.out X c) m
    rw [F4, F5] at q
    exact q)
  clear F2 F3 F4 F5 F6 FB IE SE
  go_upto_region 8 with (go_at_call 24; refine (SM.out _ (below_self _)).mono ?_; rintro e u4 ⟨rfl, b4⟩)
  have D4 := Lib.hid (D3.out.trans (b4.mono D3.out.size))
  have B4 := Lib.hid (B2.out.trans (D4.out.mono B2.out.size))
  clear b4 SM D3 B3
  have k0 : (ls.length : Int) ≤ (ns.length : Int) := by omega
  have k1 : (ls.length : Int) ≤ (cv : Int) := by omega
  have k2 : (ns.length : Int) ≤ (cv : Int) := by omega
  have HCAP := Lib.hid hcap
  clear hcap F1
  by_cases hc : cv = ls.length
  case' pos =>
    subst hc
    go_wp2_with fail
    have RM : Mvs u4 (.slice av (ns.length - ls.length) 0) (ns.drop ls.length) := mvs_end (by have := HCAP.out; omega)
  case' neg =>
    go_wp2_with fail
    have RM := mvs_drop (M.out _ B4.out) HLE.out
    clear hc
  all_goals
    have HJ := Lib.hid (J1.out _ D4.out _ RM)
    clear RM k0 k1 k2
    refine HJ.out.mono ?_
    rintro e u5 ⟨v5, rfl, o5, b5⟩
    have D5 := Lib.hid (D4.out.trans (b5.mono D4.out.size))
    have N5 := OwnN.nts o5 (by omega)
    have L5 := Lib.hid (fun (X : World) (c : Below u5.heap.size u5 X) => (Rd.below N5 c : Mvs X v5 ns))
    clear b5 o5 N5 HJ D4 B4
    go_upto_region 10 with (go_at_call 22; refine (J2.out _ D5.out).mono ?_; rintro e u6 ⟨v6, rfl, o6, b6⟩)
    have D6 := Lib.hid (D5.out.trans (b6.mono D5.out.size))
    have N6 := OwnN.nts o6 LL.out
    have BX := Lib.hid (B2.out.trans (D6.out.mono B2.out.size))
    have BZ := Lib.hid (C1.out.trans (BX.out.mono C1.out.size))
    have S5 := Lib.hid b6
    have R1 := Lib.hid (fun (X : World) (c : Below u6.heap.size u6 X) => sameNotesS (L5.out _ (S5.out.trans (c.mono S5.out.size))) (M.out _ (BX.out.trans (c.mono BX.out.size))))
    have R2 := Lib.hid (fun (X : World) (c : Below u6.heap.size u6 X) => sameNotesS (Rd.below N6 c) (L2.out _ (D6.out.trans (c.mono D6.out.size))))
    clear b6 o6 N6 D5 J2
    by_cases hq : ls.length = ns.length
    · have t1 : ((ls.length : Int) == (ns.length : Int)) = true := by rw [hq]; exact beq_self_eq_true _
      clear hq hl
      go_wp2_with (first
        | (go_at_call 24; refine (R1.out _ (below_self _)).mono ?_; rintro e w7 ⟨rfl, b7⟩; have d7 := b7; clear R1)
        | (go_at_call 24; refine (R2.out _ d7).mono ?_; rintro e w8 ⟨rfl, b8⟩; have d8 := d7.trans (b8.mono d7.size)))
      go_ret
      exact ⟨rfl, BZ.out.trans (d8.mono BZ.out.size)⟩
    · have hle := HLE.out
      have hlt : ls.length < ns.length := by omega
      have t1 : ((ls.length : Int) == (ns.length : Int)) = false := by rw [beq_eq_false_iff_ne]; omega
      have hli : (ls.length : Int) < (ns.length : Int) := by omega
      obtain ⟨b, o, rfl, hb, hcell⟩ := Mvs.at (M.out _ U0.out) hlt
      have hgt := HGT.out hlt
      have hc0 := (hcell ls.length hlt).1
      obtain ⟨z, hz⟩ : ∃ z, z = (ns.getD ls.length noMv).1 := ⟨_, rfl⟩
      rw [← hz] at hc0 hgt
      have HC := Lib.hid (fun (X : World) (c : Below u6.heap.size u6 X) => ((BX.out.trans (c.mono BX.out.size)).cell (p := ⟨b, o + ls.length * 2, none⟩) hb).trans hc0)
      have t2 : decide (m < z) = true := decide_eq_true hgt
      clear hz hcell hq hl hle hb hgt hc0
      go_wp2_with (first
        | (go_at_call 24; refine (R1.out _ (below_self _)).mono ?_; rintro e w7 ⟨rfl, b7⟩; have d7 := b7; clear R1)
        | (go_at_call 24; refine (R2.out _ d7).mono ?_; rintro e w8 ⟨rfl, b8⟩; have d8 := d7.trans (b8.mono d7.size); have c0 := HC.out _ d8))
      go_ret
      exact ⟨rfl, BZ.out.trans (d8.mono BZ.out.size)⟩

end Go.Proofs.Ytphadofigcipcaa

namespace Go.Proofs.Ytphadofigcipcaa.fnRegisterUntil
open Go.ChangeShapes Go.WideShapes Go.ChangeAt Go.RowKit
open Go.ChangeMaps (open_string shut_string)
set_option linter.unusedVariables false

theorem own : ownKnob Try.prog.godebug = none := by kernel_rfl
theorem laidOut : laidOutB Try.prog = true := by kernel_rfl

set_option maxRecDepth 100000 in
theorem lifted (os : Os) (started : os.Started) (H : Type) (enc : TypeId × Value → H) :
    ReturnsInHanded {} Try.checked os 6 .any (Rows.fnRegisterUntilSpec.pre6 enc Try.prog Try.f6 Rows.fnRegisterUntilRow.domain false) (Rows.fnRegisterUntilSpec.post enc Try.prog Try.f6 false true false false) := by
  refine returnsInHanded_of_change (C := Try.checked) own started (by kernel_rfl) Try.func6
    (ChangeSpec.witness6 (enc := enc) (C := Try.checked) false ⟨#[], #[.slice none 0 0], []⟩ 8 (by kernel_rfl) (by kernel_rfl) (by kernel_rfl) (by kernel_rfl)) ?_
  intro W base args ds gs before hval0 hW hcnd _
  have hval : ∀ (j : Nat) t v, Try.f6.params[j]? = some t → args[j]? = some v → Value.okWide Try.prog W .any base t v := hval0
  have hW' := hW
  obtain ⟨p, q, hA0, hV, rfl, hfz, hnd⟩ := hW
  have hA : DataW.TrodAll enc Try.prog W 0 (fun _ => true) true Try.f6.params.toList args.toList ds p := hA0
  rw [Try.params6] at hA hval
  obtain ⟨v0, vs0, d0, ds0, p0, q0, hargs, rfl, rfl, h0, r0⟩ := trodAll_cons hA
  obtain ⟨rfl, rfl, rfl⟩ := trodAll_nil r0
  obtain rfl : args = #[v0] := by cases args; simp_all
  obtain ⟨rfl, rfl⟩ := trodVars_none hV
  obtain ⟨a0, len0, cap0, rfl⟩ := okWide_slice Try.underlying22 (hval 0 22 v0 rfl rfl)
  have k0 := h0
  have lt0 : ∀ x ∈ p0, x.block < W.heap.size := by obtain ⟨m, hm⟩ := k0; exact DataW.trod_lt m _ _ _ hm
  obtain ⟨z0, w0⟩ : ∃ zs, IsRowK .u8 W a0 len0 cap0 zs := by
    obtain ⟨fuel, hf⟩ := h0
    rcases open_ints Try.underlying22 Try.underlying5 (by kernel_rfl) hf with ⟨hcs, _⟩ | ⟨x, l, c, zs, hcs, _, hl, hm, hz, _, hcell, hwz⟩
    · simp [Value.cells] at hcs
      obtain ⟨rfl, rfl, rfl⟩ := hcs
      exact ⟨[], .inl ⟨rfl, rfl, rfl, rfl⟩⟩
    · simp [Value.cells] at hcs
      obtain ⟨rfl, rfl, rfl⟩ := hcs
      exact ⟨zs, .inr ⟨_, rfl, hl, hm, by simpa using hz, hcell, hwz⟩⟩
  clear hA0 hval0
  refine (walk_FnRegisterUntil a0 len0 cap0 z0 W w0).mono fun e W' ⟨he, bel⟩ => ?_
  subst he
  exact ⟨_, rfl, _, _, _, [], _, [], hW', trodAll_mk1 (shut_bool Try.underlying4 _), (trodAll_cons_mk (Below.trod laidOut (by kernel_rfl) (of_decide_eq_true (by kernel_rfl)) k0 bel lt0) trodAll_mk0), rfl, bel.frame _, fun h => by cases h⟩

theorem closed : joinedFacts Try.checked.prog 6 Try.f6 Rows.fnRegisterUntilSpec Rows.fnRegisterUntilRow = true := by
  unfold joinedFacts
  simp only [Bool.and_eq_true]
  repeat' (refine And.intro ?_ ?_)
  all_goals first
    | with_reducible exact may_enter
    | (rw [lifts_final]; kernel_rfl)
    | (rw [make_is]; kernel_rfl)
    | kernel_rfl

theorem over : Rows.fnRegisterUntilRow.holds Try.pinned (OpenSpec.ofChange Rows.fnRegisterUntilSpec) :=
  OpenClaim.holds_of_wide 6 Try.f6 rfl rfl rfl rfl rfl rfl rfl ⟨rfl, rfl, rfl, rfl, rfl⟩ rfl rfl rfl rfl rfl (by kernel_rfl) Try.func6 closed
    (of_decide_eq_true (by kernel_rfl)) (by unfold Func.isWrapper; first | (rw [if_pos (by decide +kernel)]; kernel_rfl) | (rw [if_neg (by decide +kernel)]; exact ⟨rfl, rfl⟩))
    (fun os started H enc _ => lifted os started H enc)

theorem proved : Rows.FnRegisterUntilSaid := over
#print axioms proved
end Go.Proofs.Ytphadofigcipcaa.fnRegisterUntil
