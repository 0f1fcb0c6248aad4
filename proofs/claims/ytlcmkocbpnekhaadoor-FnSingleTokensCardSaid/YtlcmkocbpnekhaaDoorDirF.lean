/-
  The kinds with as few S as possible, and how many: the model's and the program's StaffKinds and StaffMany. For texts of at most 1048576 bytes.
-/
import Derived.Test.YtlcmkocbpnekhaaDoorDirE
import Derived.Test.YtlcmkocbpnekhaaDoorBuilder
import Derived.BigQuiet
namespace Go.Proofs.YtlcmkocbpnekhaaDoor
open Go.RowKit Go.Sort

theorem builder_belowD {T e : TypeId} {B b : Nat} {bs : List Value} {w w' : World} (h : Lib.IsBuilderF T e B b bs w) (hb : Below w.heap.size w w') : Lib.IsBuilderF T e B b bs w' := by
  have one : ∀ {p : Value}, Lib.BuilderAtF T e B b p bs w → Lib.BuilderAtF T e B b p bs w' := by
    intro p h
    have hl := h.lt
    obtain ⟨hB, v, h1, h2, h3⟩ := h
    refine ⟨hB, v, (hb.block b hl).trans h1, ⟨h2.1, ?_⟩, h3⟩
    rcases h2.2 with h | ⟨g, cap, cur, fz, hv, h4, h5, h6⟩
    · exact .inl h
    · exact .inr ⟨g, cap, cur, fz, hv, h4, (hb.block g (Array.getElem?_eq_some_iff.1 h5).1).trans h5, h6⟩
  exact h.elim (fun h => .inl (one h)) (fun h => .inr (one h))

theorem kd_S {D : ByteArray} {k : Nat} (h1 : k + 1 < D.size) (h2 : bt D (k + 1) ≠ bt D k) : kdTo D (k + 1) = kdTo D k ++ [83] := by
  rw [kdTo_succ]; unfold kdB; rw [if_pos ⟨h1, h2⟩]
theorem kd_T {D : ByteArray} {k : Nat} (h : ¬ (k + 1 < D.size ∧ bt D (k + 1) ≠ bt D k)) : kdTo D (k + 1) = kdTo D k ++ [84] := by
  rw [kdTo_succ]; unfold kdB; rw [if_neg h]
theorem kd_string {D : ByteArray} {k : Nat} {x : UInt8} (h : kdTo D (k + 1) = kdTo D k ++ [x]) : (⟨(kdTo D k).toArray⟩ : ByteArray) ++ ⟨#[x]⟩ = ⟨(kdTo D (k + 1)).toArray⟩ := by
  rw [h]
  apply ByteArray.ext
  simp
theorem kd_size (D : ByteArray) (k : Nat) : (⟨(kdTo D k).toArray⟩ : ByteArray).size = k := by
  show (kdTo D k).toArray.size = k
  rw [List.size_toArray, kdTo_length]
/-- What StaffKinds hands back. -/
def skS (a : Int) (D : ByteArray) : ByteArray := if (stRun a D (kdS D)).isSome then kdS D else ⟨#[]⟩
def skOk (a : Int) (D : ByteArray) : Bool := (stRun a D (kdS D)).isSome
theorem sk_no {a : Int} {D : ByteArray} (h : skOk a D = false) : skS a D = ⟨#[]⟩ := by unfold skS; unfold skOk at h; rw [h]; rfl
theorem sk_yes {a : Int} {D : ByteArray} (h : skOk a D = true) : skS a D = kdS D := by unfold skS; unfold skOk at h; rw [h]; rfl

set_option maxHeartbeats 4000000 in
theorem implStaffKinds (a : Int) (D : ByteArray) (hD : D.size ≤ 1048576) (w : World) :
    Calls Tryd.prog 9 #[.int .i64 a, .string D] w fun e w' => e = .returned (.tuple #[.string (skS a D), .bool (skOk a D)]) ∧ Below w.heap.size w w' := by
  have SR := Lib.hid (implStaffRun a D (kdS D) (by omega) (by rw [kdS_size]; omega))
  unfold stfV at SR
  obtain ⟨x, hx⟩ : ∃ x, x = (stRun a D (kdS D)).getD 0 := ⟨_, rfl⟩
  obtain ⟨ok, hok⟩ : ∃ ok, ok = (stRun a D (kdS D)).isSome := ⟨_, rfl⟩
  rw [← hx, ← hok] at SR
  have OK := Lib.hid (show skOk a D = ok from hok.symm)
  clear hx hok
  have hfresh := Lib.hid (Lib.IsBuilderF.of (Lib.fresh_isBuilder 48 5 w))
  go_enter Tryd.func9, Tryd.ntmps9
  go_wp2_with fail
  go_loopw [12] (fun i wr => ∃ k : Nat, k ≤ D.size ∧ i = .int .i64 k ∧ Lib.IsBuilderF 48 5 w.heap.size w.heap.size (Lib.byteCells (kdTo D k)) wr ∧ Below w.heap.size w wr) (fun i _ => D.size - (intOf i).toNat)
  case atStart => exact ⟨0, by omega, rfl, hfresh.out, below_alloc _ _⟩
  case round =>
    obtain ⟨k, hk, rfl, hI, hbel⟩ := hrel
    have hsz : w.heap.size ≤ wr.heap.size := hbel.size
    by_cases hlt : k < D.size
    · have hki : (k : Int) < (D.size : Int) := by omega
      have hix := index_is hlt
      have hw1 : IntKind.i64.wrap ((k : Int) + 1) = (k : Int) + 1 := IntWalk.i64_in _ (by omega)
      have hlen : (Lib.byteCells (kdTo D k)).length + 1 ≤ 140737488355328 := by rw [Lib.byteCells_length, kdTo_length]; omega
      have HL := Lib.hid hlen
      have II := Lib.hid hI
      have BB := Lib.hid hbel
      clear hlen hI hbel
      by_cases h1 : k + 1 < D.size
      · have hlss : decide ((k : Int) + 1 < (D.size : Int)) = true := decide_eq_true (by omega)
        have hiy : ∀ (w : World), (Instr.index 9 (.string D) (.int .i64 ((k : Int) + 1))).run Tryd.prog w = .ok (.int .u8 (bt D (k + 1))) w := by
          intro w
          have := index_is (S := D) (k := k + 1) h1 w
          exact this
        by_cases h2 : bt D (k + 1) = bt D k
        · have KT := Lib.hid (kd_T (D := D) (k := k) (fun q => q.2 h2))
          obtain ⟨c, hc⟩ : ∃ c, c = bt D k := ⟨_, rfl⟩
          rw [← hc] at hix
          rw [h2, ← hc] at hiy
          have t1 : (c != c) = false := by simp
          clear h2 hc
          go_wp2_with fail
          refine wp_region_quiet_below (by kernel_rfl) (by kernel_rfl) ?_
          repeat (go_big_quiet_step (skip))
          refine wpQuiet_nil ?_
          intro _ hw'
          obtain ⟨⟨dq, osq⟩, hw''⟩ := hw'
          subst hw''
          have BR := Lib.hid ((below_regrown wr dq osq).mono hsz)
          have IB := Lib.hid (builder_belowD II.out (below_regrown wr dq osq))
          have hs2 : w.heap.size ≤ (grow (redrawn wr dq) osq).heap.size := Nat.le_trans hsz (below_regrown wr dq osq).size
          have WB := Lib.hid (writeByte w.heap.size w.heap.size _ 84 _ IB.out HL.out hs2)
          clear hix hiy hw1 hlss
          go_wp2_with (go_at_call 21; refine WB.out.mono ?_)
          rintro e W1 ⟨rfl, i1, b1, -⟩
          go_wp2_with fail
          go_roundw
          case rel => exact ⟨k + 1, by omega, by go_num, by rw [KT.out, Lib.byteCells_append]; exact i1, (BB.out.trans BR.out).trans b1⟩
          case measure => simp [intOf]; omega
        · have KT := Lib.hid (kd_S h1 h2)
          obtain ⟨c, hc⟩ : ∃ c, c = bt D k := ⟨_, rfl⟩
          obtain ⟨p, hp⟩ : ∃ p, p = bt D (k + 1) := ⟨_, rfl⟩
          rw [← hc] at hix h2
          rw [← hp] at hiy h2
          have t1 : (p != c) = true := by simp [h2]
          clear h2 hc hp
          go_wp2_with fail
          refine wp_region_quiet_below (by kernel_rfl) (by kernel_rfl) ?_
          repeat (go_big_quiet_step (skip))
          refine wpQuiet_nil ?_
          intro _ hw'
          obtain ⟨⟨dq, osq⟩, hw''⟩ := hw'
          subst hw''
          have BR := Lib.hid ((below_regrown wr dq osq).mono hsz)
          have IB := Lib.hid (builder_belowD II.out (below_regrown wr dq osq))
          have hs2 : w.heap.size ≤ (grow (redrawn wr dq) osq).heap.size := Nat.le_trans hsz (below_regrown wr dq osq).size
          have WB := Lib.hid (writeByte w.heap.size w.heap.size _ 83 _ IB.out HL.out hs2)
          clear hix hiy hw1 hlss
          go_wp2_with (go_at_call 21; refine WB.out.mono ?_)
          rintro e W1 ⟨rfl, i1, b1, -⟩
          go_wp2_with fail
          go_roundw
          case rel => exact ⟨k + 1, by omega, by go_num, by rw [KT.out, Lib.byteCells_append]; exact i1, (BB.out.trans BR.out).trans b1⟩
          case measure => simp [intOf]; omega
      · have hlss : decide ((k : Int) + 1 < (D.size : Int)) = false := decide_eq_false (by omega)
        have KT := Lib.hid (kd_T (D := D) (k := k) (fun q => h1 q.1))
        go_wp2_with fail
        refine wp_region_quiet_below (by kernel_rfl) (by kernel_rfl) ?_
        repeat (go_big_quiet_step (skip))
        refine wpQuiet_nil ?_
        intro _ hw'
        obtain ⟨⟨dq, osq⟩, hw''⟩ := hw'
        subst hw''
        have BR := Lib.hid ((below_regrown wr dq osq).mono hsz)
        have IB := Lib.hid (builder_belowD II.out (below_regrown wr dq osq))
        have hs2 : w.heap.size ≤ (grow (redrawn wr dq) osq).heap.size := Nat.le_trans hsz (below_regrown wr dq osq).size
        have WB := Lib.hid (writeByte w.heap.size w.heap.size _ 84 _ IB.out HL.out hs2)
        clear hix hw1 hlss
        go_wp2_with (go_at_call 21; refine WB.out.mono ?_)
        rintro e W1 ⟨rfl, i1, b1, -⟩
        go_wp2_with fail
        go_roundw
        case rel => exact ⟨k + 1, by omega, by go_num, by rw [KT.out, Lib.byteCells_append]; exact i1, (BB.out.trans BR.out).trans b1⟩
        case measure => simp [intOf]; omega
    · obtain rfl : k = D.size := by omega
      have BS := Lib.hid (fun (w1 : World) (h : Lib.IsBuilderF 48 5 w.heap.size w.heap.size (Lib.byteCells (kdTo D D.size)) w1) (hs : w.heap.size ≤ w1.heap.size) => Tryd.Builder_String_any_k w.heap.size w.heap.size (kdTo D D.size) w1 h hs)
      have hI2 := Lib.hid hI
      clear hI
      go_wp2_with (go_at_call 23; refine (BS.out _ hI2.out hsz).mono ?_)
      rintro e W1 ⟨rfl, i1, b1, -⟩
      have hs1 : w.heap.size ≤ W1.heap.size := Nat.le_trans hsz b1.size
      go_wp2_with (go_at_call 22; refine (SR.out _).mono ?_)
      rintro e W2 ⟨rfl, b2⟩
      have i2 := Lib.hid (builder_belowD i1 b2)
      have hs2 : w.heap.size ≤ W2.heap.size := Nat.le_trans hs1 b2.size
      have B2 := Lib.hid ((hbel.trans b1).trans (b2.mono hs1))
      clear i1 b1 b2 hbel
      cases ok
      · have E := Lib.hid (sk_no OK.out)
        go_wp2_with fail
        go_ret2
        exact ⟨by rw [E.out, OK.out]; rfl, B2.out⟩
      · have E := Lib.hid (sk_yes OK.out)
        go_wp2_with (go_at_call 23; refine (BS.out _ i2.out hs2).mono ?_)
        rintro e W3 ⟨rfl, -, b3, -⟩
        go_wp2_with fail
        go_ret2
        exact ⟨by rw [E.out, OK.out]; rfl, B2.out.trans b3⟩

/-- How many texts of kinds. -/
def smV (a : Int) (D : ByteArray) : Int := if (a = 0 ∨ a = 1) ∧ dirB D = true then (if skOk a D then (if D.size = 0 then 1 else 2) else 0) else -1
theorem sm_bad {a : Int} {D : ByteArray} (h : ¬ ((a = 0 ∨ a = 1) ∧ dirB D = true)) : smV a D = -1 := by unfold smV; rw [if_neg h]
theorem sm_is {a : Int} {D : ByteArray} (h : (a = 0 ∨ a = 1) ∧ dirB D = true) : smV a D = if skOk a D then (if D.size = 0 then 1 else 2) else 0 := by unfold smV; rw [if_pos h]
theorem sk_is {a : Int} {D : ByteArray} (h : (a = 0 ∨ a = 1) ∧ dirB D = true) : skOk a D = decide (D.size = 0 ∨ endOf (bt D 0) = a) := stRun_kd h.1 h.2

end Go.Proofs.YtlcmkocbpnekhaaDoor
