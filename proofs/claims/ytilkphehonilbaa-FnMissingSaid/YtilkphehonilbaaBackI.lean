/-
  slices.Backward over a list of notes: what it hands to the loop's body, for every body that keeps what lay ahead. For at most 1048576 notes.
-/
import Derived.RangeFuncNested
import Derived.RangeFuncBound
import Derived.RangeFuncCalls
import Derived.RangeFuncLeaves
import Derived.Shelf.Abstract
import Derived.Shelf.RegionOpen
import Derived.WalkKit
import Derived.OwnWalkIn
import Derived.TacticsInMore
import Derived.LoopNIn
import Derived.LoopIn
import Derived.Test.YtilkphehonilbaaBlks
namespace Go.Proofs.Ytilkphehonilbaa
open Go.RowKit Go.Shelf
attribute [local go_sem] Oper.semAt_some

/-- What has come when k rounds are over. -/
def upto {α : Type} (f : Nat → α) (k : Nat) : List α := (List.range k).map f
theorem upto_succ {α : Type} (f : Nat → α) (k : Nat) : upto f (k + 1) = upto f k ++ [f k] := by simp [upto, List.range_succ]
theorem upto_length {α : Type} (f : Nat → α) (k : Nat) : (upto f k).length = k := by simp [upto]
/-- The notes from behind. -/
def bkw (ns : List Mv) (k : Nat) : Nat × Mv := (ns.length - 1 - k, ns.getD (ns.length - 1 - k) noMv)

/-- What a round keeps: whatever lies below n₀, and the box of the list. -/
def KeepsB (n₀ Bs : Nat) (A B : World) : Prop := Below n₀ A B ∧ ∀ v, A.cell? ⟨Bs, 0, none⟩ = some v → B.cell? ⟨Bs, 0, none⟩ = some v
theorem keepsB_t {n₀ Bs : Nat} {A B C : World} (h : KeepsB n₀ Bs A B) (k : KeepsB n₀ Bs B C) : KeepsB n₀ Bs A C := ⟨h.1.trans k.1, fun v e => k.2 v (h.2 v e)⟩
theorem keepsB_r (n₀ Bs : Nat) (A : World) : KeepsB n₀ Bs A A := ⟨Below.refl _ _, fun _ e => e⟩
theorem keepsB_b {n₀ Bs : Nat} {w : World} (hn : n₀ ≤ w.heap.size) (W : World) (l : Nat) (o o' : Obj) (hl : w.heap.size ≤ l) (h : W.heap[l]? = some o) (ho : o.isCells = false) (hw : o.isWalk = false) : KeepsB n₀ Bs W (W.putObj l o') :=
  ⟨belowK_b hn W l o o' hl h ho hw, fun _ e => cell_kept e (grownBy_putObj' W l o') (fun r q => by cases q; exact ⟨o, h, ho⟩)⟩

set_option maxRecDepth 100000 in
set_option maxHeartbeats 2000000 in
theorem back1_in (F : Fence) (n : Nat) (h8 : F.fn 47) (hro : F.round = none) (hn : 1 ≤ n) (l Bs n₀ b off cap : Nat) (ns : List Mv) (hreach : ns.length ≤ 1048576) (hb : b < n₀) (J Jx : List (Nat × Mv) → World → Prop)
    (hY : ∀ pre x W, J pre W → pre.length < ns.length → YieldAt F (n - 1) Try.prog l #[.int .i64 (x.1 : Int), .agg #[.int .i64 x.2.1, .string x.2.2]] W fun e W' =>
      (e = .returned (.bool true) ∧ J (pre ++ [x]) W' ∧ KeepsB n₀ Bs W W') ∨ (e = .returned (.bool false) ∧ Jx (pre ++ [x]) W'))
    (W : World) (hBs : W.cell? ⟨Bs, 0, none⟩ = some (.slice (some ⟨b, off, none⟩) ns.length cap)) (hc : ∀ i, i < ns.length → W.cell? ⟨b, off + i * 2, none⟩ = some (.int .i64 (ns.getD i noMv).1) ∧ W.cell? ⟨b, off + i * 2 + 1, none⟩ = some (.string (ns.getD i noMv).2)) (h0 : J [] W) :
    CallsIn F n Try.prog 47 #[.func (.yield l) #[] #[], .pointer (some ⟨Bs, 0, none⟩)] W fun e W' => (∃ v, e = .returned v) ∧
      ((∃ ys, ys = upto (bkw ns) ns.length ∧ J ys W') ∨ (∃ pre, (∃ k, k ≤ ns.length ∧ pre = upto (bkw ns) k) ∧ Jx pre W')) := by
  have hl' : (ns.length : Int) ≤ 1048576 := by omega
  have HC := Lib.hid hc
  clear hc
  refine callsIn_of_wp Try.func47 rfl h8 ?_ hro
  simp only [Try.ntmps47, List.size_toArray, List.length_cons, List.length_nil, Nat.reduceAdd, Nat.reduceSub, Array.replicate_succ, Array.replicate_zero, List.push_toArray, List.append_toArray, List.nil_append, List.cons_append]
  gi_wp2
  gi_loopw [3] (fun i wr => ∃ k : Nat, k ≤ ns.length ∧ i = .int .i64 ((ns.length : Int) - 1 - k) ∧ J (upto (bkw ns) k) wr ∧ KeepsB n₀ Bs W wr)
    (fun i _ => (intOf i + 1).toNat)
  case atStart => exact ⟨0, Nat.zero_le _, by simp, h0, keepsB_r _ _ _⟩
  case round =>
    obtain ⟨k, hk, rfl, hJs, hnx⟩ := hrel
    by_cases hlt : k < ns.length
    · obtain ⟨m, hm⟩ : ∃ m, m + k + 1 = ns.length := ⟨ns.length - 1 - k, by omega⟩
      have hmi : (ns.length : Int) - 1 - k = (m : Int) := by omega
      have hbk : bkw ns k = (m, ns.getD m noMv) := by unfold bkw; rw [show ns.length - 1 - k = m by omega]
      obtain ⟨e0, e1⟩ := HC.out m (by omega)
      have c0 := (hnx.1.cell (p := ⟨b, off + m * 2, none⟩) hb).trans e0
      have c1 : wr.cell? ⟨b, off + m * 2 + 1, none⟩ = _ := (hnx.1.cell (p := ⟨b, off + m * 2 + 1, none⟩) hb).trans e1
      obtain ⟨x, hx⟩ : ∃ x, x = ns.getD m noMv := ⟨_, rfl⟩
      rw [← hx] at c0 c1 hbk
      have BK := Lib.hid hbk
      have hbs := hnx.2 _ hBs
      have HM := Lib.hid hm
      have hml : (m : Int) < (ns.length : Int) := by omega
      rw [hmi]
      clear e0 e1 hx hbk hm hmi
      obtain ⟨fn, tmps, assign, body, hy, hR⟩ := hY _ (m, x) wr hJs (by rw [upto_length]; exact hlt)
      dsimp only at hy
      gi_wp2
      refine hR.mono ?_
      rintro e W3 (⟨rfl, hJ3, hk3⟩ | ⟨rfl, hJx3⟩)
      · gi_wp2
        go_roundw
        case rel => exact ⟨k + 1, by omega, by have := HM.out; simp only [Value.int.injEq, true_and]; omega, by rw [upto_succ, BK.out]; exact hJ3, keepsB_t hnx hk3⟩
        case measure => have := HM.out; simp [intOf] <;> omega
      · gi_wp2
        refine bodyPost_ret (results_none rfl _ _ _) rfl ?_
        exact ⟨⟨_, rfl⟩, .inr ⟨_, ⟨k + 1, by omega, by rw [upto_succ, BK.out]⟩, hJx3⟩⟩
    · obtain rfl : k = ns.length := by omega
      rw [show (ns.length : Int) - 1 - (ns.length : Nat) = -1 by omega]
      gi_wp2
      go_end0
      exact ⟨⟨_, rfl⟩, .inl ⟨_, rfl, hJs⟩⟩

set_option maxRecDepth 100000 in
set_option maxHeartbeats 1000000 in
theorem back1_nil_in (F : Fence) (n : Nat) (h8 : F.fn 47) (hro : F.round = none) (l Bs : Nat) (a : Option Addr) (cap : Nat) (J : List (Nat × Mv) → World → Prop) (W : World) (hBs : W.cell? ⟨Bs, 0, none⟩ = some (.slice a 0 cap)) (h0 : J [] W) :
    CallsIn F n Try.prog 47 #[.func (.yield l) #[] #[], .pointer (some ⟨Bs, 0, none⟩)] W fun e W' => (∃ v, e = .returned v) ∧ J [] W' := by
  refine callsIn_of_wp Try.func47 rfl h8 ?_ hro
  simp only [Try.ntmps47, List.size_toArray, List.length_cons, List.length_nil, Nat.reduceAdd, Nat.reduceSub, Array.replicate_succ, Array.replicate_zero, List.push_toArray, List.append_toArray, List.nil_append, List.cons_append]
  gi_wp2
  gi_loopw [3] (fun i wr => i = .int .i64 (-1) ∧ J [] wr) (fun _ _ => 0)
  case atStart => exact ⟨rfl, h0⟩
  case round =>
    obtain ⟨rfl, hJs⟩ := hrel
    gi_wp2
    go_end0
    exact ⟨⟨_, rfl⟩, hJs⟩

set_option maxHeartbeats 1000000 in
theorem back_in (F : Fence) (n : Nat) (h6 : F.fn 35) (hro : F.round = none) (a : Option Addr) (len cap : Nat) (w : World) :
    CallsIn F n Try.prog 35 #[.slice a len cap] w fun e w' => e = .returned (.func (.func 47) #[] #[.pointer (some ⟨w.heap.size, 0, none⟩)]) ∧ w' = w.alloc (.cells #[.slice a len cap] 23) := by
  refine callsIn_of_wp Try.func35 rfl h6 ?_ hro
  simp only [Try.ntmps35, List.size_toArray, List.length_cons, List.length_nil, Nat.reduceAdd, Nat.reduceSub, Array.replicate_succ, Array.replicate_zero, List.push_toArray, List.append_toArray, List.nil_append, List.cons_append]
  gi_wp2
  go_ret
  exact ⟨rfl, rfl⟩

/-- The notes of a list lie below n₀. -/
def NtsLow (n₀ : Nat) (W : World) (sv : Value) (ns : List Mv) : Prop :=
  ∃ a cap, sv = .slice a ns.length cap ∧ (ns = [] ∨ ∃ b off, a = some ⟨b, off, none⟩ ∧ b < n₀ ∧ ∀ i, i < ns.length → W.cell? ⟨b, off + i * 2, none⟩ = some (.int .i64 (ns.getD i noMv).1) ∧ W.cell? ⟨b, off + i * 2 + 1, none⟩ = some (.string (ns.getD i noMv).2))
theorem NtsLow.below {n₀ : Nat} {A B : World} (h : Below n₀ A B) {sv : Value} {ns : List Mv} (k : NtsLow n₀ A sv ns) : NtsLow n₀ B sv ns := by
  obtain ⟨a, cap, rfl, hc⟩ := k
  refine ⟨a, cap, rfl, ?_⟩
  rcases hc with h0 | ⟨b, off, rfl, hb, hc⟩
  · exact .inl h0
  · exact .inr ⟨b, off, rfl, hb, fun i hi => ⟨(h.cell (p := ⟨b, off + i * 2, none⟩) hb).trans (hc i hi).1, (h.cell (p := ⟨b, off + i * 2 + 1, none⟩) hb).trans (hc i hi).2⟩⟩
theorem Mvs.low {w : World} {v : Value} {ns : List Mv} (h : Mvs w v ns) : NtsLow w.heap.size w v ns := by
  obtain ⟨a, cap, rfl⟩ := Rd.slice h
  refine ⟨a, cap, rfl, ?_⟩
  by_cases h0 : ns = []
  · exact .inl h0
  · obtain ⟨b, o, rfl, hb, hc⟩ := Mvs.at h (List.length_pos_iff.2 h0)
    exact .inr ⟨b, o, rfl, hb, hc⟩

/-- What slices.Backward hands back: all notes from behind, or the first of them. -/
theorem back_stops (F : Fence) (n : Nat) (h8 : F.fn 47) (hro : F.round = none) (hn : 1 ≤ n) (Bs n₀ : Nat) (sv : Value) (ns : List Mv) (hreach : ns.length ≤ 1048576) (w : World) (hBs : Bs < w.heap.size) (hn₀ : n₀ ≤ w.heap.size)
    (hc : w.cell? ⟨Bs, 0, none⟩ = some sv) (hI : NtsLow n₀ w sv ns) :
    SeqStopsK F n Try.prog 47 #[.pointer (some ⟨Bs, 0, none⟩)] (fun x : Nat × Mv => #[Value.int .i64 (x.1 : Int), .agg #[.int .i64 x.2.1, .string x.2.2]]) (KeepsB n₀ Bs) (fun ys => ys = upto (bkw ns) ns.length)
      (fun pre => ∃ k, k ≤ ns.length ∧ pre = upto (bkw ns) k) ns.length w := fun l J Jx W hW _ _ hY h0 => by
  have hc' := (hW.cell (p := ⟨Bs, 0, none⟩) hBs).trans hc
  obtain ⟨a, cap, rfl, hcs⟩ := hI.below (hW.mono hn₀)
  rcases hcs with rfl | ⟨b, off, rfl, hb, hcs⟩
  · exact (back1_nil_in F n h8 hro l Bs a cap J W hc' h0).mono fun e W' ⟨he, hj⟩ => ⟨he, .inl ⟨_, rfl, hj⟩⟩
  · exact back1_in F n h8 hro hn l Bs n₀ b off cap ns hreach hb J Jx hY W hc' hcs h0

end Go.Proofs.Ytilkphehonilbaa
