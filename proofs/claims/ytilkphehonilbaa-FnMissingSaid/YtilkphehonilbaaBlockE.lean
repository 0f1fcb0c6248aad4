/-
  The program's BlockStep, BlockLegal, BlockNormal, BlockNext. For texts of at most 2097152 bytes.
-/
import Derived.Test.YtilkphehonilbaaBlockD
import Derived.Lib.OthersKept
namespace Go.Proofs.Ytilkphehonilbaa
open Go.RowKit Go.Sort

/-- The answer, written out. -/
theorem bkR_is (o : Option Blk) : bkR o = .tuple #[.agg #[.int .i64 (o.getD nb).1, .bool (o.getD nb).2.1, .bool (o.getD nb).2.2], .bool o.isSome] := rfl
theorem implRunE (b : Blk) (S : ByteArray) (hS : S.size ≤ 2097152) (w : World) :
    Calls Try.prog 46 #[bkV b, .string S] w fun e w' => e = .returned (.tuple #[.agg #[.int .i64 ((bkRun b S).getD nb).1, .bool ((bkRun b S).getD nb).2.1, .bool ((bkRun b S).getD nb).2.2], .bool (bkRun b S).isSome]) ∧ Below w.heap.size w w' :=
  implRun b S hS w

/-- Does a legal text lead to the normal block? -/
def bkNormal (S : ByteArray) : Bool := (bkRun nb S).isSome && decide ((bkRun nb S).getD nb = nb)

set_option maxHeartbeats 2000000 in
theorem implLegal (S : ByteArray) (hS : S.size ≤ 2097152) (w : World) :
    Calls Try.prog 33 #[.string S] w fun e w' => e = .returned (.bool (bkLegal S)) ∧ Below w.heap.size w w' := by
  have HR := Lib.hid (implRunE nb S hS)
  obtain ⟨y, hy⟩ : ∃ y, y = (bkRun nb S).getD nb := ⟨_, rfl⟩
  obtain ⟨t, ht⟩ : ∃ t, t = (bkRun nb S).isSome := ⟨_, rfl⟩
  rw [← hy, ← ht] at HR
  have HTT := Lib.hid ht
  clear hy ht
  go_enter Try.func33, Try.ntmps33
  go_wp2_with (go_at_call 46; refine (HR.out _).mono ?_)
  rintro e w1 ⟨rfl, b1⟩
  go_wp2_with fail
  go_ret
  exact ⟨ret_bool HTT.out, b1.alloc b1.size _⟩

/-- The letters of all events, as a text. -/
def lts : ByteArray := ⟨#[97, 99, 101, 102, 108, 111, 114]⟩
theorem lts_next {k K : Nat} (hk : k < 7) {w : World} (hit : w.heap[K]? = some (.stringIter lts k)) (ty : TypeId) :
    (Instr.next (.pointer (some ⟨K, 0, none⟩)) true ty).run Try.prog w = .ok (.tuple #[.bool true, .int .i64 k, .int .i32 (ltr k)]) (w.iterAt K lts (k + 1)) := by
  have hs : lts.size = 7 := rfl
  have hb : ((lts[k]'(by omega)).toNat : Int) = ltr k := by
    match k, hk with
    | 0, _ | 1, _ | 2, _ | 3, _ | 4, _ | 5, _ | 6, _ => rfl
  have ha : (lts[k]'(by omega)).toNat < 128 := by
    have e : (lts[k]'(by omega)).toNat = (ltB k).toNat := by
      match k, hk with
      | 0, _ | 1, _ | 2, _ | 3, _ | 4, _ | 5, _ | 6, _ => rfl
    rw [e]
    clear hit hb e hs
    match k, hk with
    | 0, _ | 1, _ | 2, _ | 3, _ | 4, _ | 5, _ | 6, _ => decide
  rw [Lib.run_next_ascii_at w K lts k ty hit (by omega) ha, hb]
theorem lts_stop {K : Nat} {w : World} (hit : w.heap[K]? = some (.stringIter lts 7)) (ty : TypeId) :
    (Instr.next (.pointer (some ⟨K, 0, none⟩)) true ty).run Try.prog w = .ok (.tuple #[.bool false]) w :=
  Lib.run_next_end_at w K lts 7 ty hit (by decide)
theorem ltr_convert {k : Nat} (hk : k < 7) (w : World) : (Go.convert 21 9 (.int .i32 (ltr k))).run Try.prog w = .ok (.string (ltS k)) w := by
  have h : k = 0 ∨ k = 1 ∨ k = 2 ∨ k = 3 ∨ k = 4 ∨ k = 5 ∨ k = 6 := by omega
  rcases h with rfl | rfl | rfl | rfl | rfl | rfl | rfl <;> (show (Go.convert _ _ _).run _ _ = _; kernel_rfl)
def nxB (b : Blk) (k : Nat) : ByteArray := ⟨(nxTo b k).toArray⟩
theorem nxB_size (b : Blk) (k : Nat) : (nxB b k).size ≤ k := by
  show (nxTo b k).toArray.size ≤ k
  have := nxTo_length b k
  simpa using this
theorem nxB_yes {b b' : Blk} {k : Nat} (h : bkStep b (ltr k) = some b') : nxB b (k + 1) = nxB b k ++ ltS k := by
  unfold nxB
  rw [nxTo_yes h]
  exact (ByteArray.mk_append_mk _ _).symm
theorem nxB_no {b : Blk} {k : Nat} (h : bkStep b (ltr k) = none) : nxB b (k + 1) = nxB b k := by
  unfold nxB
  rw [nxTo_no h]

end Go.Proofs.Ytilkphehonilbaa
