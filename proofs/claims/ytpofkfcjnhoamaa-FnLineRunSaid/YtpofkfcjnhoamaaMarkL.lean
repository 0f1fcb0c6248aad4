/-
  A line that is marked, and whose marks are looked at. For at most 1048576 blocks and as many trains.
-/
import Derived.Test.YtpofkfcjnhoamaaLineM
namespace Go.Proofs.Ytpofkfcjnhoamaa
open Go.RowKit Go.Sort

/-- The cells of a list of blocks that has been marked from k on. -/
def mkF (k : Int) (q : Nat) : Value := if q % 3 = 0 then .int .i64 (k + q) else .bool (decide ((k + q) % 3 = 0))
theorem mkF0 (k : Int) (i : Nat) : mkF k (i * 3) = .int .i64 (k + i * 3) := by unfold mkF; rw [if_pos (by omega)]; norm_cast
theorem mkF1 (k : Int) (i : Nat) : mkF k (i * 3 + 1) = .bool (decide ((k + i * 3 + 1) % 3 = 0)) := by
  unfold mkF; rw [if_neg (by omega), show k + ((i * 3 + 1 : Nat) : Int) = k + i * 3 + 1 by omega]
theorem mkF2 (k : Int) (i : Nat) : mkF k (i * 3 + 2) = .bool (decide ((k + i * 3 + 1 + 1) % 3 = 0)) := by
  unfold mkF; rw [if_neg (by omega), show k + ((i * 3 + 2 : Nat) : Int) = k + i * 3 + 1 + 1 by omega]
/-- A list whose first j blocks are marked. -/
def mkTill (k : Int) (F : Nat → Value) (j q : Nat) : Value := if q < j * 3 then mkF k q else F q
theorem mkTill_succ (k : Int) (F : Nat → Value) (j q : Nat) : (if q = j * 3 + 2 then mkF k (j * 3 + 2) else if q = j * 3 + 1 then mkF k (j * 3 + 1) else if q = j * 3 then mkF k (j * 3) else mkTill k F j q) = mkTill k F (j + 1) q := by
  unfold mkTill
  by_cases h2 : q = j * 3 + 2
  · rw [if_pos h2, if_pos (by omega), h2]
  · rw [if_neg h2]
    by_cases h1 : q = j * 3 + 1
    · rw [if_pos h1, if_pos (by omega), h1]
    · rw [if_neg h1]
      by_cases h0 : q = j * 3
      · rw [if_pos h0, if_pos (by omega), h0]
      · rw [if_neg h0]
        by_cases h : q < j * 3
        · rw [if_pos h, if_pos (by omega)]
        · rw [if_neg h, if_neg (by omega)]

set_option maxHeartbeats 1000000 in
theorem markBlocks {w : World} {base n : Nat} {v : Value} {F : Nat → Value} {k : Int} (h : Ow w base 33 3 v n F) (hl : n ≤ 1048576) (hk0 : 0 ≤ k) (hk : k ≤ 1099511627776) :
    Calls Try.prog 69 #[v, .int .i64 k] w fun e w' => e = .returned (.int .i64 (k + n * 3)) ∧ Ow w' base 33 3 v n (mkF k) ∧ w.grownBy w' v.ownBlock := by
  have hl' : (n : Int) ≤ 1048576 := by omega
  rcases h.shape with ⟨rfl, rfl⟩ | ⟨g, cap, rfl, hb, hg, hnc⟩
  · go_enter Try.func69, Try.ntmps69
    go_wp2_with fail
    refine wp_loop_rounds 1 ?_
    rw [rounds_succ]
    go_wp2_with fail
    go_ret
    exact ⟨ret_int (by simp), ow_nil _ _ _ _ _, World.grownBy.refl _ _⟩
  · have h0 := Lib.hid (h.congr (G := mkTill k F 0) fun q _ => by unfold mkTill; rw [if_neg (by omega)])
    clear h
    go_enter Try.func69, Try.ntmps69
    go_wp2_with fail
    go_loopw [1, 5] (fun q i wr => ∃ j : Nat, j ≤ n ∧ i = .int .i64 j ∧ q = .int .i64 (k + j * 3) ∧ Hid (Ow wr base 33 3 (.slice (some ⟨g, 0, none⟩) n cap) n (mkTill k F j)) ∧ w.grownBy wr (some g)) (fun _ i _ => n - (intOf i).toNat)
    case atStart => exact ⟨0, by omega, rfl, by simp, h0, World.grownBy.refl _ _⟩
    case round =>
      obtain ⟨j, hj, rfl, rfl, HO, hgr⟩ := hrel
      by_cases hlt : j < n
      · have c0 := HO.out.cell (q := j * 3) (by omega)
        have c1 := HO.out.cell (q := j * 3 + 1) (by omega)
        have c2 := HO.out.cell (q := j * 3 + 2) (by omega)
        have f0 := HO.out.frozen (j * 3)
        have f1 := HO.out.frozen (j * 3 + 1)
        have f2 := HO.out.frozen (j * 3 + 2)
        have hji : (j : Int) < (n : Int) := by omega
        obtain ⟨S1, G1⟩ := HO.out.set (j * 3) (mkF k (j * 3))
        obtain ⟨S2, G2⟩ := S1.set (j * 3 + 1) (mkF k (j * 3 + 1))
        obtain ⟨S3, G3⟩ := S2.set (j * 3 + 2) (mkF k (j * 3 + 2))
        have GR := Lib.hid (grown_trans (grown_trans (grown_trans hgr G1) G2) G3)
        have SS := Lib.hid (S3.congr (G := mkTill k F (j + 1)) fun q _ => mkTill_succ k F j q)
        rw [mkF0, mkF1, mkF2] at GR SS
        clear S1 S2 S3 G1 G2 G3 hgr
        go_wp2_with fail
        go_roundw
        case rel => exact ⟨j + 1, by omega, by go_num, by go_num, SS, GR.out⟩
        case measure => simp [intOf]; omega
      · obtain rfl : j = n := by omega
        have HF := Lib.hid (HO.out.congr (G := mkF k) fun q hq => by unfold mkTill; rw [if_pos hq])
        go_wp2_with fail
        go_ret
        exact ⟨rfl, HF.out, hgr⟩

end Go.Proofs.Ytpofkfcjnhoamaa

/-
  A line that is marked, and whose marks are looked at; what stays as it was. For at most 1048576 blocks and as many trains.
-/
namespace Go.Proofs.Ytpofkfcjnhoamaa
open Go.RowKit Go.Sort

/-- A line's lists lie in blocks from lo up to hi. -/
def LnIn (v : Value) (lo hi : Nat) : Prop := ∃ u1 u2, v = .agg #[u1, u2] ∧ (∀ b, u1.ownBlock = some b → lo ≤ b ∧ b < hi) ∧ ∀ b, u2.ownBlock = some b → lo ≤ b ∧ b < hi
theorem OwnLine.isIn {w : World} {base : Nat} {v : Value} {l : Ln} (h : OwnLine w base v l) : LnIn v base w.heap.size := by
  obtain ⟨u1, u2, rfl, h1, h2, _⟩ := h
  exact ⟨u1, u2, rfl, Ow.under h1, h2.under⟩
theorem LnIn.both {v : Value} {lo hi : Nat} {u1 u2 : Value} (h : LnIn v lo hi) (e : v = .agg #[u1, u2]) : (∀ b, u1.ownBlock = some b → lo ≤ b ∧ b < hi) ∧ ∀ b, u2.ownBlock = some b → lo ≤ b ∧ b < hi := by
  obtain ⟨_, _, e', k1, k2⟩ := h
  rw [e] at e'
  simp only [Value.agg.injEq, Array.mk.injEq, List.cons.injEq, and_true] at e'
  obtain ⟨rfl, rfl⟩ := e'
  exact ⟨k1, k2⟩
theorem OwnLine.keptIn {w w' : World} {base lo hi a b : Nat} {v : Value} {l : Ln} (h : OwnLine w base v l) (g : GrownIn w w' lo hi) (hin : LnIn v a b) (ho : b ≤ lo ∨ hi ≤ a) : OwnLine w' base v l := by
  obtain ⟨u1, u2, rfl, h1, h2, h3⟩ := h
  obtain ⟨k1, k2⟩ := hin.both rfl
  exact ⟨u1, u2, rfl, Ow.keptIn h1 g (fun c e => by have := k1 c e; omega), h2.keptIn g (fun c e => by have := k2 c e; omega), h3⟩
theorem OwnLine.form {w : World} {base : Nat} {v : Value} {l : Ln} (h : OwnLine w base v l) : ∃ a n c a' n' c', v = .agg #[.slice a n c, .slice a' n' c'] := by
  obtain ⟨u1, u2, rfl, h1, h2, _⟩ := h
  obtain ⟨a, c, rfl⟩ := Ow.slice h1
  obtain ⟨a', n', c', rfl⟩ := own_is_slice h2
  exact ⟨_, _, _, _, _, _, rfl⟩
/-- A line that has been marked from k on. -/
def MkLine (w : World) (base : Nat) (v : Value) (k : Int) (n m : Nat) : Prop :=
  ∃ u1 u2, v = .agg #[u1, u2] ∧ Ow w base 33 3 u1 n (mkF k) ∧ OwnI w base u2 (marks (k + n * 3) m)
theorem MkLine.below {w w' : World} {base : Nat} {v : Value} {k : Int} {n m : Nat} (h : MkLine w base v k n m) (hb : Below w.heap.size w w') : MkLine w' base v k n m := by
  obtain ⟨u1, u2, rfl, h1, h2⟩ := h
  exact ⟨u1, u2, rfl, Ow.below h1 hb, h2.below hb⟩

set_option maxHeartbeats 1000000 in
theorem markLine {w : World} {base lo hi : Nat} {v : Value} {l : Ln} {k : Int} (h : OwnLine w base v l) (hin : LnIn v lo hi) (l1 : l.1.length ≤ 1048576) (l2 : l.2.length ≤ 1048576) (hk0 : 0 ≤ k) (hk : k ≤ 1099511627776) :
    Calls Try.prog 35 #[v, .int .i64 k] w fun e w' => e = .returned (.int .i64 (k + l.1.length * 3 + l.2.length)) ∧ MkLine w' base v k l.1.length l.2.length ∧ GrownIn w w' lo hi := by
  obtain ⟨bs, ts⟩ := l
  obtain ⟨u1, u2, rfl, h1, h2, h3, h4⟩ := h
  obtain ⟨k1, k2⟩ := hin.both rfl
  simp only at l1 l2 h1 h2 ⊢
  have ea := below_alloc w (.cells #[u1, u2] 26)
  have pa := Pair.new w u1 u2 26
  obtain ⟨W, hW⟩ : ∃ W, W = w.alloc (.cells #[u1, u2] 26) := ⟨_, rfl⟩
  rw [← hW] at ea pa
  have hl1 := Ow.under h1
  have E := Lib.hid ea
  have PA := Lib.hid pa
  have HW := Lib.hid hW.symm
  have H1 := Lib.hid (Ow.below h1 ea)
  have H2 := Lib.hid (h2.below ea)
  have AP := Lib.hid (And.intro h3 h4)
  have K := Lib.hid (And.intro k1 k2)
  have HL := Lib.hid hl1
  clear ea pa hW h1 h2 h3 h4 k1 k2 hl1
  go_enter Try.func35, Try.ntmps35
  go_wp2_with fail
  rw [HW.out]
  refine (markBlocks H1.out l1 hk0 hk).mono ?_
  rintro e w1 ⟨rfl, o1, g1⟩
  have c1 := (PA.out.of (g1.block _ PA.out.lt (fun e => by have := (HL.out _ e.symm).2; omega))).cell1
  have O1 := Lib.hid o1
  have G1 := Lib.hid g1
  have O2 := Lib.hid (H2.out.kept g1 AP.out.2)
  clear o1 g1
  go_wp2_with fail
  refine (markInts O2.out l2 (by omega) (by omega)).mono ?_
  rintro e w2 ⟨rfl, o2, g2⟩
  have O1' := Lib.hid (O1.out.kept g2 AP.out.1)
  have G2 := Lib.hid g2
  have O2' := Lib.hid o2
  clear o2 g2
  go_wp2_with fail
  go_ret
  exact ⟨rfl, ⟨u1, u2, rfl, O1'.out, O2'.out⟩, ((GrownIn.of_below E.out _ _).step G1.out K.out.1).step G2.out K.out.2⟩

end Go.Proofs.Ytpofkfcjnhoamaa
