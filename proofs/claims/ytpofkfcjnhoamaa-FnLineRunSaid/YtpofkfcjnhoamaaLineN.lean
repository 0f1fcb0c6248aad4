/-
  A new line, by the program and by the model. No condition.
-/
import Derived.Test.YtpofkfcjnhoamaaLineI
import Derived.Deep.RegionLaw
namespace Go.Proofs.Ytpofkfcjnhoamaa
open Go.RowKit Go.Sort

def newLn (n k : Nat) : Ln := (List.replicate n nb, List.replicate k 0)
theorem newLn_blk (n k i : Nat) : (newLn n k).1.getD i nb = nb := by
  unfold newLn
  simp only [List.getD_eq_getElem?_getD, List.getElem?_replicate]
  split <;> rfl
theorem newLn_tr (n k i : Nat) : (newLn n k).2.getD i 0 = 0 := by
  unfold newLn
  simp only [List.getD_eq_getElem?_getD, List.getElem?_replicate]
  split <;> rfl
theorem newLn_len (n k : Nat) : (newLn n k).1.length = n ∧ (newLn n k).2.length = k := by simp [newLn]
theorem newLn_cells (n k q : Nat) : bkF (newLn n k).1 q = bkF [] q := by
  unfold bkF
  rw [newLn_blk]
  rfl
def newOk (n k : Int) : Bool := decide ((1 ≤ n ∧ n ≤ 5) ∧ 0 ≤ k ∧ k ≤ 5)
def newV (n k : Int) : Ln := if newOk n k then newLn n.toNat k.toNat else noLn
theorem own_new_blocks {w wx : World} {B n k : Nat} (h : wx.rowIs B 33 (n * 3) (bkF [])) (hB : w.heap.size ≤ B) (hn : n ≤ 5) : OwnB wx w.heap.size (.slice (some ⟨B, 0, none⟩) n n) (newLn n k).1 := by
  unfold OwnB
  rw [(newLn_len n k).1]
  exact (ow_of_rowIs h hB (by simp [maxLen]; omega)).congr fun q _ => (newLn_cells n k q).symm
theorem own_new_trains {w wx : World} {B n k : Nat} (h : wx.rowIs B 3 k (fun _ => .int .i64 0)) (hB : w.heap.size ≤ B) (hk : k ≤ 5) : OwnI wx w.heap.size (.slice (some ⟨B, 0, none⟩) k k) (newLn n k).2 :=
  own_of_rowIs (f := fun _ => 0) h hB (by simp [maxLen]; omega) (newLn_len n k).2 (fun i _ => (newLn_tr n k i).symm)
theorem pair_of_rows {w wx : World} {B1 B2 R n k : Nat} (hn : n ≤ 5) (hk : k ≤ 5) (h1 : wx.rowIs B1 33 (n * 3) (bkF [])) (h2 : wx.rowIs B2 3 k (fun _ => .int .i64 0)) (hp : Pair wx R (.slice none 0 0) (.slice none 0 0) 26)
    (b1 : w.heap.size ≤ B1) (b2 : w.heap.size ≤ B2) (b3 : w.heap.size ≤ R) (d1 : B1 ≠ B2) (d2 : B1 ≠ R) (d3 : B2 ≠ R) (hb : Below w.heap.size w wx) :
    Pair ((wx.setCell ⟨R, 0, none⟩ (.slice (some ⟨B1, 0, none⟩) n n)).setCell ⟨R, 1, none⟩ (.slice (some ⟨B2, 0, none⟩) k k)) R (.slice (some ⟨B1, 0, none⟩) n n) (.slice (some ⟨B2, 0, none⟩) k k) 26 ∧
    OwnLine ((wx.setCell ⟨R, 0, none⟩ (.slice (some ⟨B1, 0, none⟩) n n)).setCell ⟨R, 1, none⟩ (.slice (some ⟨B2, 0, none⟩) k k)) w.heap.size (.agg #[.slice (some ⟨B1, 0, none⟩) n n, .slice (some ⟨B2, 0, none⟩) k k]) (newLn n k) ∧
    Below w.heap.size w ((wx.setCell ⟨R, 0, none⟩ (.slice (some ⟨B1, 0, none⟩) n n)).setCell ⟨R, 1, none⟩ (.slice (some ⟨B2, 0, none⟩) k k)) := by
  refine ⟨stored_pair hp, ⟨_, _, rfl, own_new_blocks ((h1.setOther d2 _).setOther d2 _) b1 hn, own_new_trains ((h2.setOther d3 _).setOther d3 _) b2 hk, .inr (by simp [Value.ownBlock]; exact d1), .inr (by simp [Value.ownBlock]; exact fun e => d1 e.symm)⟩, (hb.setCell (p := ⟨R, 0, none⟩) b3 _).setCell (p := ⟨R, 1, none⟩) b3 _⟩


set_option maxHeartbeats 2000000 in
theorem specLineNew (n k : Int) (w : World) : Calls Try.prog 72 #[.int .i64 n, .int .i64 k] w (MadeLineB w (newV n k) (newOk n k)) := by
  have q0 := below_alloc w (.cells #[.slice none 0 0, .slice none 0 0] 26)
  have p0 := Pair.new w (.slice none 0 0) (.slice none 0 0) 26
  have hs : (w.alloc (.cells #[.slice none 0 0, .slice none 0 0] 26)).heap.size = w.heap.size + 1 := Go.Deep.nblk_alloc _ _
  obtain ⟨W, hW⟩ : ∃ X, X = w.alloc (.cells #[.slice none 0 0, .slice none 0 0] 26) := ⟨_, rfl⟩
  rw [← hW] at p0 q0 hs
  have HW := Lib.hid hW.symm
  by_cases hn : 1 ≤ n ∧ n ≤ 5
  · by_cases hk : 0 ≤ k ∧ k ≤ 5
    · have hok : newOk n k = true := decide_eq_true ⟨hn, hk⟩
      have hv : newV n k = newLn n.toNat k.toNat := by unfold newV; rw [if_pos hok]
      rw [hok, hv]
      obtain ⟨hn1, hn5⟩ := hn
      obtain ⟨hk0, hk5⟩ := hk
      obtain ⟨N, rfl⟩ : ∃ N : Nat, n = N := ⟨n.toNat, by omega⟩
      obtain ⟨K, rfl⟩ : ∃ K : Nat, k = K := ⟨k.toNat, by omega⟩
      rw [Int.toNat_natCast, Int.toNat_natCast]
      have mB := run_make_blocks N (by omega)
      have mT := run_make_row' (P := Try.prog) 24 3 (.int .i64 0) 8 Try.underlying24 info_int rfl .i64 .i64 K (by omega) (by omega)
      have e1 := p0.cell0
      have e2 := p0.cell1
      have P0 := Lib.hid p0
      have Q0 := Lib.hid q0
      have S0 := Lib.hid hs
      clear hW p0 q0 hs hok hv
      go_enter Try.func72, Try.ntmps72
      go_upto_region 1 with fail
      rw [HW.out]
      go_wp2_with (first | (go_at_call_of 41 (Value.int .i64 (N : Int)); refine (in_yes (N : Int) 1 5 _ hn1 hn5).mono ?_; rintro e w' ⟨rfl, rfl⟩) | (go_at_call_of 41 (Value.int .i64 (K : Int)); refine (in_yes (K : Int) 0 5 _ hk0 hk5).mono ?_; rintro e w' ⟨rfl, rfl⟩))
      go_cut [5] (fun s wx => s = .bool true ∧ ∃ a1 n1 c1 a2 n2 c2, Pair wx w.heap.size (.slice a1 n1 c1) (.slice a2 n2 c2) 26 ∧ OwnLine wx w.heap.size (.agg #[.slice a1 n1 c1, .slice a2 n2 c2]) (newLn N K) ∧ Below w.heap.size w wx)
      case first =>
        obtain ⟨z1, hz1⟩ : ∃ z, z = madeCells #[.int .i64 0, .bool false, .bool false] (N * 3) := ⟨_, rfl⟩
        obtain ⟨z2, hz2⟩ : ∃ z, z = madeCells #[.int .i64 0] K := ⟨_, rfl⟩
        rw [← hz1] at mB
        rw [← hz2] at mT
        have d0 : Below W.heap.size W W := Below.refl _ _
        have bA := d0.alloc (Nat.le_refl _) (.cells z1 33)
        have sA : (W.alloc (.cells z1 33)).heap.size = W.heap.size + 1 := Go.Deep.nblk_alloc _ _
        have bAB := bA.alloc (by omega) (.cells z2 3)
        have sB : (W.alloc (.cells z2 3)).heap.size = W.heap.size + 1 := Go.Deep.nblk_alloc _ _
        have bB := d0.alloc (Nat.le_refl _) (.cells z2 3)
        have bBA := bB.alloc (by omega) (.cells z1 33)
        have pA := P0.out.below bAB
        have pB := P0.out.below bBA
        have ea1 := pA.cell0
        have ea2 := pA.cell1
        have fa1 := pA.frozen 0
        have fa2 := pA.frozen 1
        have eb1 := pB.cell0
        have eb2 := pB.cell1
        have fb1 := pB.frozen 0
        have fb2 := pB.frozen 1
        have RA1 := blocks_made W N
        have RA2 := World.rowIs_made (W.alloc (.cells z1 33)) (.int .i64 0) K 3
        have RB1 := World.rowIs_made W (.int .i64 0) K 3
        have RB2 := blocks_made (W.alloc (.cells z2 3)) N
        rw [← hz1] at RA1 RB2
        rw [← hz2] at RA2 RB1
        rw [sA] at RA2
        rw [sB] at RB2
        have hN5 : N ≤ 5 := by omega
        have hK5 : K ≤ 5 := by omega
        have RA1 := Lib.hid RA1
        have RA2 := Lib.hid RA2
        have RB1 := Lib.hid RB1
        have RB2 := Lib.hid RB2
        clear hz1 hz2
        have EA := Lib.hid (pair_of_rows (w := w) (n := N) (k := K) hN5 hK5 (RA1.out.alloc (.cells z2 3)) RA2.out pA (by have := S0.out; omega) (by have := S0.out; omega) (Nat.le_refl _) (by omega) (by have := S0.out; omega) (by have := S0.out; omega) (Q0.out.trans (bAB.mono Q0.out.size)))
        have EB := Lib.hid (pair_of_rows (w := w) (n := N) (k := K) hN5 hK5 RB2.out (RB1.out.alloc (.cells z1 33)) pB (by have := S0.out; omega) (by have := S0.out; omega) (Nat.le_refl _) (by omega) (by have := S0.out; omega) (by have := S0.out; omega) (Q0.out.trans (bBA.mono Q0.out.size)))
        clear RA1 RA2 RB1 RB2 pA pB bA bAB bB bBA d0 sA sB
        go_region
        all_goals (go_wp2_with fail; go_meet; first
          | exact ⟨rfl, _, _, _, _, _, _, EA.out.1, EA.out.2.1, EA.out.2.2.drew⟩
          | exact ⟨rfl, _, _, _, _, _, _, EB.out.1, EB.out.2.1, EB.out.2.2.drew⟩)
      case rest =>
      obtain ⟨rfl, a1, n1, c1, a2, n2, c2, pz, oz, bz⟩ := hcut
      have k6 := pz.cell0
      have k7 := pz.cell1
      have OZ := Lib.hid oz
      have BZ := Lib.hid bz
      clear pz oz bz
      go_wp2_with fail
      exact bodyPost_ret (v := .tuple #[.agg #[.slice a1 n1 c1, .slice a2 n2 c2], .bool true]) (by simp [results, Try.results72, go_sem, k6, k7]) rfl ⟨_, rfl, OZ.out, BZ.out⟩
    · have hok : newOk n k = false := decide_eq_false fun q => hk q.2
      have hv : newV n k = noLn := by unfold newV; rw [if_neg (by rw [hok]; decide)]
      rw [hok, hv]
      clear hok hv
      have e1 := p0.cell0
      have e2 := p0.cell1
      have f1 := p0.frozen 0
      have f2 := p0.frozen 1
      have d0 := (stored_pair (x' := .slice none 0 0) (y' := .slice none 0 0) p0).cell0
      have d1 := (stored_pair (x' := .slice none 0 0) (y' := .slice none 0 0) p0).cell1
      have BB := Lib.hid ((q0.setCell (p := ⟨w.heap.size, 0, none⟩) (Nat.le_refl _) (.slice none 0 0)).setCell (p := ⟨w.heap.size, 1, none⟩) (Nat.le_refl _) (.slice none 0 0))
      clear hW p0 q0 hs
      go_enter Try.func72, Try.ntmps72
      go_upto_region 1 with fail
      rw [HW.out]
      have NN := Lib.hid (show k < 0 ∨ 5 < k by omega)
      have hn1 := hn.1
      have hn5 := hn.2
      clear hn hk
      go_wp2_with (first | (go_at_call_of 41 (Value.int .i64 n); refine (in_yes n 1 5 _ hn1 hn5).mono ?_; rintro e w' ⟨rfl, rfl⟩) | (go_at_call_of 41 (Value.int .i64 k); refine (in_no k 0 5 _ NN.out).mono ?_; rintro e w' ⟨rfl, rfl⟩))
      exact bodyPost_ret (v := .tuple #[.agg #[.slice none 0 0, .slice none 0 0], .bool false]) (by simp [results, Try.results72, go_sem, d0, d1]) rfl ⟨_, rfl, ⟨_, _, rfl, ow_nil _ _ _ _ _, World.ownsRow_nil _ _ _ _, .inl rfl, .inl rfl⟩, BB.out⟩

  · have hok : newOk n k = false := decide_eq_false fun q => hn q.1
    have hv : newV n k = noLn := by unfold newV; rw [if_neg (by rw [hok]; decide)]
    rw [hok, hv]
    clear hok hv
    have e1 := p0.cell0
    have e2 := p0.cell1
    have f1 := p0.frozen 0
    have f2 := p0.frozen 1
    have d0 := (stored_pair (x' := .slice none 0 0) (y' := .slice none 0 0) p0).cell0
    have d1 := (stored_pair (x' := .slice none 0 0) (y' := .slice none 0 0) p0).cell1
    have BB := Lib.hid ((q0.setCell (p := ⟨w.heap.size, 0, none⟩) (Nat.le_refl _) (.slice none 0 0)).setCell (p := ⟨w.heap.size, 1, none⟩) (Nat.le_refl _) (.slice none 0 0))
    clear hW p0 q0 hs
    go_enter Try.func72, Try.ntmps72
    go_upto_region 1 with fail
    rw [HW.out]
    have NN := Lib.hid (show n < 1 ∨ 5 < n by omega)
    clear hn
    go_wp2_with (go_at_call 41; refine (in_no n 1 5 _ NN.out).mono ?_; rintro e w' ⟨rfl, rfl⟩)
    exact bodyPost_ret (v := .tuple #[.agg #[.slice none 0 0, .slice none 0 0], .bool false]) (by simp [results, Try.results72, go_sem, d0, d1]) rfl ⟨_, rfl, ⟨_, _, rfl, ow_nil _ _ _ _ _, World.ownsRow_nil _ _ _ _, .inl rfl, .inl rfl⟩, BB.out⟩


end Go.Proofs.Ytpofkfcjnhoamaa
