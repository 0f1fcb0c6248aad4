/-
  A line that is marked, and whose marks are looked at. For at most 1048576 blocks and as many trains.
-/
import Derived.Test.YtoapfcnpmpggcabLineM
namespace Go.Proofs.Ytoapfcnpmpggcab
open Go.RowKit Go.Sort

/-- The cells of a list of blocks that has been marked from k on. -/
def mkF (k : Int) (q : Nat) : Value := if q % 3 = 0 then .int .i64 (k + q) else .bool (decide ((k + q) % 3 = 0))
theorem mkF0 (k : Int) (i : Nat) : mkF k (i * 3) = .int .i64 (k + i * 3) := by unfold mkF; rw [if_pos (by omega)]; norm_cast
theorem mkF1 (k : Int) (i : Nat) : mkF k (i * 3 + 1) = .bool (decide ((k + i * 3 + 1) % 3 = 0)) := by
  unfold mkF; rw [if_neg (by omega), show k + ((i * 3 + 1 : Nat) : Int) = k + i * 3 + 1 by omega]
theorem mkF2 (k : Int) (i : Nat) : mkF k (i * 3 + 2) = .bool (decide ((k + i * 3 + 1 + 1) % 3 = 0)) := by
  unfold mkF; rw [if_neg (by omega), show k + ((i * 3 + 2 : Nat) : Int) = k + i * 3 + 1 + 1 by omega]
/-- A list whose first j blocks are marked. -/
def mkTill (k : Int) (F : Nat → Value) (j q : Nat) : Value := if q < j * 3 then mkF k q else F q
theorem mkTill_succ (k : Int) (F : Nat → Value) (j q : Nat) : (if q = j * 3 + 2 then mkF k (j * 3 + 2) else if q = j * 3 + 1 then mkF k (j * 3 + 1) else if q = j * 3 then mkF k (j * 3) else mkTill k F j q) = mkTill k F (j + 1) q := by
  unfold mkTill
  by_cases h2 : q = j * 3 + 2
  · rw [if_pos h2, if_pos (by omega), h2]
  · rw [if_neg h2]
    by_cases h1 : q = j * 3 + 1
    · rw [if_pos h1, if_pos (by omega), h1]
    · rw [if_neg h1]
      by_cases h0 : q = j * 3
      · rw [if_pos h0, if_pos (by omega), h0]
      · rw [if_neg h0]
        by_cases h : q < j * 3
        · rw [if_pos h, if_pos (by omega)]
        · rw [if_neg h, if_neg (by omega)]

set_option maxHeartbeats 1000000 in
theorem markBlocks {w : World} {base n : Nat} {v : Value} {F : Nat → Value} {k : Int} (h : Ow w base 69 3 v n F) (hl : n ≤ 1048576) (hk0 : 0 ≤ k) (hk : k ≤ 1099511627776) :
    Calls Try.prog 61 #[v, .int .i64 k] w fun e w' => e = .returned (.int .i64 (k + n * 3)) ∧ Ow w' base 69 3 v n (mkF k) ∧ w.grownBy w' v.ownBlock := by
  have hl' : (n : Int) ≤ 1048576 := by omega
  rcases h.shape with ⟨rfl, rfl⟩ | ⟨g, cap, rfl, hb, hg, hnc⟩
  · go_enter Try.func61, Try.ntmps61
    go_wp2_with fail
    refine wp_loop_rounds 1 ?_
    rw [rounds_succ]
    go_wp2_with fail
    go_ret
    exact ⟨ret_int (by simp), ow_nil _ _ _ _ _, World.grownBy.refl _ _⟩
  · have h0 := Lib.hid (h.congr (G := mkTill k F 0) fun q _ => by unfold mkTill; rw [if_neg (by omega)])
    clear h
    go_enter Try.func61, Try.ntmps61
    go_wp2_with fail
    go_loopw [1, 5] (fun q i wr => ∃ j : Nat, j ≤ n ∧ i = .int .i64 j ∧ q = .int .i64 (k + j * 3) ∧ Hid (Ow wr base 69 3 (.slice (some ⟨g, 0, none⟩) n cap) n (mkTill k F j)) ∧ w.grownBy wr (some g)) (fun _ i _ => n - (intOf i).toNat)
    case atStart => exact ⟨0, by omega, rfl, by simp, h0, World.grownBy.refl _ _⟩
    case round =>
      obtain ⟨j, hj, rfl, rfl, HO, hgr⟩ := hrel
      by_cases hlt : j < n
      · have c0 := HO.out.cell (q := j * 3) (by omega)
        have c1 := HO.out.cell (q := j * 3 + 1) (by omega)
        have c2 := HO.out.cell (q := j * 3 + 2) (by omega)
        have f0 := HO.out.frozen (j * 3)
        have f1 := HO.out.frozen (j * 3 + 1)
        have f2 := HO.out.frozen (j * 3 + 2)
        have hji : (j : Int) < (n : Int) := by omega
        obtain ⟨S1, G1⟩ := HO.out.set (j * 3) (mkF k (j * 3))
        obtain ⟨S2, G2⟩ := S1.set (j * 3 + 1) (mkF k (j * 3 + 1))
        obtain ⟨S3, G3⟩ := S2.set (j * 3 + 2) (mkF k (j * 3 + 2))
        have GR := Lib.hid (grown_trans (grown_trans (grown_trans hgr G1) G2) G3)
        have SS := Lib.hid (S3.congr (G := mkTill k F (j + 1)) fun q _ => mkTill_succ k F j q)
        rw [mkF0, mkF1, mkF2] at GR SS
        clear S1 S2 S3 G1 G2 G3 hgr
        go_wp2_with fail
        go_roundw
        case rel => exact ⟨j + 1, by omega, by go_num, by go_num, SS, GR.out⟩
        case measure => simp [intOf]; omega
      · obtain rfl : j = n := by omega
        have HF := Lib.hid (HO.out.congr (G := mkF k) fun q hq => by unfold mkTill; rw [if_pos hq])
        go_wp2_with fail
        go_ret
        exact ⟨rfl, HF.out, hgr⟩

set_option maxHeartbeats 1000000 in
theorem heldBlocks {w : World} {v : Value} {n : Nat} {k : Int} (h : Rd w v n 3 (mkF k)) (hk0 : 0 ≤ k) (hk : k ≤ 1099511627776) :
    Calls Try.prog 63 #[v, .int .i64 k] w fun e w' => e = .returned (.int .i64 (k + n * 3)) ∧ w = w' := by
  obtain ⟨a, cap, rfl⟩ := Rd.slice h
  have hl := Rd.len h
  have hl' : (n : Int) ≤ 1048576 := by omega
  have AT := Lib.hid (fun (i : Nat) (hi : i < n) => Rd.at h hi)
  clear h
  go_enter Try.func63, Try.ntmps63
  go_wp2_with fail
  go_loop [1, 5] (fun q i => ∃ j : Nat, j ≤ n ∧ i = .int .i64 j ∧ q = .int .i64 (k + j * 3)) (fun _ i => n - (intOf i).toNat)
  case atStart => exact ⟨0, by omega, rfl, by simp⟩
  case round =>
    obtain ⟨j, hj, rfl, rfl⟩ := hrel
    by_cases hlt : j < n
    · obtain ⟨_, b, o, rfl, hb, hc⟩ := AT.out j hlt
      have c0 := hc (j * 3) (by omega)
      have c1 := hc (j * 3 + 1) (by omega)
      have c2 := hc (j * 3 + 2) (by omega)
      rw [mkF0] at c0
      rw [mkF1, ← Nat.add_assoc] at c1
      rw [mkF2, ← Nat.add_assoc] at c2
      have hji : (j : Int) < (n : Int) := by omega
      have T1 : (!(decide ((k + (j : Int) * 3 + 1) % 3 = 0) == ((k + (j : Int) * 3 + 1) % 3 == 0))) = false := by
        cases e : decide ((k + (j : Int) * 3 + 1) % 3 = 0) <;> simp_all
      have T2 : (!(decide ((k + (j : Int) * 3 + 1 + 1) % 3 = 0) == ((k + (j : Int) * 3 + 1 + 1) % 3 == 0))) = false := by
        cases e : decide ((k + (j : Int) * 3 + 1 + 1) % 3 = 0) <;> simp_all
      clear hc
      go_wp2_with fail
      go_round
      case rel => exact ⟨j + 1, by omega, by go_num, by go_num⟩
      case measure => simp [intOf]; omega
    · obtain rfl : j = n := by omega
      go_wp2_with fail
      go_ret
      exact ⟨rfl, rfl⟩

end Go.Proofs.Ytoapfcnpmpggcab
