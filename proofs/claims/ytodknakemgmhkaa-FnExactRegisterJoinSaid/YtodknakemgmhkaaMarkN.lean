/-
  A list of notes that is marked. For at most 1048576 notes.
-/
import Derived.Test.YtodknakemgmhkaaMarkP
import Derived.Test.YtodknakemgmhkaaLawC
import Derived.Test.YtodknakemgmhkaaNtsL
import Derived.Deep.DeepCutAuto
import Derived.Deep.RegionHeld3
namespace Go.Proofs.Ytodknakemgmhkaa
open Go.RowKit Go.Sort

set_option maxHeartbeats 1000000 in
theorem markNotesK {w : World} {base n : Nat} {v : Value} {F : Nat → Value} {k : Int} (h : Ow w base 65 2 v n F) (hl : n ≤ 1048576) (hk0 : 0 ≤ k) (hk : k ≤ 1099511627776) :
    Calls Try.prog 34 #[v, .int .i64 k] w fun e w' => e = .returned (.int .i64 (k + n * 2)) ∧ Ow w' base 65 2 v n (mkM k) ∧ w.grownBy w' v.ownBlock := by
  have hl' : (n : Int) ≤ 1048576 := by omega
  rcases h.shape with ⟨rfl, rfl⟩ | ⟨g, cap, rfl, hb, hg, hnc⟩
  · go_enter Try.func34, Try.ntmps34
    go_wp2_with fail
    refine wp_loop_rounds 1 ?_
    rw [rounds_succ]
    go_wp2_with fail
    go_ret
    exact ⟨ret_int (by simp), ow_nil _ _ _ _ _, World.grownBy.refl _ _⟩
  · have h0 := Lib.hid (h.congr (G := mmTill k F 0) fun q _ => by unfold mmTill; rw [if_neg (by omega)])
    clear h
    go_enter Try.func34, Try.ntmps34
    go_wp2_with fail
    go_loopw [1, 5] (fun q i wr => ∃ j : Nat, j ≤ n ∧ i = .int .i64 j ∧ q = .int .i64 (k + j * 2) ∧ Hid (Ow wr base 65 2 (.slice (some ⟨g, 0, none⟩) n cap) n (mmTill k F j)) ∧ w.grownBy wr (some g)) (fun _ i _ => n - (intOf i).toNat)
    case atStart => exact ⟨0, by omega, rfl, by simp, h0, World.grownBy.refl _ _⟩
    case round =>
      obtain ⟨j, hj, rfl, rfl, HO, hgr⟩ := hrel
      by_cases hlt : j < n
      · have c0 := HO.out.cell (q := j * 2) (by omega)
        have f0 := HO.out.frozen (j * 2)
        have hji : (j : Int) < (n : Int) := by omega
        obtain ⟨S1, G1⟩ := HO.out.set (j * 2) (mkM k (j * 2))
        rw [mkM0] at G1
        have S1 := Lib.hid (show Ow (wr.setCell ⟨g, j * 2, none⟩ (.int .i64 (k + j * 2))) base 65 2 (.slice (some ⟨g, 0, none⟩) n cap) n (fun q => if q = j * 2 then mkM k (j * 2) else mmTill k F j q) by rw [← mkM0]; exact S1)
        have G1 := Lib.hid (grown_trans hgr G1)
        have MT := Lib.hid (markText (k + j * 2 + 1) (by omega) (by omega))
        clear hgr
        go_wp2_with (go_at_call 73; refine (MT.out _).mono ?_)
        rintro e w2 ⟨rfl, b2⟩
        have S2 := Lib.hid (S1.out.below b2)
        have c1 := S2.out.cell (q := j * 2 + 1) (by omega)
        have f1 := S2.out.frozen (j * 2 + 1)
        obtain ⟨S3, G3⟩ := S2.out.set (j * 2 + 1) (mkM k (j * 2 + 1))
        have SS := Lib.hid (S3.congr (G := mmTill k F (j + 1)) fun q _ => mmTill_succ k F j q)
        have GR := Lib.hid (grown_trans (grown_trans G1.out ⟨b2.os, b2.tape, b2.output, b2.size, fun k hk _ => b2.block k hk⟩) G3)
        rw [mkM1] at SS GR
        clear S3 G3 b2
        go_wp2_with fail
        go_roundw
        case rel => exact ⟨j + 1, by omega, by go_num, by go_num, SS, GR.out⟩
        case measure => simp [intOf]; omega
      · obtain rfl : j = n := by omega
        have HF := Lib.hid (HO.out.congr (G := mkM k) fun q hq => by unfold mmTill; rw [if_pos hq])
        go_wp2_with fail
        go_ret
        exact ⟨rfl, HF.out, hgr⟩
theorem markNotes {w : World} {base n : Nat} {v : Value} {F : Nat → Value} {k : Int} (h : Ow w base 65 2 v n F) (hl : n ≤ 1048576) (hk0 : 0 ≤ k) (hk : k ≤ 1099511627776) :
    Calls Try.prog 34 #[v, .int .i64 k] w fun e w' => e = .returned (.int .i64 (k + n * 2)) ∧ w.grownBy w' v.ownBlock :=
  (markNotesK h hl hk0 hk).mono fun _ _ ⟨a, _, c⟩ => ⟨a, c⟩

set_option maxHeartbeats 1000000 in
theorem heldNotes {w : World} {v : Value} {n : Nat} {k : Int} (h : Rd w v n 2 (mkM k)) (hk0 : 0 ≤ k) (hk : k ≤ 1099511627776) :
    Calls Try.prog 35 #[v, .int .i64 k] w fun e w' => e = .returned (.int .i64 (k + n * 2)) ∧ Below w.heap.size w w' := by
  obtain ⟨a, cap, rfl⟩ := Rd.slice h
  have hl := Rd.len h
  have hl' : (n : Int) ≤ 1048576 := by omega
  have AT := Lib.hid (fun (X : World) (c : Below w.heap.size w X) (i : Nat) (hi : i < n) => Rd.at (Rd.below h c) hi)
  clear h
  go_enter Try.func35, Try.ntmps35
  go_wp2_with fail
  go_loopw [1, 5] (fun q i wr => ∃ j : Nat, j ≤ n ∧ i = .int .i64 j ∧ q = .int .i64 (k + j * 2) ∧ Hid (Below w.heap.size w wr)) (fun _ i _ => n - (intOf i).toNat)
  case atStart => exact ⟨0, by omega, rfl, by simp, Lib.hid (Below.refl _ _)⟩
  case round =>
    obtain ⟨j, hj, rfl, rfl, BW⟩ := hrel
    obtain ⟨Z, hZ⟩ : ∃ X, X = wr := ⟨_, rfl⟩
    rw [← hZ] at BW ⊢
    clear hZ
    by_cases hlt : j < n
    · obtain ⟨_, b, o, rfl, hb, hc⟩ := AT.out Z BW.out j hlt
      have c0 := hc (j * 2) (by omega)
      have c1 := hc (j * 2 + 1) (by omega)
      rw [mkM0] at c0
      rw [mkM1, ← Nat.add_assoc] at c1
      have hji : (j : Int) < (n : Int) := by omega
      obtain ⟨S, hS⟩ : ∃ S, S = mkT (k + j * 2 + 1) := ⟨_, rfl⟩
      have MT := Lib.hid (markText (k + j * 2 + 1) (by omega) (by omega))
      rw [← hS] at c1 MT
      clear hc hS
      go_upto_region 7 with fail
      go_cut [28] (fun s wx => s = .bool false ∧ Below Z.heap.size Z wx)
      case first =>
        have d0 : Below Z.heap.size Z Z.drew := (Below.refl _ _).drew
        have CL := Lib.hid (fun (X : World) (kb : Below Z.heap.size Z X) => show X.cell? ⟨b, o + j * 2 + 1, none⟩ = some (.string S) from (kb.cell (p := ⟨b, o + j * 2 + 1, none⟩) hb).trans c1)
        go_region_held3 (fun X => X.cell? ⟨b, o + j * 2 + 1, none⟩ = some (.string S))
          (first | exact CL.out _ d0 | exact CL.out _ (chain d0 bA) | exact CL.out _ (d0.trans (bA.mono d0.size)) | fail)
          (first | (go_at_call 73; refine (MT.out _).mono ?_; rintro e wA ⟨rfl, bA⟩) | fail)
        all_goals (go_wp2_with fail; go_meet; exact ⟨rfl, d0.trans (bA.mono d0.size)⟩)
      case rest =>
      obtain ⟨rfl, b7⟩ := hcut
      have BN := Lib.hid (BW.out.trans (b7.mono BW.out.size))
      clear b7
      go_wp2_with fail
      go_roundw
      case rel => exact ⟨j + 1, by omega, by go_num, by go_num, BN⟩
      case measure => simp [intOf]; omega
    · obtain rfl : j = n := by omega
      go_wp2_with fail
      go_ret
      exact ⟨rfl, BW.out⟩

end Go.Proofs.Ytodknakemgmhkaa
