/-
  A list of moves that is marked. For at most 1048576 moves.
-/
import Derived.Test.YtoapfcnpmpggcabRunS
import Derived.Test.YtoapfcnpmpggcabMarkT
import Derived.Test.YtoapfcnpmpggcabOpenM
import Derived.Test.YtoapfcnpmpggcabMvsL
namespace Go.Proofs.Ytoapfcnpmpggcab
open Go.RowKit Go.Sort

theorem own_mvs {w : World} {base : Nat} {v : Value} {ms : List Mv} (h : OwnM w base v ms) (hl : ms.length ≤ 1048576) : Mvs w v ms := Ow.rd h hl

set_option maxHeartbeats 1000000 in
theorem markMoves {w : World} {base n : Nat} {v : Value} {F : Nat → Value} {k : Int} (h : Ow w base 42 2 v n F) (hl : n ≤ 1048576) (hk0 : 0 ≤ k) (hk : k ≤ 1099511627776) :
    Calls Try.prog 33 #[v, .int .i64 k] w fun e w' => e = .returned (.int .i64 (k + n * 2)) ∧ w.grownBy w' v.ownBlock := by
  have hl' : (n : Int) ≤ 1048576 := by omega
  rcases h.shape with ⟨rfl, rfl⟩ | ⟨g, cap, rfl, hb, hg, hnc⟩
  · go_enter Try.func33, Try.ntmps33
    go_wp2_with fail
    refine wp_loop_rounds 1 ?_
    rw [rounds_succ]
    go_wp2_with fail
    go_ret
    exact ⟨ret_int (by simp), World.grownBy.refl _ _⟩
  · have h0 := Lib.hid h
    clear h
    go_enter Try.func33, Try.ntmps33
    go_wp2_with fail
    go_loopw [1, 5] (fun q i wr => ∃ (j : Nat) (G : Nat → Value), j ≤ n ∧ i = .int .i64 j ∧ q = .int .i64 (k + j * 2) ∧ Hid (Ow wr base 42 2 (.slice (some ⟨g, 0, none⟩) n cap) n G) ∧ w.grownBy wr (some g)) (fun _ i _ => n - (intOf i).toNat)
    case atStart => exact ⟨0, F, by omega, rfl, by simp, h0, World.grownBy.refl _ _⟩
    case round =>
      obtain ⟨j, G, hj, rfl, rfl, HO, hgr⟩ := hrel
      by_cases hlt : j < n
      · have c0 := HO.out.cell (q := j * 2) (by omega)
        have f0 := HO.out.frozen (j * 2)
        have hji : (j : Int) < (n : Int) := by omega
        obtain ⟨S1, G1⟩ := HO.out.set (j * 2) (.int .i64 (k + j * 2))
        have S1 := Lib.hid S1
        have G1 := Lib.hid (grown_trans hgr G1)
        have MT := Lib.hid (markText (k + j * 2 + 1) (by omega) (by omega))
        clear hgr
        go_wp2_with (go_at_call 69; refine (MT.out _).mono ?_)
        rintro e w2 ⟨rfl, b2⟩
        have S2 := Lib.hid (S1.out.below b2)
        have c1 := S2.out.cell (q := j * 2 + 1) (by omega)
        have f1 := S2.out.frozen (j * 2 + 1)
        obtain ⟨S3, G3⟩ := S2.out.set (j * 2 + 1) (.string (mkT (k + j * 2 + 1)))
        have S3 := Lib.hid S3
        have GR := Lib.hid (grown_trans (grown_trans G1.out ⟨b2.os, b2.tape, b2.output, b2.size, fun k hk _ => b2.block k hk⟩) G3)
        clear G3 b2
        go_wp2_with fail
        go_roundw
        case rel => exact ⟨j + 1, _, by omega, by go_num, by go_num, S3, GR.out⟩
        case measure => simp [intOf]; omega
      · obtain rfl : j = n := by omega
        go_wp2_with fail
        go_ret
        exact ⟨rfl, hgr⟩

end Go.Proofs.Ytoapfcnpmpggcab
