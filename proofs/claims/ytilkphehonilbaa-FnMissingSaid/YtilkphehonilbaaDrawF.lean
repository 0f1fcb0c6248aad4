/-
  Drawn texts with an event missing or too many: short strings. For codes of at most 1048576 bytes.
-/
import Derived.Test.YtilkphehonilbaaDrawE
import Derived.Deep.RegionWith
import Derived.Deep.DeepCutAuto
namespace Go.Proofs.Ytilkphehonilbaa
open Go.RowKit Go.Sort

set_option maxHeartbeats 4000000 in
theorem brokenText {w : World} {g p B : Nat} (h : Rdr w g p) (hp : p ≤ 400) (hB : B ≤ g) :
    Calls Try.prog 40 #[.pointer (some ⟨g, 0, none⟩)] w (DrawnText B w g (p + 60) 33) := by
  have hgw := h.lt
  go_enter Try.func40, Try.ntmps40
  go_wp2_with (go_at_call 49; refine (legalText h (by omega) hB).mono ?_)
  rintro e w1 ⟨S, q, rfl, hS, hr, hq, b1⟩
  have R1 := Lib.hid hr
  have B1 := Lib.hid b1
  have hg1 := hr.lt
  clear hr b1
  by_cases hz : S.size = 0
  · have hz1 : ¬ (0 : Int) < (S.size : Int) := by omega
    clear hz
    go_wp2_with fail
    go_ret
    exact ⟨S, q, rfl, by omega, R1.out, by omega, B1.out⟩
  · have hz1 : (0 : Int) < (S.size : Int) := by omega
    go_wp2_with (go_at_call 21; refine (pick R1.out (by omega) (by omega) (by omega)).mono ?_)
    rintro e w2 ⟨r, rfl, hr0, hr1, hr, g2⟩
    have R2 := Lib.hid hr
    have B2 := Lib.hid (Below.pick B1.out (by omega) hB g2)
    have hg2 := hr.lt
    clear hr g2 hr1
    by_cases h0 : 0 < r
    · go_wp2_with (go_at_call 21; refine (pick R2.out (by omega) (by omega) (by omega)).mono ?_)
      rintro e w3 ⟨j', rfl, hj0, hj1, hr, g3⟩
      have hj1' := hj1 (by omega)
      obtain ⟨j, rfl⟩ : ∃ j : Nat, j' = j := ⟨j'.toNat, by omega⟩
      have R3 := Lib.hid hr
      have B3 := Lib.hid (Below.pick B2.out (by omega) hB g3)
      have hg3 := hr.lt
      clear hr g3 hj1
      obtain ⟨A, hA⟩ : ∃ A, A = S.extract 0 j := ⟨_, rfl⟩
      obtain ⟨T, hT⟩ : ∃ B, B = S.extract (j + 1) S.size := ⟨_, rfl⟩
      obtain ⟨C, hC⟩ : ∃ C, C = A ++ T := ⟨_, rfl⟩
      have hAs : A.size ≤ j := by rw [hA, ByteArray.size_extract]; omega
      have hTs : T.size ≤ S.size - (j + 1) := by rw [hT, ByteArray.size_extract]; omega
      have hCs : C.size ≤ 33 := by rw [hC, ByteArray.size_append]; omega
      have p1 := part_to (S := S) (k := j) (by omega)
      have p2 : ∀ w, (Instr.slice 9 (.string S) (some (.int .i64 ((j : Int) + 1))) none none).run Try.prog w = .ok (.string T) w := by
        intro w
        have := part_from (S := S) (k := j + 1) (by omega) w
        rw [hT]
        exact this
      have p4 : ∀ w, (Op.stringOp .add A T).run Try.prog w = .ok (.string (A ++ T)) w := fun w => run_string_add_sum (P := Try.prog) w A T (by omega)
      rw [← hA] at p1
      rw [← hC] at p4
      have hw1 : IntKind.i64.wrap ((j : Int) + 1) = (j : Int) + 1 := IntWalk.i64_in _ (by omega)
      clear hA hT hC hAs hTs
      go_wp2_with fail
      refine wp_region_quiet_below (by kernel_rfl) (by kernel_rfl) ?_
      repeat (go_big_quiet_step (fail))
      refine wpQuiet_nil ?_
      intro _ hw'
      obtain ⟨⟨dq, osq⟩, hw''⟩ := hw'
      subst hw''
      have br := below_regrown w3 dq osq
      go_wp2_with fail
      go_ret
      exact ⟨C, q + 1 + 1, rfl, hCs, R3.out.below br hg3, by omega, B3.out.trans (br.mono (by omega))⟩
    · go_wp2_with fail
      go_ret
      exact ⟨S, q + 1, rfl, by omega, R2.out, by omega, B2.out⟩

theorem lit_shorts4 (w : World) (s1 s2 s3 s4 : ByteArray) (t : TypeId) (h1 : s1.size ≤ 2) (h2 : s2.size ≤ 2) (h3 : s3.size ≤ 2) (h4 : s4.size ≤ 2) : Shorts (w.alloc (.cells #[.string s1, .string s2, .string s3, .string s4] t)) (.slice (some ⟨w.heap.size, 0, none⟩) 4 4) 4 := by
  have hn : (w.alloc (.cells #[.string s1, .string s2, .string s3, .string s4] t)).heap[w.heap.size]? = some (.cells #[.string s1, .string s2, .string s3, .string s4] t (0, 0)) := Go.Deep.blk_alloc_new _ _
  refine ⟨w.heap.size, 4, rfl, (Array.getElem?_eq_some_iff.1 hn).1, fun i hi => ?_⟩
  match i, hi with
  | 0, _ => exact ⟨s1, by simp only [World.cell?, hn]; rfl, h1⟩
  | 1, _ => exact ⟨s2, by simp only [World.cell?, hn]; rfl, h2⟩
  | 2, _ => exact ⟨s3, by simp only [World.cell?, hn]; rfl, h3⟩
  | 3, _ => exact ⟨s4, by simp only [World.cell?, hn]; rfl, h4⟩

theorem Rdr.drew {w : World} {g p : Nat} (h : Rdr w g p) : Rdr w.drew g p := h
theorem Shorts.drew {w : World} {v : Value} {n : Nat} (h : Shorts w v n) : Shorts w.drew v n := h

end Go.Proofs.Ytilkphehonilbaa
