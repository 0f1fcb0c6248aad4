/-
  Drawn texts with an event missing or too many: short strings. For codes of at most 1048576 bytes.
-/
import Derived.Test.YtbpifchlmmdnaaaDrawE
import Derived.Deep.RegionWith
import Derived.Deep.DeepCutAuto
namespace Go.Proofs.Ytbpifchlmmdnaaa
open Go.RowKit Go.Sort

set_option maxHeartbeats 4000000 in
theorem brokenText {w : World} {g p B : Nat} (h : Rd w g p) (hp : p ≤ 400) (hB : B ≤ g) :
    Calls Try.prog 68 #[.pointer (some ⟨g, 0, none⟩)] w (DrawnText B w g (p + 60) 33) := by
  have hgw := h.lt
  go_enter Try.func68, Try.ntmps68
  go_wp2_with (go_at_call 66; refine (legalText h (by omega) hB).mono ?_)
  rintro e w1 ⟨S, q, rfl, hS, hr, hq, b1⟩
  have R1 := Lib.hid hr
  have B1 := Lib.hid b1
  have hg1 := hr.lt
  clear hr b1
  by_cases hz : S.size = 0
  · have hz1 : ¬ (0 : Int) < (S.size : Int) := by omega
    clear hz
    go_wp2_with fail
    go_ret
    exact ⟨S, q, rfl, by omega, R1.out, by omega, B1.out⟩
  · have hz1 : (0 : Int) < (S.size : Int) := by omega
    go_wp2_with (go_at_call 69; refine (pick R1.out (by omega) (by omega) (by omega)).mono ?_)
    rintro e w2 ⟨r, rfl, hr0, hr1, hr, g2⟩
    have R2 := Lib.hid hr
    have B2 := Lib.hid (Below.pick B1.out (by omega) hB g2)
    have hg2 := hr.lt
    clear hr g2 hr1
    by_cases h0 : 0 < r
    · go_wp2_with (go_at_call 69; refine (pick R2.out (by omega) (by omega) (by omega)).mono ?_)
      rintro e w3 ⟨j', rfl, hj0, hj1, hr, g3⟩
      have hj1' := hj1 (by omega)
      obtain ⟨j, rfl⟩ : ∃ j : Nat, j' = j := ⟨j'.toNat, by omega⟩
      have R3 := Lib.hid hr
      have B3 := Lib.hid (Below.pick B2.out (by omega) hB g3)
      have hg3 := hr.lt
      clear hr g3 hj1
      obtain ⟨A, hA⟩ : ∃ A, A = S.extract 0 j := ⟨_, rfl⟩
      obtain ⟨T, hT⟩ : ∃ B, B = S.extract (j + 1) S.size := ⟨_, rfl⟩
      obtain ⟨C, hC⟩ : ∃ C, C = A ++ T := ⟨_, rfl⟩
      have hAs : A.size ≤ j := by rw [hA, ByteArray.size_extract]; omega
      have hTs : T.size ≤ S.size - (j + 1) := by rw [hT, ByteArray.size_extract]; omega
      have hCs : C.size ≤ 33 := by rw [hC, ByteArray.size_append]; omega
      have p1 := part_to (S := S) (k := j) (by omega)
      have p2 : ∀ w, (Instr.slice 9 (.string S) (some (.int .i64 ((j : Int) + 1))) none none).run Try.prog w = .ok (.string T) w := by
        intro w
        have := part_from (S := S) (k := j + 1) (by omega) w
        rw [hT]
        exact this
      have p4 : ∀ w, (Op.stringOp .add A T).run Try.prog w = .ok (.string (A ++ T)) w := fun w => run_string_add_sum (P := Try.prog) w A T (by omega)
      rw [← hA] at p1
      rw [← hC] at p4
      have hw1 : IntKind.i64.wrap ((j : Int) + 1) = (j : Int) + 1 := IntWalk.i64_in _ (by omega)
      clear hA hT hC hAs hTs
      go_wp2_with fail
      refine wp_region_quiet_below (by kernel_rfl) (by kernel_rfl) ?_
      repeat (go_big_quiet_step (fail))
      refine wpQuiet_nil ?_
      intro _ hw'
      obtain ⟨⟨dq, osq⟩, hw''⟩ := hw'
      subst hw''
      have br := below_regrown w3 dq osq
      go_wp2_with fail
      go_ret
      exact ⟨C, q + 1 + 1, rfl, hCs, R3.out.below br hg3, by omega, B3.out.trans (br.mono (by omega))⟩
    · go_wp2_with fail
      go_ret
      exact ⟨S, q + 1, rfl, by omega, R2.out, by omega, B2.out⟩

set_option maxHeartbeats 1000000 in
theorem drawRepair {w : World} {a : Option Addr} {len cap : Nat} {zs : List Int} (h : IsRowK .u8 w a len cap zs) (hl : len ≤ 1048576) :
    Calls Try.prog 48 #[.slice a len cap] w (ShortText w 33) := by
  go_enter Try.func48, Try.ntmps48
  go_wp2_with (go_at_call 67; refine (openRd h hl).mono ?_)
  rintro e w1 ⟨g, rfl, hg, hr, b1⟩
  go_wp2_with (go_at_call 68; refine (brokenText hr (by omega) hg).mono ?_)
  rintro e w2 ⟨S, q, rfl, hS, -, -, b2⟩
  go_wp2_with fail
  go_ret
  exact ⟨S, rfl, hS, b1.trans b2⟩

theorem lit_shorts4 (w : World) (s1 s2 s3 s4 : ByteArray) (t : TypeId) (h1 : s1.size ≤ 2) (h2 : s2.size ≤ 2) (h3 : s3.size ≤ 2) (h4 : s4.size ≤ 2) : Shorts (w.alloc (.cells #[.string s1, .string s2, .string s3, .string s4] t)) (.slice (some ⟨w.heap.size, 0, none⟩) 4 4) 4 := by
  have hn : (w.alloc (.cells #[.string s1, .string s2, .string s3, .string s4] t)).heap[w.heap.size]? = some (.cells #[.string s1, .string s2, .string s3, .string s4] t (0, 0)) := Go.Deep.blk_alloc_new _ _
  refine ⟨w.heap.size, 4, rfl, (Array.getElem?_eq_some_iff.1 hn).1, fun i hi => ?_⟩
  match i, hi with
  | 0, _ => exact ⟨s1, by simp only [World.cell?, hn]; rfl, h1⟩
  | 1, _ => exact ⟨s2, by simp only [World.cell?, hn]; rfl, h2⟩
  | 2, _ => exact ⟨s3, by simp only [World.cell?, hn]; rfl, h3⟩
  | 3, _ => exact ⟨s4, by simp only [World.cell?, hn]; rfl, h4⟩

theorem Rd.drew {w : World} {g p : Nat} (h : Rd w g p) : Rd w.drew g p := h
theorem Shorts.drew {w : World} {v : Value} {n : Nat} (h : Shorts w v n) : Shorts w.drew v n := h

set_option maxHeartbeats 8000000 in
theorem drawDrop {w : World} {a : Option Addr} {len cap : Nat} {zs : List Int} (h : IsRowK .u8 w a len cap zs) (hl : len ≤ 1048576) :
    Calls Try.prog 50 #[.slice a len cap] w (ShortText w 100) := by
  go_enter Try.func50, Try.ntmps50
  go_wp2_with (go_at_call 67; refine (openRd h hl).mono ?_)
  rintro e w0 ⟨g, rfl, hg, hr, b0⟩
  have hg0 := hr.lt
  go_wp2_with (go_at_call 66; refine (legalText hr (by omega) hg).mono ?_)
  rintro e w1 ⟨S, q, rfl, hS, hr, hq, b1⟩
  have R1 := Lib.hid hr
  have B1 := Lib.hid (b0.trans b1)
  have hg1 := hr.lt
  clear hr b1 b0 h
  by_cases hz : 0 < S.size ∧ S.size < 30
  · obtain ⟨hz1, hz2⟩ := hz
    have hz3 : (0 : Int) < (S.size : Int) := by omega
    have hz4 : (S.size : Int) < 30 := by omega
    go_wp2_with (go_at_call 69; refine (pick R1.out (by omega) (by omega) (by omega)).mono ?_)
    rintro e w2 ⟨r, rfl, hr0, hr1, hr, g2⟩
    have R2 := Lib.hid hr
    have B2 := Lib.hid (Below.pick B1.out (by omega) hg g2)
    have hg2 := hr.lt
    clear hr g2 hr1
    by_cases h0 : r = 0
    · subst h0
      go_wp2_with (go_at_call 69; refine (pick R2.out (by omega) (by omega) (by omega)).mono ?_)
      rintro e w3 ⟨j', rfl, hj0, hj1, hr, g3⟩
      have hj1' := hj1 (by omega)
      obtain ⟨j, rfl⟩ : ∃ j : Nat, j' = j := ⟨j'.toNat, by omega⟩
      have B3 := Lib.hid (Below.pick B2.out (by omega) hg g3)
      have hg3 := hr.lt
      have q3 := below_alloc w3 (.cells #[.string ⟨#[111]⟩, .string ⟨#[101]⟩, .string ⟨#[102]⟩, .string ⟨#[120]⟩] 9)
      have R4 := Lib.hid (hr.below q3 hg3)
      have SH := Lib.hid (lit_shorts4 w3 ⟨#[111]⟩ ⟨#[101]⟩ ⟨#[102]⟩ ⟨#[120]⟩ 9 (by decide) (by decide) (by decide) (by decide))
      have B4 := Lib.hid (B3.out.trans (q3.mono (by omega)))
      have s4 : (w3.alloc (.cells #[.string ⟨#[111]⟩, .string ⟨#[101]⟩, .string ⟨#[102]⟩, .string ⟨#[120]⟩] 9)).heap.size = w3.heap.size + 1 := Go.Deep.nblk_alloc _ _
      have S4 := Lib.hid s4
      clear hr g3 hj1 q3 s4
      obtain ⟨A, hA⟩ : ∃ A, A = S.extract 0 j := ⟨_, rfl⟩
      obtain ⟨T, hT⟩ : ∃ B, B = S.extract j S.size := ⟨_, rfl⟩
      have hAs : A.size ≤ 33 := by rw [hA, ByteArray.size_extract]; omega
      have hTs : T.size ≤ 33 := by rw [hT, ByteArray.size_extract]; omega
      have p1 := part_to (S := S) (k := j) (by omega)
      have p2 := part_from (S := S) (k := j) (by omega)
      rw [← hA] at p1
      rw [← hT] at p2
      clear hA hT
      go_upto_region 5 with fail
      go_region_with (go_at_call 70; refine (ofRd R4.out.drew SH.out.drew (by omega) (by omega) (by omega) (fun b o k c e => by simp only [Value.slice.injEq, Option.some.injEq, Addr.mk.injEq] at e; omega)).mono ?_; rintro e wA ⟨s, rfl, hs, -, gA⟩; have hadd1 : ¬ 9223372036854775807 < A.size + s.size := (by omega); have hadd2 : ¬ 9223372036854775807 < A.size + s.size + T.size := (by omega))
      all_goals
        have B5 := Lib.hid (Below.pick B4.out.drew (by have := S4.out; show w.heap.size ≤ (w3.alloc _).heap.size; omega) hg gA)
        have hfin : (A ++ s ++ T).size ≤ 100 := by rw [ByteArray.size_append, ByteArray.size_append]; omega
        clear gA
        go_wp2_with fail
        go_ret
        exact ⟨_, rfl, hfin, B5.out⟩
    · have t0 : (r == 0) = false := by simpa using h0
      go_wp2_with fail
      go_ret
      exact ⟨S, rfl, by omega, B2.out⟩
  · by_cases hz1 : 0 < S.size
    · have hz3 : (0 : Int) < (S.size : Int) := by omega
      have hz4 : ¬ (S.size : Int) < 30 := by omega
      clear hz
      go_wp2_with fail
      go_ret
      exact ⟨S, rfl, by omega, B1.out⟩
    · have hz3 : ¬ (0 : Int) < (S.size : Int) := by omega
      clear hz hz1
      go_wp2_with fail
      go_ret
      exact ⟨S, rfl, by omega, B1.out⟩

end Go.Proofs.Ytbpifchlmmdnaaa
