/-
  Drawn ends, directions and kinds. For codes of at most 1048576 bytes.
-/
import Derived.Test.YthjodagbgmpbhaaGreatDoorDrawA
import Derived.Test.YthjodagbgmpbhaaGreatDoorDirF
namespace Go.Proofs.YthjodagbgmpbhaaGreatDoor
open Go.RowKit Go.Sort

/-- A drawn end, directions and kinds. -/
def DrawnRun (w : World) (e : Ending) (w' : World) : Prop := ∃ (x : Int) (D K : ByteArray), e = .returned (.tuple #[.int .i64 x, .string D, .string K]) ∧ -2 ≤ x ∧ x ≤ 1 ∧ D.size ≤ 100 ∧ K.size ≤ 200 ∧ Below w.heap.size w w'
theorem skS_size (x : Int) (D : ByteArray) : (skS x D).size ≤ D.size := by
  unfold skS
  split
  · rw [kdS_size]; exact Nat.le_refl _
  · exact Nat.zero_le _

set_option maxHeartbeats 8000000 in
theorem drawStaffRun {w : World} {a : Option Addr} {len cap : Nat} {zs : List Int} (h : IsRowK .u8 w a len cap zs) (hl : len ≤ 1048576) :
    Calls Tryz.prog 23 #[.slice a len cap] w (DrawnRun w) := by
  go_enter Tryz.func23, Tryz.ntmps23
  go_wp2_with (go_at_call 27; refine (openRd h hl).mono ?_)
  rintro e w1 ⟨g, rfl, hg, hr, b1⟩
  have R1 := Lib.hid hr
  have B1 := Lib.hid b1
  clear hr b1
  go_wp2_with (go_at_call 26; refine (drawDirs R1.out (by omega) hg 8 (by omega)).mono ?_)
  rintro e w2 ⟨D, q0, rfl, hD, hr, hq0, b2⟩
  have R2 := Lib.hid hr
  have B2 := Lib.hid (B1.out.trans b2)
  clear hr b2
  go_wp2_with (go_at_call 36; refine (pick R2.out (by omega) (by omega) (by omega)).mono ?_)
  rintro e w3 ⟨p, rfl, p0, p1, hr, g3⟩
  have p1' := p1 (by omega)
  have R3 := Lib.hid hr
  have B3 := Lib.hid (Below.pick B2.out B2.out.size hg g3)
  clear hr g3 p1 h
  rcases Nat.eq_zero_or_pos D.size with h0 | h0
  · have h0i : ¬ (0 : Int) < (D.size : Int) := by omega
    go_upto_region 6 with fail
    obtain ⟨x, hx⟩ : ∃ x : Int, x = p := ⟨_, rfl⟩
    have hx01 : 0 ≤ x ∧ x ≤ 1 := by rw [hx]; omega
    rw [← hx]
    obtain ⟨x0, x1⟩ := hx01
    have SK := Lib.hid (specStaffKinds x D (by omega))
    have hskS := skS_size x D
    obtain ⟨K, hK⟩ : ∃ K, K = skS x D := ⟨_, rfl⟩
    obtain ⟨ok, hok⟩ : ∃ k, k = skOk x D := ⟨_, rfl⟩
    rw [← hK, ← hok] at SK
    rw [← hK] at hskS
    clear hK hok hx
    go_wp2_with (go_at_call 40; refine (SK.out _).mono ?_)
    rintro e wk ⟨rfl, bk⟩
    have hszk : w.heap.size ≤ wk.heap.size := Nat.le_trans B3.out.size bk.size
    have RK := Lib.hid (R3.out.below bk R3.out.lt)
    have BK := Lib.hid (B3.out.trans (bk.mono B3.out.size))
    clear bk
    cases ok
    · skip
      go_wp2_with fail
      go_loopw [10, 11] (fun s i wr => ∃ (k q : Nat) (S : ByteArray), k ≤ D.size ∧ i = .int .i64 k ∧ s = .string S ∧ S.size ≤ 2 * k ∧ q ≤ 100 + k ∧ Rdr wr g q ∧ Below w.heap.size w wr) (fun _ i _ => D.size - (intOf i).toNat)
      case atStart => exact ⟨0, _, ⟨#[]⟩, by omega, rfl, rfl, Nat.le_refl _, by omega, RK.out, BK.out⟩
      case round =>
        obtain ⟨k, q, S, hk, rfl, rfl, hS, hq, hr, hbel⟩ := hrel
        have hgr := hr.lt
        have R2 := Lib.hid hr
        have BB := Lib.hid hbel
        clear hr hbel
        by_cases hlt : k < D.size
        · omega
        · have hki : ¬ (k : Int) < (D.size : Int) := by omega
          go_wp2_with (go_at_call 36; refine (pick R2.out (by omega) (by omega) (by omega)).mono ?_)
          rintro e w2 ⟨r, rfl, hr0, hr1, hr, g2⟩
          have hr1' := hr1 (by omega)
          have B3 := Lib.hid (Below.pick BB.out BB.out.size hg g2)
          have yy : 0 ≤ r / 15 ∧ r / 15 ≤ 1 := by omega
          clear hr g2 hr1
          go_wp2_with fail
          exact bodyPost_ret (v := .tuple #[.int .i64 (x - r / 15 * 2), .string D, .string S]) (by simp [results, Tryz.results23, go_sem]) rfl ⟨_, D, S, rfl, by omega, by omega, hD, by omega, B3.out⟩
    · go_wp2_with (go_at_call 36; refine (pick RK.out (by omega) (by omega) (by omega)).mono ?_)
      rintro e wp ⟨r4, rfl, r40, r41, hr, gp⟩
      have RP := Lib.hid hr
      have BP := Lib.hid (Below.pick BK.out BK.out.size hg gp)
      clear hr gp r41
      by_cases h4 : 0 < r4
      · go_wp2_with fail
        exact bodyPost_ret (v := .tuple #[.int .i64 x, .string D, .string K]) (by simp [results, Tryz.results23, go_sem]) rfl ⟨x, D, K, rfl, by omega, by omega, hD, by omega, BP.out⟩
      · skip
        go_wp2_with fail
        go_loopw [10, 11] (fun s i wr => ∃ (k q : Nat) (S : ByteArray), k ≤ D.size ∧ i = .int .i64 k ∧ s = .string S ∧ S.size ≤ 2 * k ∧ q ≤ 100 + k ∧ Rdr wr g q ∧ Below w.heap.size w wr) (fun _ i _ => D.size - (intOf i).toNat)
        case atStart => exact ⟨0, _, ⟨#[]⟩, by omega, rfl, rfl, Nat.le_refl _, by omega, RP.out, BP.out⟩
        case round =>
          obtain ⟨k, q, S, hk, rfl, rfl, hS, hq, hr, hbel⟩ := hrel
          have hgr := hr.lt
          have R2 := Lib.hid hr
          have BB := Lib.hid hbel
          clear hr hbel
          by_cases hlt : k < D.size
          · omega
          · have hki : ¬ (k : Int) < (D.size : Int) := by omega
            go_wp2_with (go_at_call 36; refine (pick R2.out (by omega) (by omega) (by omega)).mono ?_)
            rintro e w2 ⟨r, rfl, hr0, hr1, hr, g2⟩
            have hr1' := hr1 (by omega)
            have B3 := Lib.hid (Below.pick BB.out BB.out.size hg g2)
            have yy : 0 ≤ r / 15 ∧ r / 15 ≤ 1 := by omega
            clear hr g2 hr1
            go_wp2_with fail
            exact bodyPost_ret (v := .tuple #[.int .i64 (x - r / 15 * 2), .string D, .string S]) (by simp [results, Tryz.results23, go_sem]) rfl ⟨_, D, S, rfl, by omega, by omega, hD, by omega, B3.out⟩
  · have h0i : (0 : Int) < (D.size : Int) := by omega
    go_wp2_with (go_at_call 36; refine (pick R3.out (by omega) (by omega) (by omega)).mono ?_)
    rintro e w4 ⟨r, rfl, r0, r1, hr, g4⟩
    have R4 := Lib.hid hr
    have B4 := Lib.hid (Below.pick B3.out B3.out.size hg g4)
    clear hr g4 r1
    by_cases h4 : 0 < r
    · have hix : ∀ (w : World), (Instr.index 9 (.string D) (.int .i64 0)).run Tryz.prog w = .ok (.int .u8 (bt D 0)) w := fun w => index_is (S := D) (k := 0) h0 w
      have EN := Lib.hid (specEnd (bt D 0))
      have et := endOf_two (bt D 0)
      go_upto_region 6 with (go_at_call 39; refine (EN.out _).mono ?_; rintro e w5 ⟨rfl, rfl⟩)
      clear hix EN
      obtain ⟨x, hx⟩ : ∃ x : Int, x = endOf (bt D 0) := ⟨_, rfl⟩
      have hx01 : 0 ≤ x ∧ x ≤ 1 := by rw [hx]; omega
      rw [← hx]
      obtain ⟨x0, x1⟩ := hx01
      have SK := Lib.hid (specStaffKinds x D (by omega))
      have hskS := skS_size x D
      obtain ⟨K, hK⟩ : ∃ K, K = skS x D := ⟨_, rfl⟩
      obtain ⟨ok, hok⟩ : ∃ k, k = skOk x D := ⟨_, rfl⟩
      rw [← hK, ← hok] at SK
      rw [← hK] at hskS
      clear hK hok hx
      go_wp2_with (go_at_call 40; refine (SK.out _).mono ?_)
      rintro e wk ⟨rfl, bk⟩
      have hszk : w.heap.size ≤ wk.heap.size := Nat.le_trans B4.out.size bk.size
      have RK := Lib.hid (R4.out.below bk R4.out.lt)
      have BK := Lib.hid (B4.out.trans (bk.mono B4.out.size))
      clear bk
      cases ok
      · skip
        go_wp2_with fail
        go_loopw [10, 11] (fun s i wr => ∃ (k q : Nat) (S : ByteArray), k ≤ D.size ∧ i = .int .i64 k ∧ s = .string S ∧ S.size ≤ 2 * k ∧ q ≤ 100 + k ∧ Rdr wr g q ∧ Below w.heap.size w wr) (fun _ i _ => D.size - (intOf i).toNat)
        case atStart => exact ⟨0, _, ⟨#[]⟩, by omega, rfl, rfl, Nat.le_refl _, by omega, RK.out, BK.out⟩
        case round =>
          obtain ⟨k, q, S, hk, rfl, rfl, hS, hq, hr, hbel⟩ := hrel
          have hgr := hr.lt
          have R2 := Lib.hid hr
          have BB := Lib.hid hbel
          clear hr hbel
          by_cases hlt : k < D.size
          · have hki : (k : Int) < (D.size : Int) := by omega
            have sh := lit_shorts2 wr ⟨#[83]⟩ ⟨#[84]⟩ 9 (by decide) (by decide)
            have q3 := below_alloc wr (.cells #[.string ⟨#[83]⟩, .string ⟨#[84]⟩] 9)
            obtain ⟨W3, hW3⟩ : ∃ X, X = wr.alloc (.cells #[.string ⟨#[83]⟩, .string ⟨#[84]⟩] 9) := ⟨_, rfl⟩
            rw [← hW3] at sh q3
            have HW3 := Lib.hid hW3
            have R4 := Lib.hid (R2.out.below q3 hgr)
            have SH := Lib.hid sh
            have B4 := Lib.hid (BB.out.trans (q3.mono BB.out.size))
            clear hW3 sh q3
            go_wp2_with (rw [← HW3.out]; go_at_call 41; refine (ofRd R4.out SH.out (by omega) (by omega) (by omega) (lit_apart hgr)).mono ?_)
            rintro e w4 ⟨s, rfl, hs, hr, g4⟩
            have B5 := Lib.hid (Below.pick B4.out B4.out.size hg g4)
            have R5 := Lib.hid hr
            have hadd : ¬ 9223372036854775807 < S.size + s.size := by omega
            have hsq : (S ++ s).size ≤ 2 * (k + 1) := by rw [ByteArray.size_append]; omega
            clear g4 hr
            go_wp2_with fail
            go_roundw
            case rel => exact ⟨k + 1, q + 1, S ++ s, by omega, by go_num, rfl, hsq, by omega, R5.out, B5.out⟩
            case measure => simp [intOf]; omega
          · have hki : ¬ (k : Int) < (D.size : Int) := by omega
            go_wp2_with (go_at_call 36; refine (pick R2.out (by omega) (by omega) (by omega)).mono ?_)
            rintro e w2 ⟨r, rfl, hr0, hr1, hr, g2⟩
            have hr1' := hr1 (by omega)
            have B3 := Lib.hid (Below.pick BB.out BB.out.size hg g2)
            have yy : 0 ≤ r / 15 ∧ r / 15 ≤ 1 := by omega
            clear hr g2 hr1
            go_wp2_with fail
            exact bodyPost_ret (v := .tuple #[.int .i64 (x - r / 15 * 2), .string D, .string S]) (by simp [results, Tryz.results23, go_sem]) rfl ⟨_, D, S, rfl, by omega, by omega, hD, by omega, B3.out⟩
      · go_wp2_with (go_at_call 36; refine (pick RK.out (by omega) (by omega) (by omega)).mono ?_)
        rintro e wp ⟨r4, rfl, r40, r41, hr, gp⟩
        have RP := Lib.hid hr
        have BP := Lib.hid (Below.pick BK.out BK.out.size hg gp)
        clear hr gp r41
        by_cases h4 : 0 < r4
        · go_wp2_with fail
          exact bodyPost_ret (v := .tuple #[.int .i64 x, .string D, .string K]) (by simp [results, Tryz.results23, go_sem]) rfl ⟨x, D, K, rfl, by omega, by omega, hD, by omega, BP.out⟩
        · skip
          go_wp2_with fail
          go_loopw [10, 11] (fun s i wr => ∃ (k q : Nat) (S : ByteArray), k ≤ D.size ∧ i = .int .i64 k ∧ s = .string S ∧ S.size ≤ 2 * k ∧ q ≤ 100 + k ∧ Rdr wr g q ∧ Below w.heap.size w wr) (fun _ i _ => D.size - (intOf i).toNat)
          case atStart => exact ⟨0, _, ⟨#[]⟩, by omega, rfl, rfl, Nat.le_refl _, by omega, RP.out, BP.out⟩
          case round =>
            obtain ⟨k, q, S, hk, rfl, rfl, hS, hq, hr, hbel⟩ := hrel
            have hgr := hr.lt
            have R2 := Lib.hid hr
            have BB := Lib.hid hbel
            clear hr hbel
            by_cases hlt : k < D.size
            · have hki : (k : Int) < (D.size : Int) := by omega
              have sh := lit_shorts2 wr ⟨#[83]⟩ ⟨#[84]⟩ 9 (by decide) (by decide)
              have q3 := below_alloc wr (.cells #[.string ⟨#[83]⟩, .string ⟨#[84]⟩] 9)
              obtain ⟨W3, hW3⟩ : ∃ X, X = wr.alloc (.cells #[.string ⟨#[83]⟩, .string ⟨#[84]⟩] 9) := ⟨_, rfl⟩
              rw [← hW3] at sh q3
              have HW3 := Lib.hid hW3
              have R4 := Lib.hid (R2.out.below q3 hgr)
              have SH := Lib.hid sh
              have B4 := Lib.hid (BB.out.trans (q3.mono BB.out.size))
              clear hW3 sh q3
              go_wp2_with (rw [← HW3.out]; go_at_call 41; refine (ofRd R4.out SH.out (by omega) (by omega) (by omega) (lit_apart hgr)).mono ?_)
              rintro e w4 ⟨s, rfl, hs, hr, g4⟩
              have B5 := Lib.hid (Below.pick B4.out B4.out.size hg g4)
              have R5 := Lib.hid hr
              have hadd : ¬ 9223372036854775807 < S.size + s.size := by omega
              have hsq : (S ++ s).size ≤ 2 * (k + 1) := by rw [ByteArray.size_append]; omega
              clear g4 hr
              go_wp2_with fail
              go_roundw
              case rel => exact ⟨k + 1, q + 1, S ++ s, by omega, by go_num, rfl, hsq, by omega, R5.out, B5.out⟩
              case measure => simp [intOf]; omega
            · have hki : ¬ (k : Int) < (D.size : Int) := by omega
              go_wp2_with (go_at_call 36; refine (pick R2.out (by omega) (by omega) (by omega)).mono ?_)
              rintro e w2 ⟨r, rfl, hr0, hr1, hr, g2⟩
              have hr1' := hr1 (by omega)
              have B3 := Lib.hid (Below.pick BB.out BB.out.size hg g2)
              have yy : 0 ≤ r / 15 ∧ r / 15 ≤ 1 := by omega
              clear hr g2 hr1
              go_wp2_with fail
              exact bodyPost_ret (v := .tuple #[.int .i64 (x - r / 15 * 2), .string D, .string S]) (by simp [results, Tryz.results23, go_sem]) rfl ⟨_, D, S, rfl, by omega, by omega, hD, by omega, B3.out⟩
    · go_upto_region 6 with fail
      obtain ⟨x, hx⟩ : ∃ x : Int, x = p := ⟨_, rfl⟩
      have hx01 : 0 ≤ x ∧ x ≤ 1 := by rw [hx]; omega
      rw [← hx]
      obtain ⟨x0, x1⟩ := hx01
      have SK := Lib.hid (specStaffKinds x D (by omega))
      have hskS := skS_size x D
      obtain ⟨K, hK⟩ : ∃ K, K = skS x D := ⟨_, rfl⟩
      obtain ⟨ok, hok⟩ : ∃ k, k = skOk x D := ⟨_, rfl⟩
      rw [← hK, ← hok] at SK
      rw [← hK] at hskS
      clear hK hok hx
      go_wp2_with (go_at_call 40; refine (SK.out _).mono ?_)
      rintro e wk ⟨rfl, bk⟩
      have hszk : w.heap.size ≤ wk.heap.size := Nat.le_trans B4.out.size bk.size
      have RK := Lib.hid (R4.out.below bk R4.out.lt)
      have BK := Lib.hid (B4.out.trans (bk.mono B4.out.size))
      clear bk
      cases ok
      · skip
        go_wp2_with fail
        go_loopw [10, 11] (fun s i wr => ∃ (k q : Nat) (S : ByteArray), k ≤ D.size ∧ i = .int .i64 k ∧ s = .string S ∧ S.size ≤ 2 * k ∧ q ≤ 100 + k ∧ Rdr wr g q ∧ Below w.heap.size w wr) (fun _ i _ => D.size - (intOf i).toNat)
        case atStart => exact ⟨0, _, ⟨#[]⟩, by omega, rfl, rfl, Nat.le_refl _, by omega, RK.out, BK.out⟩
        case round =>
          obtain ⟨k, q, S, hk, rfl, rfl, hS, hq, hr, hbel⟩ := hrel
          have hgr := hr.lt
          have R2 := Lib.hid hr
          have BB := Lib.hid hbel
          clear hr hbel
          by_cases hlt : k < D.size
          · have hki : (k : Int) < (D.size : Int) := by omega
            have sh := lit_shorts2 wr ⟨#[83]⟩ ⟨#[84]⟩ 9 (by decide) (by decide)
            have q3 := below_alloc wr (.cells #[.string ⟨#[83]⟩, .string ⟨#[84]⟩] 9)
            obtain ⟨W3, hW3⟩ : ∃ X, X = wr.alloc (.cells #[.string ⟨#[83]⟩, .string ⟨#[84]⟩] 9) := ⟨_, rfl⟩
            rw [← hW3] at sh q3
            have HW3 := Lib.hid hW3
            have R4 := Lib.hid (R2.out.below q3 hgr)
            have SH := Lib.hid sh
            have B4 := Lib.hid (BB.out.trans (q3.mono BB.out.size))
            clear hW3 sh q3
            go_wp2_with (rw [← HW3.out]; go_at_call 41; refine (ofRd R4.out SH.out (by omega) (by omega) (by omega) (lit_apart hgr)).mono ?_)
            rintro e w4 ⟨s, rfl, hs, hr, g4⟩
            have B5 := Lib.hid (Below.pick B4.out B4.out.size hg g4)
            have R5 := Lib.hid hr
            have hadd : ¬ 9223372036854775807 < S.size + s.size := by omega
            have hsq : (S ++ s).size ≤ 2 * (k + 1) := by rw [ByteArray.size_append]; omega
            clear g4 hr
            go_wp2_with fail
            go_roundw
            case rel => exact ⟨k + 1, q + 1, S ++ s, by omega, by go_num, rfl, hsq, by omega, R5.out, B5.out⟩
            case measure => simp [intOf]; omega
          · have hki : ¬ (k : Int) < (D.size : Int) := by omega
            go_wp2_with (go_at_call 36; refine (pick R2.out (by omega) (by omega) (by omega)).mono ?_)
            rintro e w2 ⟨r, rfl, hr0, hr1, hr, g2⟩
            have hr1' := hr1 (by omega)
            have B3 := Lib.hid (Below.pick BB.out BB.out.size hg g2)
            have yy : 0 ≤ r / 15 ∧ r / 15 ≤ 1 := by omega
            clear hr g2 hr1
            go_wp2_with fail
            exact bodyPost_ret (v := .tuple #[.int .i64 (x - r / 15 * 2), .string D, .string S]) (by simp [results, Tryz.results23, go_sem]) rfl ⟨_, D, S, rfl, by omega, by omega, hD, by omega, B3.out⟩
      · go_wp2_with (go_at_call 36; refine (pick RK.out (by omega) (by omega) (by omega)).mono ?_)
        rintro e wp ⟨r4, rfl, r40, r41, hr, gp⟩
        have RP := Lib.hid hr
        have BP := Lib.hid (Below.pick BK.out BK.out.size hg gp)
        clear hr gp r41
        by_cases h4 : 0 < r4
        · go_wp2_with fail
          exact bodyPost_ret (v := .tuple #[.int .i64 x, .string D, .string K]) (by simp [results, Tryz.results23, go_sem]) rfl ⟨x, D, K, rfl, by omega, by omega, hD, by omega, BP.out⟩
        · skip
          go_wp2_with fail
          go_loopw [10, 11] (fun s i wr => ∃ (k q : Nat) (S : ByteArray), k ≤ D.size ∧ i = .int .i64 k ∧ s = .string S ∧ S.size ≤ 2 * k ∧ q ≤ 100 + k ∧ Rdr wr g q ∧ Below w.heap.size w wr) (fun _ i _ => D.size - (intOf i).toNat)
          case atStart => exact ⟨0, _, ⟨#[]⟩, by omega, rfl, rfl, Nat.le_refl _, by omega, RP.out, BP.out⟩
          case round =>
            obtain ⟨k, q, S, hk, rfl, rfl, hS, hq, hr, hbel⟩ := hrel
            have hgr := hr.lt
            have R2 := Lib.hid hr
            have BB := Lib.hid hbel
            clear hr hbel
            by_cases hlt : k < D.size
            · have hki : (k : Int) < (D.size : Int) := by omega
              have sh := lit_shorts2 wr ⟨#[83]⟩ ⟨#[84]⟩ 9 (by decide) (by decide)
              have q3 := below_alloc wr (.cells #[.string ⟨#[83]⟩, .string ⟨#[84]⟩] 9)
              obtain ⟨W3, hW3⟩ : ∃ X, X = wr.alloc (.cells #[.string ⟨#[83]⟩, .string ⟨#[84]⟩] 9) := ⟨_, rfl⟩
              rw [← hW3] at sh q3
              have HW3 := Lib.hid hW3
              have R4 := Lib.hid (R2.out.below q3 hgr)
              have SH := Lib.hid sh
              have B4 := Lib.hid (BB.out.trans (q3.mono BB.out.size))
              clear hW3 sh q3
              go_wp2_with (rw [← HW3.out]; go_at_call 41; refine (ofRd R4.out SH.out (by omega) (by omega) (by omega) (lit_apart hgr)).mono ?_)
              rintro e w4 ⟨s, rfl, hs, hr, g4⟩
              have B5 := Lib.hid (Below.pick B4.out B4.out.size hg g4)
              have R5 := Lib.hid hr
              have hadd : ¬ 9223372036854775807 < S.size + s.size := by omega
              have hsq : (S ++ s).size ≤ 2 * (k + 1) := by rw [ByteArray.size_append]; omega
              clear g4 hr
              go_wp2_with fail
              go_roundw
              case rel => exact ⟨k + 1, q + 1, S ++ s, by omega, by go_num, rfl, hsq, by omega, R5.out, B5.out⟩
              case measure => simp [intOf]; omega
            · have hki : ¬ (k : Int) < (D.size : Int) := by omega
              go_wp2_with (go_at_call 36; refine (pick R2.out (by omega) (by omega) (by omega)).mono ?_)
              rintro e w2 ⟨r, rfl, hr0, hr1, hr, g2⟩
              have hr1' := hr1 (by omega)
              have B3 := Lib.hid (Below.pick BB.out BB.out.size hg g2)
              have yy : 0 ≤ r / 15 ∧ r / 15 ≤ 1 := by omega
              clear hr g2 hr1
              go_wp2_with fail
              exact bodyPost_ret (v := .tuple #[.int .i64 (x - r / 15 * 2), .string D, .string S]) (by simp [results, Tryz.results23, go_sem]) rfl ⟨_, D, S, rfl, by omega, by omega, hD, by omega, B3.out⟩

end Go.Proofs.YthjodagbgmpbhaaGreatDoor
