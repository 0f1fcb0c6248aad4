/-
  Trains and their events: the model's and the program's TokenTrains. For texts of at most 1048576 bytes.
-/
import Derived.Test.YthjodagbgmpbhaaGreatDoorBsB
import Derived.Test.YthjodagbgmpbhaaGreatDoorRplD
namespace Go.Proofs.YthjodagbgmpbhaaGreatDoor
open Go.RowKit

set_option maxRecDepth 100000 in
set_option maxHeartbeats 2000000 in
theorem buildOnce_trains (b h c B : Nat) (w : World) (hB : B ≤ b) (hBw : B ≤ w.heap.size) (hb : Five w b (.int .u32 0) (.int .i32 1) (.int .u32 0) .nilIface (.slice (some ⟨h, 0, none⟩) 4 c)) (hp : Pairs w h [⟨#[85]⟩, ⟨#[97, 112]⟩, ⟨#[68]⟩, ⟨#[98, 112]⟩]) :
    Calls Tryz.prog 48 #[.pointer (some ⟨b, 0, none⟩)] w fun e w' => e = .returned (.tuple #[]) ∧
      ∃ g q K p L g2 k2, (g ≠ b ∧ q ≠ b ∧ p ≠ b ∧ g2 ≠ b) ∧ Five w' b (.int .u32 0) (.int .i32 1) (.int .u32 0) (.iface 107 (.pointer (some ⟨g, 0, none⟩))) (.slice none 0 0) ∧ BS w' g (fU q K p L) (.slice (some ⟨g2, 0, none⟩) 2 k2) ∧ Pairs w' g2 [⟨#[68]⟩, ⟨#[85]⟩] ∧ Buf w' q 2 (bt ⟨#[98, 112]⟩) ∧ Buf w' p 2 (bt ⟨#[97, 112]⟩) ∧ Below B w w' := by
  have BT := Lib.hid (build_trains b h c w hb.cell4 hp)
  have HB := Lib.hid hb
  clear hb hp
  go_enter Tryz.func48, Tryz.ntmps48
  go_upto_region 0 with fail
  go_wp2_with (go_at_call 55; refine BT.out.mono ?_)
  rintro e w1 ⟨rfl, q, K, p, L, g2, k2, bs, own, bq, bp, b1⟩
  have F1 := HB.out.below b1
  have hlt := HB.out.lt
  have F2 := F1.set3 (.iface 107 (.pointer (some ⟨w.heap.size + 1, 0, none⟩)))
  have F3 := Lib.hid (F2.set4 (.slice none 0 0))
  have c3 := F1.cell3
  have f3 := F1.frozen 3
  have c4 := F1.cell4
  have f4 := F1.frozen 4
  have nq : q ≠ b := by
    rintro rfl
    obtain ⟨cs, m, hcs, _⟩ := bq
    unfold Five at F1
    rw [hcs] at F1
    simp at F1
  have np : p ≠ b := by
    rintro rfl
    obtain ⟨cs, m, hcs, _⟩ := bp
    unfold Five at F1
    rw [hcs] at F1
    simp at F1
  obtain ⟨g2', k2', cur, e', hg2, hc2⟩ := own_form own
  simp only [Value.slice.injEq, Option.some.injEq, Addr.mk.injEq] at e'
  obtain ⟨⟨e', -⟩, -, -⟩ := e'
  subst e'
  have ng : g2 ≠ b := by omega
  have pr : Pairs w1 g2 [⟨#[68]⟩, ⟨#[85]⟩] := by
    intro i s e
    have hat := fun i hi => World.ownsRow.cellAt own i hi
    have hi : i < 2 := (List.getElem?_eq_some_iff.1 e).1
    match i, hi with
    | 0, _ => cases e; exact hat 0 (by decide)
    | 1, _ => cases e; exact hat 1 (by decide)
  have T3 := Lib.hid ((bs.other (a := ⟨b, 3, none⟩) (by simp only; omega) (.iface 107 (.pointer (some ⟨w.heap.size + 1, 0, none⟩)))).other (a := ⟨b, 4, none⟩) (by simp only; omega) (.slice none 0 0))
  have P3 := Lib.hid ((pr.setCell (a := ⟨b, 3, none⟩) ng (.iface 107 (.pointer (some ⟨w.heap.size + 1, 0, none⟩)))).setCell (a := ⟨b, 4, none⟩) ng (.slice none 0 0))
  have Q3 := Lib.hid ((bq.of' (w' := w1.setCell ⟨b, 3, none⟩ (.iface 107 (.pointer (some ⟨w.heap.size + 1, 0, none⟩)))) (Go.Deep.blk_setCell_other _ _ _ _ nq)).of' (w' := (w1.setCell ⟨b, 3, none⟩ (.iface 107 (.pointer (some ⟨w.heap.size + 1, 0, none⟩)))).setCell ⟨b, 4, none⟩ (.slice none 0 0)) (Go.Deep.blk_setCell_other _ _ _ _ nq))
  have R3 := Lib.hid ((bp.of' (w' := w1.setCell ⟨b, 3, none⟩ (.iface 107 (.pointer (some ⟨w.heap.size + 1, 0, none⟩)))) (Go.Deep.blk_setCell_other _ _ _ _ np)).of' (w' := (w1.setCell ⟨b, 3, none⟩ (.iface 107 (.pointer (some ⟨w.heap.size + 1, 0, none⟩)))).setCell ⟨b, 4, none⟩ (.slice none 0 0)) (Go.Deep.blk_setCell_other _ _ _ _ np))
  have BB := Lib.hid (((b1.mono hBw).setCell (p := ⟨b, 3, none⟩) hB (.iface 107 (.pointer (some ⟨w.heap.size + 1, 0, none⟩)))).setCell (p := ⟨b, 4, none⟩) hB (.slice none 0 0))
  have nb : w.heap.size + 1 ≠ b := by omega
  clear F1 F2 bs own bq bp b1 pr hc2
  go_wp2_with fail
  go_end0
  exact ⟨rfl, _, q, K, p, L, g2, k2, ⟨nb, nq, np, ng⟩, F3.out, T3.out, P3.out, Q3.out, R3.out, BB.out⟩

set_option maxRecDepth 100000 in
set_option maxHeartbeats 2000000 in
/-- A replacer that is asked for the first time. -/
theorem replace_trains (b h c B : Nat) (S : ByteArray) (hS : S.size ≤ 30) (hd : ∀ j, j < S.size → bt S j = 85 ∨ bt S j = 68) (w : World) (hB : B ≤ b) (hBw : B ≤ w.heap.size) (hbh : h ≠ b)
    (hb : Five w b (.int .u32 0) (.int .i32 0) (.int .u32 0) .nilIface (.slice (some ⟨h, 0, none⟩) 4 c)) (hp : Pairs w h [⟨#[85]⟩, ⟨#[97, 112]⟩, ⟨#[68]⟩, ⟨#[98, 112]⟩]) :
    Calls Tryz.prog 30 #[.pointer (some ⟨b, 0, none⟩), .string S] w fun e w' => e = .returned (.string (ttTo S S.size)) ∧ Below B w w' := by
  have hlt := hb.lt
  have s1 := hb.set1 (.int .i32 1)
  have p1 := hp.setCell (a := ⟨b, 1, none⟩) hbh (.int .i32 1)
  have bs1 : Below B w (w.setCell ⟨b, 1, none⟩ (.int .i32 1)) := (Below.refl B w).setCell (p := ⟨b, 1, none⟩) hB _
  have BO := buildOnce_trains b h c B (w.setCell ⟨b, 1, none⟩ (.int .i32 1)) hB (Nat.le_trans hBw bs1.size) s1 p1
  have DO := Lib.hid (do_once b w hb.cell0 hb.cell1 (hb.frozen 1) _ BO (fun w' r => by
    obtain ⟨g, q, K, p, L, g2, k2, _, f, _⟩ := r
    exact ⟨f.cell0, f.cell1, f.frozen 0, f.frozen 1⟩))
  have BS1 := Lib.hid bs1
  have hmf : ∀ (fn : Fn) (first cap : Array Value) (w : World), (Instr.makeFunc fn first cap).run Tryz.prog w = .ok (.func fn first cap) w := fun _ _ _ _ => rfl
  clear BO s1 p1 bs1
  go_enter Tryz.func30, Tryz.ntmps30
  go_wp2_with (go_at_call 47; refine DO.out.mono ?_)
  rintro e w2 ⟨rfl, w1, ⟨g, q, K, p, L, g2, k2, ⟨ng, nq, np, ng2⟩, five, bs, pr, bq, bp, b1⟩, rfl⟩
  have F2 := ((five.drew).set0 (.int .u32 1)).set1 (.int .i32 0)
  have T2 := ((show BS w1.drew g (fU q K p L) (.slice (some ⟨g2, 0, none⟩) 2 k2) from bs).other (a := ⟨b, 0, none⟩) ng (.int .u32 1)).other (a := ⟨b, 1, none⟩) ng (.int .i32 0)
  have P2 := ((show Pairs w1.drew g2 [⟨#[68]⟩, ⟨#[85]⟩] from pr).setCell (a := ⟨b, 0, none⟩) ng2 (.int .u32 1)).setCell (a := ⟨b, 1, none⟩) ng2 (.int .i32 0)
  have Q2 := ((show Buf w1.drew q 2 (bt ⟨#[98, 112]⟩) from bq).of' (w' := w1.drew.setCell ⟨b, 0, none⟩ (.int .u32 1)) (Go.Deep.blk_setCell_other _ _ _ _ nq)).of' (w' := (w1.drew.setCell ⟨b, 0, none⟩ (.int .u32 1)).setCell ⟨b, 1, none⟩ (.int .i32 0)) (Go.Deep.blk_setCell_other _ _ _ _ nq)
  have R2 := ((show Buf w1.drew p 2 (bt ⟨#[97, 112]⟩) from bp).of' (w' := w1.drew.setCell ⟨b, 0, none⟩ (.int .u32 1)) (Go.Deep.blk_setCell_other _ _ _ _ np)).of' (w' := (w1.drew.setCell ⟨b, 0, none⟩ (.int .u32 1)).setCell ⟨b, 1, none⟩ (.int .i32 0)) (Go.Deep.blk_setCell_other _ _ _ _ np)
  have B2 := Lib.hid ((((BS1.out.trans b1).drew).setCell (p := ⟨b, 0, none⟩) hB (.int .u32 1)).setCell (p := ⟨b, 1, none⟩) hB (.int .i32 0))
  obtain ⟨W, hW⟩ : ∃ X, X = (w1.drew.setCell ⟨b, 0, none⟩ (.int .u32 1)).setCell ⟨b, 1, none⟩ (.int .i32 0) := ⟨_, rfl⟩
  rw [← hW] at F2 T2 P2 Q2 R2 B2 ⊢
  clear hW five bs pr bq bp b1
  have c3 := F2.cell3
  have TR := Lib.hid (bs_replace g q K p L g2 k2 S hS hd W T2 P2 Q2 R2)
  have hm : ∀ (n : Nat) (w : World), (method (n + 1) 107 (.pointer (some ⟨g, 0, none⟩)) "Replace").run Tryz.prog w = .ok (140, .pointer (some ⟨g, 0, none⟩)) w := fun _ _ => by kernel_rfl
  clear F2 T2 P2 Q2 R2
  go_wp2_with (go_at_call 140; refine TR.out.mono ?_)
  rintro e w3 ⟨rfl, b3⟩
  go_wp2_with fail
  go_ret
  exact ⟨rfl, B2.out.trans (b3.mono (Nat.le_trans hBw B2.out.size))⟩

/-- What TokenTrains hands back. -/
def trOk (S : ByteArray) : Bool := dirB S && decide (2 * S.size ≤ 30)
def trS (S : ByteArray) : ByteArray := if trOk S then ttTo S S.size else ⟨#[]⟩
theorem tr_no {S : ByteArray} (h : trOk S = false) : trS S = ⟨#[]⟩ := by unfold trS; rw [h]; rfl
theorem tr_yes {S : ByteArray} (h : trOk S = true) : trS S = ttTo S S.size := by unfold trS; rw [h]; rfl
theorem trOk_bad {S : ByteArray} (h : dirB S = false) : trOk S = false := by unfold trOk; rw [h]; rfl
theorem trOk_is {S : ByteArray} (h : dirB S = true) : trOk S = decide (2 * S.size ≤ 30) := by unfold trOk; rw [h, Bool.true_and]

set_option maxRecDepth 100000 in
set_option maxHeartbeats 2000000 in
theorem implTrains (S : ByteArray) (hS : S.size ≤ 1048576) (w : World) :
    Calls Tryz.prog 9 #[.string S] w fun e w' => e = .returned (.tuple #[.string (trS S), .bool (trOk S)]) ∧ Below w.heap.size w w' := by
  have V := Lib.hid (implDirections S (by omega) w)
  obtain ⟨d, hd⟩ : ∃ d, d = dirB S := ⟨_, rfl⟩
  rw [← hd] at V
  cases d
  · have E := Lib.hid (And.intro (tr_no (trOk_bad hd.symm)) (trOk_bad hd.symm))
    clear hd
    go_enter Tryz.func9, Tryz.ntmps9
    go_wp2_with (go_at_call 28; refine V.out.mono ?_)
    rintro e w1 ⟨rfl, b1⟩
    go_wp2_with fail
    go_ret2
    exact ⟨by rw [E.out.1, E.out.2]; rfl, b1⟩
  · have TO := Lib.hid (trOk_is hd.symm)
    have D := Lib.hid (dirB_of hd.symm)
    clear hd
    go_enter Tryz.func9, Tryz.ntmps9
    go_wp2_with (go_at_call 28; refine V.out.mono ?_)
    rintro e w1 ⟨rfl, b1⟩
    have P1 := pairs_new w1 ⟨#[85]⟩ ⟨#[97, 112]⟩ ⟨#[68]⟩ ⟨#[98, 112]⟩ 9
    have ba := below_alloc w1 (.cells #[.string ⟨#[85]⟩, .string ⟨#[97, 112]⟩, .string ⟨#[68]⟩, .string ⟨#[98, 112]⟩] 9)
    obtain ⟨W, hW⟩ : ∃ W, W = w1.alloc (.cells #[.string ⟨#[85]⟩, .string ⟨#[97, 112]⟩, .string ⟨#[68]⟩, .string ⟨#[98, 112]⟩] 9) := ⟨_, rfl⟩
    rw [← hW] at P1 ba
    have NR := Lib.hid (newReplacer w1.heap.size ⟨#[85]⟩ ⟨#[97, 112]⟩ ⟨#[68]⟩ ⟨#[98, 112]⟩ W P1)
    have HW := Lib.hid hW
    have BA := Lib.hid (chain b1 ba)
    clear hW P1 ba
    go_wp2_with (rw [← HW.out]; go_at_call 29; refine NR.out.mono ?_)
    rintro e w2 ⟨b, h, c, rfl, hb, hh, hbh, five, pairs, hlt, b2⟩
    have RT := Lib.hid (replace_trains b h c W.heap.size S D.out.1 D.out.2 w2 hb b2.size hbh five pairs)
    clear five pairs
    go_wp2_with (go_at_call 30; refine RT.out.mono ?_)
    rintro e w3 ⟨rfl, b3⟩
    have BF := Lib.hid (chain BA.out (b2.trans b3))
    have hts := ttTo_size (S := S) (k := S.size) (Nat.le_refl _)
    obtain ⟨A, hA⟩ : ∃ A, A = ttTo S S.size := ⟨_, rfl⟩
    rw [← hA] at hts ⊢
    clear b2 b3
    by_cases h15 : 2 * S.size ≤ 30
    · have E := Lib.hid (show trS S = A ∧ trOk S = true by
        have o : trOk S = true := by rw [TO.out]; exact decide_eq_true h15
        exact ⟨by rw [tr_yes o, hA], o⟩)
      have hA30 : ¬ (30 : Int) < (A.size : Int) := by omega
      clear hA hts
      go_wp2_with fail
      go_ret2
      exact ⟨by rw [E.out.1, E.out.2]; rfl, BF.out⟩
    · have E := Lib.hid (show trS S = ⟨#[]⟩ ∧ trOk S = false by
        have o : trOk S = false := by rw [TO.out]; exact decide_eq_false h15
        exact ⟨tr_no o, o⟩)
      have hA30 : (30 : Int) < (A.size : Int) := by omega
      clear hA hts
      go_wp2_with fail
      go_ret2
      exact ⟨by rw [E.out.1, E.out.2]; rfl, BF.out⟩

set_option maxRecDepth 100000 in
set_option maxHeartbeats 2000000 in
theorem specTrains (S : ByteArray) (hS : S.size ≤ 1048576) (w : World) :
    Calls Tryz.prog 10 #[.string S] w fun e w' => e = .returned (.tuple #[.string (trS S), .bool (trOk S)]) ∧ Below w.heap.size w w' := by
  have V := Lib.hid (specDirections S (by omega) w)
  obtain ⟨d, hd⟩ : ∃ d, d = dirB S := ⟨_, rfl⟩
  rw [← hd] at V
  cases d
  · have E := Lib.hid (And.intro (tr_no (trOk_bad hd.symm)) (trOk_bad hd.symm))
    clear hd
    go_enter Tryz.func10, Tryz.ntmps10
    go_wp2_with (go_at_call 31; refine V.out.mono ?_)
    rintro e w1 ⟨rfl, b1⟩
    go_wp2_with fail
    go_ret2
    exact ⟨by rw [E.out.1, E.out.2]; rfl, b1⟩
  · have TO := trOk_is hd.symm
    have D := Lib.hid (dirB_of hd.symm).2
    have h30 := (dirB_of hd.symm).1
    clear hd
    by_cases h15 : 2 * S.size ≤ 30
    · have E := Lib.hid (show trS S = ttTo S S.size ∧ trOk S = true by
        have o : trOk S = true := by rw [TO]; exact decide_eq_true h15
        exact ⟨tr_yes o, o⟩)
      have h15' : ¬ (30 : Int) < 2 * (S.size : Int) := by omega
      clear TO
      go_enter Tryz.func10, Tryz.ntmps10
      go_wp2_with (go_at_call 31; refine V.out.mono ?_)
      rintro e w1 rfl b1
      have B1 := Lib.hid b1
      clear b1
      go_wp2_with fail
      go_loopw [4, 5] (fun s i wr => ∃ k : Nat, k ≤ S.size ∧ i = .int .i64 k ∧ s = .string (ttTo S k) ∧ Below w.heap.size w wr) (fun _ i _ => S.size - (intOf i).toNat)
      case atStart => exact ⟨0, by omega, rfl, rfl, B1.out⟩
      case round =>
        obtain ⟨k, hk, rfl, rfl, hbel⟩ := hrel
        by_cases hlt : k < S.size
        · have hki : (k : Int) < (S.size : Int) := by omega
          have hix := index_is hlt
          have hsz := ttTo_size hk
          obtain ⟨A, hA⟩ : ∃ A, A = ttTo S k := ⟨_, rfl⟩
          rw [← hA] at hsz ⊢
          have TS := Lib.hid (fun (x : UInt8) (hx : bt S k = (x.toNat : Int)) => ttTo_succ hlt hx)
          rw [← hA] at TS
          have hc1 : ¬ 9223372036854775807 < A.size + (⟨#[97, 112]⟩ : ByteArray).size := by rw [show (⟨#[97, 112]⟩ : ByteArray).size = 2 from rfl]; omega
          have hc2 : ¬ 9223372036854775807 < A.size + (⟨#[98, 112]⟩ : ByteArray).size := by rw [show (⟨#[98, 112]⟩ : ByteArray).size = 2 from rfl]; omega
          have h2 := D.out k hlt
          obtain ⟨x, hx⟩ : ∃ x, x = bt S k := ⟨_, rfl⟩
          rw [← hx] at hix h2 TS
          clear hx hA hsz
          rcases h2 with rfl | rfl
          · have TE := Lib.hid (show ttTo S (k + 1) = A ++ ⟨#[97, 112]⟩ from TS.out 85 rfl)
            clear TS
            go_wp2_with fail
            go_roundw
            case rel => exact ⟨k + 1, by omega, by go_num, by rw [TE.out], hbel⟩
            case measure => simp [intOf]; omega
          · have TE := Lib.hid (show ttTo S (k + 1) = A ++ ⟨#[98, 112]⟩ from TS.out 68 rfl)
            have t1 : ((68 : Int) == 85) = false := rfl
            clear TS
            go_wp2_with fail
            go_roundw
            case rel => exact ⟨k + 1, by omega, by go_num, by rw [TE.out], hbel⟩
            case measure => simp [intOf]; omega
        · obtain rfl : k = S.size := by omega
          go_wp2_with fail
          go_ret2
          exact ⟨by rw [E.out.1, E.out.2]; rfl, hbel⟩
    · have E := Lib.hid (show trS S = ⟨#[]⟩ ∧ trOk S = false by
        have o : trOk S = false := by rw [TO]; exact decide_eq_false h15
        exact ⟨tr_no o, o⟩)
      have h15' : (30 : Int) < 2 * (S.size : Int) := by omega
      clear TO
      go_enter Tryz.func10, Tryz.ntmps10
      go_wp2_with (go_at_call 31; refine V.out.mono ?_)
      rintro e w1 ⟨rfl, b1⟩
      go_wp2_with fail
      go_ret2
      exact ⟨by rw [E.out.1, E.out.2]; rfl, b1⟩

end Go.Proofs.YthjodagbgmpbhaaGreatDoor
