/-
  Directions with U and D exchanged: the model's and the program's DirectionsTurn. For texts of at most 1048576 bytes.
-/
import Derived.Test.YtlcmkocbpnekhaaGreatDoorRplC
namespace Go.Proofs.YtlcmkocbpnekhaaGreatDoor
open Go.RowKit

set_option maxRecDepth 100000 in
set_option maxHeartbeats 2000000 in
theorem buildOnce_turn (b h c B : Nat) (w : World) (hB : B ≤ b) (hBw : B ≤ w.heap.size) (hb : Five w b (.int .u32 0) (.int .i32 1) (.int .u32 0) .nilIface (.slice (some ⟨h, 0, none⟩) 4 c)) (hp : Pairs w h [⟨#[85]⟩, ⟨#[68]⟩, ⟨#[68]⟩, ⟨#[85]⟩]) :
    Calls Tryz.prog 40 #[.pointer (some ⟨b, 0, none⟩)] w fun e w' => e = .returned (.tuple #[]) ∧
      ∃ g, g ≠ b ∧ Five w' b (.int .u32 0) (.int .i32 1) (.int .u32 0) (.iface 103 (.pointer (some ⟨g, 0, none⟩))) (.slice none 0 0) ∧ Tab w' g turnB ∧ Below B w w' := by
  have BT := Lib.hid (build_turn b h c w hb.cell4 hp)
  have HB := Lib.hid hb
  clear hb hp
  go_enter Tryz.func40, Tryz.ntmps40
  go_upto_region 0 with fail
  go_wp2_with (go_at_call 49; refine BT.out.mono ?_)
  rintro e w1 ⟨rfl, tab, b1⟩
  have F1 := HB.out.below b1
  have hlt := HB.out.lt
  have F2 := F1.set3 (.iface 103 (.pointer (some ⟨w.heap.size, 0, none⟩)))
  have F3 := Lib.hid (F2.set4 (.slice none 0 0))
  have c3 := F1.cell3
  have f3 := F1.frozen 3
  have c4 := F1.cell4
  have f4 := F1.frozen 4
  have T3 := Lib.hid ((tab.other (a := ⟨b, 3, none⟩) (by simp only; omega) (.iface 103 (.pointer (some ⟨w.heap.size, 0, none⟩)))).other (a := ⟨b, 4, none⟩) (by simp only; omega) (.slice none 0 0))
  have BB := Lib.hid (((b1.mono hBw).setCell (p := ⟨b, 3, none⟩) hB (.iface 103 (.pointer (some ⟨w.heap.size, 0, none⟩)))).setCell (p := ⟨b, 4, none⟩) hB (.slice none 0 0))
  clear F1 F2 tab b1
  go_wp2_with fail
  go_end0
  exact ⟨rfl, _, by omega, F3.out, T3.out, BB.out⟩

set_option maxRecDepth 100000 in
set_option maxHeartbeats 2000000 in
/-- A replacer that is asked for the first time. -/
theorem replace_turn (b h c B : Nat) (S : ByteArray) (hS : S.size ≤ 30) (hd : ∀ j, j < S.size → bt S j = 85 ∨ bt S j = 68) (w : World) (hB : B ≤ b) (hBw : B ≤ w.heap.size) (hbh : h ≠ b)
    (hb : Five w b (.int .u32 0) (.int .i32 0) (.int .u32 0) .nilIface (.slice (some ⟨h, 0, none⟩) 4 c)) (hp : Pairs w h [⟨#[85]⟩, ⟨#[68]⟩, ⟨#[68]⟩, ⟨#[85]⟩]) :
    Calls Tryz.prog 24 #[.pointer (some ⟨b, 0, none⟩), .string S] w fun e w' => e = .returned (.string (tnS S)) ∧ Below B w w' := by
  have hlt := hb.lt
  have s1 := hb.set1 (.int .i32 1)
  have p1 := hp.setCell (a := ⟨b, 1, none⟩) hbh (.int .i32 1)
  have bs1 : Below B w (w.setCell ⟨b, 1, none⟩ (.int .i32 1)) := (Below.refl B w).setCell (p := ⟨b, 1, none⟩) hB _
  have BO := buildOnce_turn b h c B (w.setCell ⟨b, 1, none⟩ (.int .i32 1)) hB (Nat.le_trans hBw bs1.size) s1 p1
  have DO := Lib.hid (do_once b w hb.cell0 hb.cell1 (hb.frozen 1) _ BO (fun w' r => by
    obtain ⟨g, _, f, _, _⟩ := r
    exact ⟨f.cell0, f.cell1, f.frozen 0, f.frozen 1⟩))
  have BS1 := Lib.hid bs1
  have hmf : ∀ (fn : Fn) (first cap : Array Value) (w : World), (Instr.makeFunc fn first cap).run Tryz.prog w = .ok (.func fn first cap) w := fun _ _ _ _ => rfl
  clear BO s1 p1 bs1
  go_enter Tryz.func24, Tryz.ntmps24
  go_wp2_with (go_at_call 39; refine DO.out.mono ?_)
  rintro e w2 ⟨rfl, w1, ⟨g, hgb, five, tab, b1⟩, rfl⟩
  have F2 := ((five.drew).set0 (.int .u32 1)).set1 (.int .i32 0)
  have T2 := Lib.hid (((show Tab w1.drew g turnB from tab).other (a := ⟨b, 0, none⟩) hgb (.int .u32 1)).other (a := ⟨b, 1, none⟩) hgb (.int .i32 0))
  have B2 := Lib.hid ((((BS1.out.trans b1).drew).setCell (p := ⟨b, 0, none⟩) hB (.int .u32 1)).setCell (p := ⟨b, 1, none⟩) hB (.int .i32 0))
  obtain ⟨W, hW⟩ : ∃ X, X = (w1.drew.setCell ⟨b, 0, none⟩ (.int .u32 1)).setCell ⟨b, 1, none⟩ (.int .i32 0) := ⟨_, rfl⟩
  rw [← hW] at F2 T2 B2 ⊢
  clear hW five tab b1
  have c3 := F2.cell3
  have TR := Lib.hid (table_replace g S hS hd W T2.out)
  have hm : ∀ (n : Nat) (w : World), (method (n + 1) 103 (.pointer (some ⟨g, 0, none⟩)) "Replace").run Tryz.prog w = .ok (134, .pointer (some ⟨g, 0, none⟩)) w := fun _ _ => by kernel_rfl
  clear F2
  go_wp2_with (go_at_call 134; refine TR.out.mono ?_)
  rintro e w3 ⟨rfl, b3⟩
  go_wp2_with fail
  go_ret
  exact ⟨rfl, B2.out.trans (b3.mono (Nat.le_trans hBw B2.out.size))⟩

/-- What DirectionsTurn hands back. -/
def dtS (S : ByteArray) : ByteArray := if dirB S then tnS S else ⟨#[]⟩
theorem dt_no {S : ByteArray} (h : dirB S = false) : dtS S = ⟨#[]⟩ := by unfold dtS; rw [h]; rfl
theorem dt_yes {S : ByteArray} (h : dirB S = true) : dtS S = tnS S := by unfold dtS; rw [h]; rfl
theorem pairs_new (w : World) (s0 s1 s2 s3 : ByteArray) (t : TypeId) : Pairs (w.alloc (.cells #[.string s0, .string s1, .string s2, .string s3] t)) w.heap.size [s0, s1, s2, s3] := by
  have hn : (w.alloc (.cells #[.string s0, .string s1, .string s2, .string s3] t)).heap[w.heap.size]? = some (.cells #[.string s0, .string s1, .string s2, .string s3] t (0, 0)) := Go.Deep.blk_alloc_new _ _
  intro i s e
  have hi : i < 4 := (List.getElem?_eq_some_iff.1 e).1
  match i, hi with
  | 0, _ | 1, _ | 2, _ | 3, _ => cases e; simp only [World.cell?, hn]; rfl

set_option maxRecDepth 100000 in
set_option maxHeartbeats 2000000 in
theorem implTurnD (S : ByteArray) (hS : S.size ≤ 1048576) (w : World) :
    Calls Tryz.prog 9 #[.string S] w fun e w' => e = .returned (.tuple #[.string (dtS S), .bool (dirB S)]) ∧ Below w.heap.size w w' := by
  have V := Lib.hid (implDirections S (by omega) w)
  obtain ⟨d, hd⟩ : ∃ d, d = dirB S := ⟨_, rfl⟩
  rw [← hd] at V
  cases d
  · have E := Lib.hid (And.intro (dt_no hd.symm) hd.symm)
    clear hd
    go_enter Tryz.func9, Tryz.ntmps9
    go_wp2_with (go_at_call 22; refine V.out.mono ?_)
    rintro e w1 ⟨rfl, b1⟩
    go_wp2_with fail
    go_ret2
    exact ⟨by rw [E.out.1, E.out.2]; rfl, b1⟩
  · have E := Lib.hid (And.intro (dt_yes hd.symm) hd.symm)
    have D := Lib.hid (dirB_of hd.symm)
    clear hd
    go_enter Tryz.func9, Tryz.ntmps9
    go_wp2_with (go_at_call 22; refine V.out.mono ?_)
    rintro e w1 ⟨rfl, b1⟩
    have P1 := pairs_new w1 ⟨#[85]⟩ ⟨#[68]⟩ ⟨#[68]⟩ ⟨#[85]⟩ 9
    have ba := below_alloc w1 (.cells #[.string ⟨#[85]⟩, .string ⟨#[68]⟩, .string ⟨#[68]⟩, .string ⟨#[85]⟩] 9)
    obtain ⟨W, hW⟩ : ∃ W, W = w1.alloc (.cells #[.string ⟨#[85]⟩, .string ⟨#[68]⟩, .string ⟨#[68]⟩, .string ⟨#[85]⟩] 9) := ⟨_, rfl⟩
    rw [← hW] at P1 ba
    have NR := Lib.hid (newReplacer w1.heap.size ⟨#[85]⟩ ⟨#[68]⟩ ⟨#[68]⟩ ⟨#[85]⟩ W P1)
    have HW := Lib.hid hW
    have BA := Lib.hid (chain b1 ba)
    clear hW P1 ba
    go_wp2_with (rw [← HW.out]; go_at_call 23; refine NR.out.mono ?_)
    rintro e w2 ⟨b, h, c, rfl, hb, hh, hbh, five, pairs, hlt, b2⟩
    have RT := Lib.hid (replace_turn b h c W.heap.size S D.out.1 D.out.2 w2 hb b2.size hbh five pairs)
    clear five pairs
    go_wp2_with (go_at_call 24; refine RT.out.mono ?_)
    rintro e w3 ⟨rfl, b3⟩
    go_wp2_with fail
    go_ret2
    exact ⟨by rw [E.out.1, E.out.2]; rfl, chain BA.out (b2.trans b3)⟩

/-- The first k letters, exchanged. -/
def tnTo (S : ByteArray) (k : Nat) : ByteArray := ⟨((S.data.toList.take k).map tU).toArray⟩
theorem tnTo_all (S : ByteArray) : tnTo S S.size = tnS S := by
  unfold tnTo tnS
  rw [List.take_of_length_le (by rw [← size_list]; exact Nat.le_refl _)]
theorem tnTo_size {S : ByteArray} {k : Nat} (h : k ≤ S.size) : (tnTo S k).size = k := by
  show ((S.data.toList.take k).map tU).toArray.size = k
  rw [List.size_toArray, List.length_map, List.length_take, ← size_list]
  omega
theorem tnTo_succ {S : ByteArray} {k : Nat} (h : k < S.size) {x : UInt8} (hx : bt S k = (x.toNat : Int)) : tnTo S k ++ ⟨#[tU x]⟩ = tnTo S (k + 1) := by
  obtain ⟨b, hb, e⟩ := bt_at h
  have hbx : b = x := UInt8.toNat_inj.1 (by omega)
  subst hbx
  unfold tnTo
  rw [List.take_add_one, hb]
  apply ByteArray.ext
  simp

end Go.Proofs.YtlcmkocbpnekhaaGreatDoor
