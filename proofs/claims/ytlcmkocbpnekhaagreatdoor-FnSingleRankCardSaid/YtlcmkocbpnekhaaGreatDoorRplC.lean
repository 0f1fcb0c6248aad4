/-
  Texts of U and D with both exchanged, by the table. For texts of at most 30 bytes.
-/
import Derived.Test.YtlcmkocbpnekhaaGreatDoorRplB
import Derived.Test.YtlcmkocbpnekhaaGreatDoorDirE
import Derived.Lib.ConvBytes
import Derived.Lib.SlBytesRow
namespace Go.Proofs.YtlcmkocbpnekhaaGreatDoor
open Go.RowKit

/-- A byte, U and D exchanged; a text. -/
def tU (b : UInt8) : UInt8 := if b = 85 then 68 else if b = 68 then 85 else b
def tnB (c : Int) : Int := if c = 85 then 68 else if c = 68 then 85 else c
def tnS (S : ByteArray) : ByteArray := ⟨(S.data.toList.map tU).toArray⟩
theorem tnS_size (S : ByteArray) : (tnS S).size = S.size := by
  show (S.data.toList.map tU).toArray.size = _
  rw [List.size_toArray, List.length_map, ← size_list]
theorem tU_nat (b : UInt8) : ((tU b).toNat : Int) = tnB (b.toNat : Int) := by
  unfold tU tnB
  by_cases h1 : b = 85
  · subst h1; rfl
  · have e1 : ¬ ((b.toNat : Int) = 85) := fun q => h1 (UInt8.toNat_inj.1 (by show b.toNat = 85; omega))
    by_cases h2 : b = 68
    · subst h2; rfl
    · have e2 : ¬ ((b.toNat : Int) = 68) := fun q => h2 (UInt8.toNat_inj.1 (by show b.toNat = 68; omega))
      rw [if_neg h1, if_neg h2, if_neg e1, if_neg e2]
theorem bt_tnS {S : ByteArray} {k : Nat} (h : k < S.size) : bt (tnS S) k = tnB (bt S k) := by
  obtain ⟨b, hb, e⟩ := bt_at h
  unfold tnS
  rw [bt_list, e, ← tU_nat, List.getElem?_map, hb]
  rfl

/-- Bytes in a block of their own, as a conversion makes them. -/
def Buf (w : World) (q n : Nat) (f : Nat → Int) : Prop := ∃ (C : Array Value) (m : Nat), w.heap[q]? = some (.cells C 5 (m, m + 1)) ∧ n ≤ m ∧ n ≤ C.size ∧ ∀ i, i < n → C[i]? = some (.int .u8 (f i))
section
variable {w w' : World} {q n : Nat} {f : Nat → Int}
theorem Buf.lt (h : Buf w q n f) : q < w.heap.size := by obtain ⟨C, m, h, _⟩ := h; exact (Array.getElem?_eq_some_iff.1 h).1
theorem Buf.cell (h : Buf w q n f) {i : Nat} (hi : i < n) : w.cell? ⟨q, i, none⟩ = some (.int .u8 (f i)) := by
  obtain ⟨C, m, h, _, _, hc⟩ := h
  simp only [World.cell?, h]
  exact hc i hi
theorem Buf.frozen (h : Buf w q n f) {i : Nat} (hi : i < n) : w.frozen? ⟨q, i, none⟩ = false := by
  obtain ⟨C, m, h, hm, _, hc⟩ := h
  simp [World.frozen?, h]
  omega
theorem Buf.set (h : Buf w q n f) {k : Nat} (hk : k < n) (x : Int) {f' : Nat → Int} (e : ∀ i, i < n → f' i = if i = k then x else f i) : Buf (w.setCell ⟨q, k, none⟩ (.int .u8 x)) q n f' := by
  obtain ⟨C, m, h, hm, hs, hc⟩ := h
  refine ⟨C.setIfInBounds k (.int .u8 x), m, ?_, hm, by simp [hs], fun i hi => ?_⟩
  · simp [World.setCell, Array.getElem?_modify, h]
  · rw [e i hi, Array.getElem?_setIfInBounds]
    by_cases z : k = i
    · subst z; rw [if_pos rfl, if_pos (by omega), if_pos rfl]
    · rw [if_neg z, if_neg (fun y => z y.symm)]; exact hc i hi
theorem Buf.congr (h : Buf w q n f) {f' : Nat → Int} (e : ∀ i, i < n → f' i = f i) : Buf w q n f' := by
  obtain ⟨C, m, h, hm, hs, hc⟩ := h
  exact ⟨C, m, h, hm, hs, fun i hi => by rw [e i hi]; exact hc i hi⟩
theorem Buf.bytes {s : ByteArray} (h : Buf w q s.size f) (e : ∀ i, i < s.size → f i = bt s i) : Lib.Bytes w q 0 s := by
  intro i hi
  rw [Nat.zero_add, h.cell hi, e i hi, bt_get hi]
end
theorem buf_new (w : World) (S : ByteArray) : Buf (Lib.bytesWorld w 5 S) w.heap.size S.size (bt S) := by
  have hn := Lib.bytesWorld_at_new w 5 S
  have hsz : S.size ≤ (Lib.bytesCells w 5 S).size := by unfold Lib.bytesCells; simp only [Array.size_append, Array.size_map]; exact Nat.le_add_right _ _
  refine ⟨_, _, hn, hsz, hsz, fun i hi => ?_⟩
  obtain ⟨b, hb, e⟩ := bt_at hi
  have hb' : S.data[i]? = some b := by rw [← Array.getElem?_toList]; exact hb
  unfold Lib.bytesCells
  rw [Array.getElem?_append_left (by rw [Array.size_map]; exact hi), Array.getElem?_map, hb', e]
  rfl
theorem bytes_below (w : World) (S : ByteArray) : Below w.heap.size w (Lib.bytesWorld w 5 S) := by
  unfold Lib.bytesWorld
  exact ⟨rfl, rfl, rfl, by have := Lib.bytesWorld_size w 5 S; unfold Lib.bytesWorld at this; omega, fun k hk => by have := Lib.bytesWorld_at_old w 5 S k hk; unfold Lib.bytesWorld at this; exact this⟩
theorem eql_nil (a : Option Addr) (l c : Nat) (w : World) : (binOp .eql 22 (.slice a l c) (.slice none 0 0)).run Tryz.prog w = .ok (.bool a.isNone) w := by
  simp [binOp, run_equal_slice_nil w 22 5 a l c Tryz.underlying22]
theorem mix_set {S : ByteArray} {k : Nat} {x : Int} (h : x = tnB (bt S k)) (i : Nat) : (if i < k + 1 then tnB (bt S i) else bt S i) = if i = k then x else if i < k then tnB (bt S i) else bt S i := by
  by_cases e : i = k
  · subst e; rw [if_pos (by omega), if_pos rfl, h]
  · rw [if_neg e]
    by_cases e2 : i < k
    · rw [if_pos (by omega), if_pos e2]
    · rw [if_neg (by omega), if_neg e2]
set_option maxRecDepth 100000 in
set_option maxHeartbeats 4000000 in
theorem table_replace (g : Nat) (S : ByteArray) (hS : S.size ≤ 30) (hd : ∀ j, j < S.size → bt S j = 85 ∨ bt S j = 68) (w : World) (ht : Tab w g turnB) :
    Calls Tryz.prog 134 #[.pointer (some ⟨g, 0, none⟩), .string S] w fun e w' => e = .returned (.string (tnS S)) ∧ Below w.heap.size w w' := by
  have hg := ht.lt
  have EQ := eql_nil
  have HD := Lib.hid hd
  have HT := Lib.hid ht
  clear hd ht
  go_enter Tryz.func134, Tryz.ntmps134
  go_wp2_with fail
  go_loopw [5, 6] (fun v i wr => ∃ k : Nat, k ≤ S.size ∧ i = .int .i64 k ∧ ((k = 0 ∧ v = .slice none 0 0) ∨ (0 < k ∧ ∃ q c, v = .slice (some ⟨q, 0, none⟩) S.size c ∧ S.size ≤ c ∧ w.heap.size ≤ q ∧ Buf wr q S.size (fun i => if i < k then tnB (bt S i) else bt S i))) ∧ Tab wr g turnB ∧ Below w.heap.size w wr) (fun _ i _ => S.size - (intOf i).toNat)
  case atStart => exact ⟨0, by omega, rfl, .inl ⟨rfl, rfl⟩, HT.out, below_self _⟩
  case round =>
    obtain ⟨k, hk, rfl, hv, ht, hbel⟩ := hrel
    have T1 := Lib.hid ht
    clear ht
    by_cases hlt : k < S.size
    · have hki : (k : Int) < (S.size : Int) := by omega
      have hix := index_is hlt
      have h2 := HD.out k hlt
      rcases hv with ⟨rfl, rfl⟩ | ⟨h0, q, c, rfl, hc, hq, buf⟩
      · have hcv := Lib.run_convert_string_bytes (P := Tryz.prog) wr 9 22 5 S Tryz.underlying9 Tryz.underlying22 Tryz.underlying5
        have hcap := grownCap_ge wr S.size 0 5
        have bn := buf_new wr S
        have bb := bytes_below wr S
        obtain ⟨K, hK⟩ : ∃ K, K = grownCap wr S.size 0 5 := ⟨_, rfl⟩
        obtain ⟨W1, hW⟩ : ∃ X, X = Lib.bytesWorld wr 5 S := ⟨_, rfl⟩
        rw [← hK, ← hW] at hcv
        rw [← hK] at hcap
        rw [← hW] at bn bb
        have BW := Lib.hid bn
        have BWb := Lib.hid (hbel.trans (bb.mono hbel.size))
        have T1W := Lib.hid (T1.out.below bb)
        clear hK hW bn bb
        have hix' : ∀ (w : World), (Instr.index 9 (.string S) (.int .i64 0)).run Tryz.prog w = .ok (.int .u8 (bt S 0)) w := hix
        have hki' : (0 : Int) < (S.size : Int) := by omega
        clear hix hki
        obtain ⟨x, hx⟩ : ∃ x, x = bt S 0 := ⟨_, rfl⟩
        rw [← hx] at hix' h2
        have HC := Lib.hid hx.symm
        clear hx
        rcases h2 with rfl | rfl
        · skip
          have g85 := (T1.out.cell (i := 85) (by omega))
          have w85 := (T1W.out.cell (i := 85) (by omega))
          rw [show turnB 85 = 68 from rfl] at g85 w85
          have b0 := BW.out.cell (i := 0) hlt
          have z0 := BW.out.frozen (i := 0) hlt
          have BS := Lib.hid (BW.out.set (k := 0) hlt 68 (f' := fun i => if i < 0 + 1 then tnB (bt S i) else bt S i) (fun i hi => by
            rw [mix_set (S := S) (k := 0) (x := 68) (by rw [HC.out]; rfl) i]
            by_cases e : i = 0
            · rw [if_pos e, if_pos e]
            · rw [if_neg e, if_neg e, if_neg (by omega)]))
          have TS := Lib.hid (T1W.out.other (a := ⟨wr.heap.size, 0, none⟩) (by have := T1.out.lt; simp only; omega) (.int .u8 68))
          have BB := Lib.hid (BWb.out.setCell (p := ⟨wr.heap.size, 0, none⟩) (show w.heap.size ≤ wr.heap.size from hbel.size) (.int .u8 68))
          have hbel' := hbel.size
          clear hbel
          go_wp2_with fail
          go_roundw
          case rel => exact ⟨1, by omega, by go_num, .inr ⟨by omega, _, _, rfl, hcap, hbel', BS.out⟩, TS.out, BB.out⟩
          case measure => simp [intOf]; omega
        · skip
          have g68 := (T1.out.cell (i := 68) (by omega))
          have w68 := (T1W.out.cell (i := 68) (by omega))
          rw [show turnB 68 = 85 from rfl] at g68 w68
          have b0 := BW.out.cell (i := 0) hlt
          have z0 := BW.out.frozen (i := 0) hlt
          have BS := Lib.hid (BW.out.set (k := 0) hlt 85 (f' := fun i => if i < 0 + 1 then tnB (bt S i) else bt S i) (fun i hi => by
            rw [mix_set (S := S) (k := 0) (x := 85) (by rw [HC.out]; rfl) i]
            by_cases e : i = 0
            · rw [if_pos e, if_pos e]
            · rw [if_neg e, if_neg e, if_neg (by omega)]))
          have TS := Lib.hid (T1W.out.other (a := ⟨wr.heap.size, 0, none⟩) (by have := T1.out.lt; simp only; omega) (.int .u8 85))
          have BB := Lib.hid (BWb.out.setCell (p := ⟨wr.heap.size, 0, none⟩) (show w.heap.size ≤ wr.heap.size from hbel.size) (.int .u8 85))
          have hbel' := hbel.size
          clear hbel
          go_wp2_with fail
          go_roundw
          case rel => exact ⟨1, by omega, by go_num, .inr ⟨by omega, _, _, rfl, hcap, hbel', BS.out⟩, TS.out, BB.out⟩
          case measure => simp [intOf]; omega
      · obtain ⟨x, hx⟩ : ∃ x, x = bt S k := ⟨_, rfl⟩
        rw [← hx] at hix h2
        have HC := Lib.hid hx.symm
        clear hx
        rcases h2 with rfl | rfl
        · skip
          have g85 := (T1.out.cell (i := 85) (by omega))
          rw [show turnB 85 = 68 from rfl] at g85
          have b0 := buf.cell hlt
          have z0 := buf.frozen hlt
          have BS := Lib.hid (buf.set (k := k) hlt 68 (f' := fun i => if i < k + 1 then tnB (bt S i) else bt S i) (fun i hi => mix_set (by rw [HC.out]; rfl) i))
          have TS := Lib.hid (T1.out.other (a := ⟨q, k, none⟩) (show g ≠ q by omega) (.int .u8 68))
          have BB := Lib.hid (hbel.setCell (p := ⟨q, k, none⟩) hq (.int .u8 68))
          clear buf hbel
          go_wp2_with fail
          go_roundw
          case rel => exact ⟨k + 1, by omega, by go_num, .inr ⟨by omega, q, c, rfl, hc, hq, BS.out⟩, TS.out, BB.out⟩
          case measure => simp [intOf]; omega
        · skip
          have g68 := (T1.out.cell (i := 68) (by omega))
          rw [show turnB 68 = 85 from rfl] at g68
          have b0 := buf.cell hlt
          have z0 := buf.frozen hlt
          have BS := Lib.hid (buf.set (k := k) hlt 85 (f' := fun i => if i < k + 1 then tnB (bt S i) else bt S i) (fun i hi => mix_set (by rw [HC.out]; rfl) i))
          have TS := Lib.hid (T1.out.other (a := ⟨q, k, none⟩) (show g ≠ q by omega) (.int .u8 85))
          have BB := Lib.hid (hbel.setCell (p := ⟨q, k, none⟩) hq (.int .u8 85))
          clear buf hbel
          go_wp2_with fail
          go_roundw
          case rel => exact ⟨k + 1, by omega, by go_num, .inr ⟨by omega, q, c, rfl, hc, hq, BS.out⟩, TS.out, BB.out⟩
          case measure => simp [intOf]; omega
    · obtain rfl : k = S.size := by omega
      rcases hv with ⟨h0, rfl⟩ | ⟨h0, q, c, rfl, hc, hq, buf⟩
      · have E := Lib.hid (show S = tnS S by
          apply ByteArray.ext
          have : S.data.toList = [] := List.eq_nil_of_length_eq_zero (by rw [← size_list]; exact h0)
          unfold tnS
          rw [this]
          apply Array.toList_inj.1
          rw [this]
          rfl)
        clear h0
        go_wp2_with fail
        go_ret
        exact ⟨ret_str E.out, hbel⟩
      · have by' : Lib.Bytes wr q 0 (tnS S) := Buf.bytes (s := tnS S) (by rw [tnS_size]; exact buf) (fun i hi => by
          rw [tnS_size] at hi
          rw [bt_tnS hi, if_pos hi])
        have hcv := Lib.run_convert_whole (P := Tryz.prog) wr 22 5 9 Tryz.underlying22 Tryz.underlying5 Tryz.underlying9 q 0 (tnS S) by' c
        rw [tnS_size] at hcv
        clear by' buf h0
        go_wp2_with fail
        go_ret
        exact ⟨rfl, hbel⟩

end Go.Proofs.YtlcmkocbpnekhaaGreatDoor
