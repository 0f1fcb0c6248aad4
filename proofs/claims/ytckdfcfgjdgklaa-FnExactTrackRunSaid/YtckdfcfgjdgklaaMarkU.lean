/-
  The laws' mark of a string: a text of its number; lists of strings that are marked. (What MarkT and MarkS hold too: never together with them.) For at most 1048576 strings.
-/
import Derived.Test.YtckdfcfgjdgklaaStrT
import Derived.Test.YtckdfcfgjdgklaaSlices
namespace Go.Proofs.Ytckdfcfgjdgklaa
open Go.RowKit Go.Sort

def digB (d : Nat) : UInt8 := UInt8.ofNat (48 + d)
theorem digB_toNat {d : Nat} (h : d < 10) : (digB d).toNat = 48 + d := by
  unfold digB
  rw [UInt8.toNat_ofNat']
  omega
/-- The digits of a number ahead of a text. -/
def mkGo (k : Nat) (out : ByteArray) : ByteArray := if _h : k = 0 then out else mkGo (k / 10) (⟨#[digB (k % 10)]⟩ ++ out)
  termination_by k
  decreasing_by omega
theorem mkGo_zero (out : ByteArray) : mkGo 0 out = out := by unfold mkGo; rfl
theorem mkGo_step {k : Nat} (h : k ≠ 0) (out : ByteArray) : mkGo k out = mkGo (k / 10) (⟨#[digB (k % 10)]⟩ ++ out) := by
  rw [mkGo]
  simp [h]
/-- The mark of a number. -/
def mkT (k : Int) : ByteArray := if k ≤ 0 then ⟨#[109, 48]⟩ else ⟨#[109]⟩ ++ mkGo k.toNat ⟨#[]⟩

theorem conv_one (w : World) (d : Nat) (hd : d < 10) : (Go.convert 53 9 (.slice (some ⟨w.heap.size, 0, none⟩) 1 1)).run Try.prog (w.alloc (.cells #[.int .u8 (48 + (d : Int))] 5)) = .ok (.string ⟨#[digB d]⟩) (w.alloc (.cells #[.int .u8 (48 + (d : Int))] 5)) := by
  have hn : (w.alloc (.cells #[.int .u8 (48 + (d : Int))] 5)).heap[w.heap.size]? = some (.cells #[.int .u8 (48 + (d : Int))] 5 (0, 0)) := Go.Deep.blk_alloc_new _ _
  refine run_convert_bytes_back _ _ _ 5 ⟨w.heap.size, 0, none⟩ 1 [digB d] Try.underlying53 Try.underlying5 Try.underlying9 ?_
  intro j hj
  have : j = 0 := by simpa using hj
  subst this
  have e : (⟨w.heap.size, 0, none⟩ : Addr).add 0 = ⟨w.heap.size, 0, none⟩ := rfl
  rw [e]
  simp only [World.cell?, hn, List.getElem_cons_zero, digB_toNat hd]
  rfl

set_option maxRecDepth 100000 in
set_option maxHeartbeats 4000000 in
theorem markText (k : Int) (hk0 : 0 ≤ k) (hk : k ≤ 4611686018427387904) (w : World) :
    Calls Try.prog 36 #[.int .i64 k] w fun e w' => e = .returned (.string (mkT k)) ∧ Below w.heap.size w w' := by
  by_cases h0 : k ≤ 0
  · have E := Lib.hid (show mkT k = ⟨#[109, 48]⟩ by unfold mkT; rw [if_pos h0])
    go_enter Try.func36, Try.ntmps36
    go_wp2_with fail
    go_ret
    exact ⟨ret_str E.out.symm, Below.refl _ _⟩
  · obtain ⟨K, rfl⟩ : ∃ K : Nat, k = K := ⟨k.toNat, by omega⟩
    have E := Lib.hid (show mkT (K : Int) = ⟨#[109]⟩ ++ mkGo K ⟨#[]⟩ by unfold mkT; rw [if_neg h0]; rfl)
    have hK : K ≤ 4611686018427387904 := by omega
    go_enter Try.func36, Try.ntmps36
    go_wp2_with fail
    go_loopw [0, 3] (fun v s wr => ∃ (k : Nat) (out : ByteArray), v = .int .i64 k ∧ s = .string out ∧ out.size + k ≤ K ∧ mkGo k out = mkGo K ⟨#[]⟩ ∧ Below w.heap.size w wr) (fun v _ _ => (intOf v).toNat)
    case atStart => exact ⟨K, ⟨#[]⟩, rfl, rfl, by show 0 + K ≤ K; omega, rfl, Below.refl _ _⟩
    case round =>
      obtain ⟨k, out, rfl, rfl, hsz, hgo, hbel⟩ := hrel
      have GO := Lib.hid hgo
      clear hgo
      by_cases hz : k = 0
      · subst hz
        have EE := Lib.hid (show mkT (K : Int) = ⟨#[109]⟩ ++ out by rw [E.out, ← GO.out, mkGo_zero])
        have hadd : ¬ 9223372036854775807 < (1 : Nat) + out.size := by omega
        go_wp2_with fail
        go_ret
        exact ⟨ret_str EE.out.symm, hbel⟩
      · have hpos : (0 : Int) < (k : Int) := by omega
        obtain ⟨d, hd⟩ : ∃ d, d = k % 10 := ⟨_, rfl⟩
        obtain ⟨q, hq⟩ : ∃ q, q = k / 10 := ⟨_, rfl⟩
        have hd10 : d < 10 := by omega
        have hrem : (k : Int).tmod 10 = (d : Int) := by rw [hd]; rfl
        have hquo : (k : Int).tdiv 10 = (q : Int) := by rw [hq]; rfl
        have hw8 : IntKind.u8.wrap (48 + (d : Int)) = 48 + (d : Int) := by
          show (48 + (d : Int)) % 256 = _
          omega
        have hcv := conv_one wr d hd10
        have hb2 := hbel.alloc hbel.size (.cells #[.int .u8 (48 + (d : Int))] 5)
        have hadd : ¬ 9223372036854775807 < (1 : Nat) + out.size := by omega
        have GN := Lib.hid (show mkGo q (⟨#[digB d]⟩ ++ out) = mkGo K ⟨#[]⟩ by rw [← GO.out, mkGo_step hz, hd, hq])
        have hs2 : ((⟨#[digB d]⟩ : ByteArray) ++ out).size + q ≤ K := by
          rw [ByteArray.size_append]
          show 1 + out.size + q ≤ K
          omega
        have hqk : q < k := by omega
        clear hd hq
        go_wp2_with fail
        go_roundw
        case rel => exact ⟨q, _, rfl, rfl, hs2, GN.out, hb2⟩
        case measure => simp [intOf]; omega

/-- The marks k, k + 1 .. of strings. -/
def marksT (k : Int) (n : Nat) : List ByteArray := (List.range n).map fun (i : Nat) => mkT (k + (i : Int))
theorem marksT_length (k : Int) (n : Nat) : (marksT k n).length = n := by simp [marksT]
theorem marksT_getD (k : Int) (n i : Nat) (h : i < n) : (marksT k n).getD i ⟨#[]⟩ = mkT (k + i) := by simp [marksT, h]
/-- A row whose first j cells are written already. -/
def fillS (f g : Nat → ByteArray) (j n : Nat) : List Value := (List.range n).map fun i => .string (if i < j then f i else g i)
theorem fillS_set (f g : Nat → ByteArray) (j n : Nat) : (fillS f g j n).set j (.string (f j)) = fillS f g (j + 1) n := by
  apply List.ext_getElem?
  intro i
  by_cases hi : i < n
  · by_cases e : j = i
    · subst e; simp [fillS, hi]
    · by_cases l : i < j
      · simp [fillS, hi, e, l, show i < j + 1 by omega]
      · simp [fillS, hi, e, l, show ¬ i < j + 1 by omega]
  · rw [List.getElem?_eq_none (by simp [fillS]; omega), List.getElem?_eq_none (by simp [fillS]; omega)]
theorem fillS_none (f : Nat → ByteArray) (xs : List ByteArray) : fillS f (fun i => xs.getD i ⟨#[]⟩) 0 xs.length = xs.map Value.string := by
  apply List.ext_getElem?
  intro i
  by_cases hi : i < xs.length
  · simp [fillS, hi]
  · rw [List.getElem?_eq_none (by simp [fillS]; omega), List.getElem?_eq_none (by simp; omega)]
theorem fillS_all (k : Int) (g : Nat → ByteArray) (n : Nat) : fillS (fun i => mkT (k + i)) g n n = (marksT k n).map Value.string := by
  apply List.ext_getElem?
  intro i
  by_cases hi : i < n
  · simp [fillS, marksT, hi]
  · rw [List.getElem?_eq_none (by simp [fillS]; omega), List.getElem?_eq_none (by simp [marksT]; omega)]
theorem fillS_get (f g : Nat → ByteArray) (j n i : Nat) (h : i < n) : (fillS f g j n)[i]? = some (.string (if i < j then f i else g i)) := by
  simp [fillS, h]

set_option maxHeartbeats 1000000 in
theorem markStrs {w : World} {base : Nat} {v : Value} {xs : List ByteArray} {k : Int} (h : OwnS w base v xs) (hl : xs.length ≤ 1048576) (hk0 : 0 ≤ k) (hk : k ≤ 1048576) :
    Calls Try.prog 13 #[v, .int .i64 k] w fun e w' => e = .returned (.int .i64 (k + xs.length)) ∧ OwnS w' base v (marksT k xs.length) ∧ w.grownBy w' v.ownBlock := by
  have hl' : (xs.length : Int) ≤ 1048576 := by omega
  have hshape : (v = .slice none 0 0 ∧ xs = []) ∨ ∃ g cap, v = .slice (some ⟨g, 0, none⟩) xs.length cap ∧ base ≤ g ∧ g < w.heap.size := by
    rcases h.2 with ⟨rfl, h0⟩ | ⟨g, cap, cur, rfl, hb, hg, _⟩
    · exact .inl ⟨rfl, List.eq_nil_of_length_eq_zero h0⟩
    · exact .inr ⟨g, cap, rfl, hb, (Array.getElem?_eq_some_iff.1 hg).1⟩
  rcases hshape with ⟨rfl, rfl⟩ | ⟨g, cap, rfl, hb, hg⟩
  · go_enter Try.func13, Try.ntmps13
    go_wp2_with fail
    refine wp_loop_rounds 1 ?_
    rw [rounds_succ]
    go_wp2_with fail
    go_ret
    exact ⟨ret_int (by simp), World.ownsRow_nil _ _ _ _, World.grownBy.refl _ _⟩
  · have h0 : w.ownsRow base 9 1 (.slice (some ⟨g, 0, none⟩) xs.length cap) xs.length (fillS (fun i => mkT (k + i)) (fun i => xs.getD i ⟨#[]⟩) 0 xs.length) := by rw [fillS_none]; exact h
    clear h
    go_enter Try.func13, Try.ntmps13
    go_wp2_with fail
    go_loopw [1, 5] (fun q i wr => ∃ j : Nat, j ≤ xs.length ∧ i = .int .i64 j ∧ q = .int .i64 (k + j) ∧ wr.ownsRow base 9 1 (.slice (some ⟨g, 0, none⟩) xs.length cap) xs.length (fillS (fun i => mkT (k + i)) (fun i => xs.getD i ⟨#[]⟩) j xs.length) ∧ w.grownBy wr (some g)) (fun _ i _ => xs.length - (intOf i).toNat)
    case atStart => exact ⟨0, by omega, rfl, by simp, h0, World.grownBy.refl _ _⟩
    case round =>
      obtain ⟨j, hj, rfl, rfl, hown, hgr⟩ := hrel
      by_cases hlt : j < xs.length
      · have MT := Lib.hid (markText (k + j) (by omega) (by omega))
        have hji : (j : Int) < (xs.length : Int) := by omega
        obtain ⟨X, hX⟩ : ∃ X, X = mkT (k + j) := ⟨_, rfl⟩
        rw [← hX] at MT
        have HX := Lib.hid hX
        have HO := Lib.hid hown
        clear hX hown
        go_wp2_with (go_at_call 36; refine (MT.out _).mono ?_)
        rintro e w1 ⟨rfl, b1⟩
        have hg1 : wr.grownBy w1 (some g) := ⟨b1.os, b1.tape, b1.output, b1.size, fun i hi _ => b1.block i hi⟩
        have hown := World.ownsRow.kept HO.out (below_grown b1) (by right; simp [Value.ownBlock])
        have hc : w1.cell? ⟨g, j, none⟩ = some (.string (if j < j then mkT (k + j) else xs.getD j ⟨#[]⟩)) := by rw [World.ownsRow.cellAt hown j (by omega), fillS_get _ _ _ _ _ hlt]
        have hf : w1.frozen? ⟨g, j, none⟩ = false := World.ownsRow.frozenAt hown j
        have hs := World.ownsRow.stored hown j (.string X)
        have HS := Lib.hid (show (w1.setCell ⟨g, j, none⟩ (.string X)).ownsRow base 9 1 (.slice (some ⟨g, 0, none⟩) xs.length cap) xs.length (fillS (fun i => mkT (k + i)) (fun i => xs.getD i ⟨#[]⟩) (j + 1) xs.length) by
          have := hs.1
          rw [HX.out, fillS_set (fun i => mkT (k + i))] at this
          rw [HX.out]
          exact this)
        have HG := Lib.hid (grown_trans (grown_trans hgr hg1) hs.2)
        clear hs hown hg1 b1
        go_wp2_with fail
        go_roundw
        case rel => exact ⟨j + 1, by omega, by go_num, by go_num, HS.out, HG.out⟩
        case measure => simp [intOf]; omega
      · obtain rfl : j = xs.length := by omega
        go_wp2_with fail
        go_ret
        refine ⟨rfl, ?_, hgr⟩
        rw [fillS_all] at hown
        unfold OwnS
        rw [marksT_length]
        exact hown

set_option maxHeartbeats 1000000 in
theorem heldStrs {w : World} {base : Nat} {v : Value} {n : Nat} {k : Int} (h : OwnS w base v (marksT k n)) (hl : n ≤ 1048576) (hk0 : 0 ≤ k) (hk : k ≤ 1048576) :
    Calls Try.prog 14 #[v, .int .i64 k] w fun e w' => e = .returned (.int .i64 (k + n)) ∧ Below w.heap.size w w' := by
  have hl' : (n : Int) ≤ 1048576 := by omega
  obtain ⟨a, cap, rfl, hcap, hc⟩ := h.cells
  clear h
  rw [marksT_length] at hc hcap ⊢
  rcases hc with h0 | ⟨g, rfl, hb, hg, hcell⟩
  · have hn : n = 0 := by rw [← marksT_length k n, h0]; rfl
    subst hn
    go_enter Try.func14, Try.ntmps14
    go_wp2_with fail
    refine wp_loop_rounds 1 ?_
    rw [rounds_succ]
    go_wp2_with fail
    go_ret
    exact ⟨ret_int (by simp), Below.refl _ _⟩
  · have HC := Lib.hid hcell
    clear hcell
    go_enter Try.func14, Try.ntmps14
    go_wp2_with fail
    go_loopw [1, 5] (fun q i wr => ∃ j : Nat, j ≤ n ∧ i = .int .i64 j ∧ q = .int .i64 (k + j) ∧ Below w.heap.size w wr) (fun _ i _ => n - (intOf i).toNat)
    case atStart => exact ⟨0, by omega, rfl, by simp, Below.refl _ _⟩
    case round =>
      obtain ⟨j, hj, rfl, rfl, hbel⟩ := hrel
      by_cases hlt : j < n
      · obtain ⟨X, hX⟩ : ∃ X, X = mkT (k + j) := ⟨_, rfl⟩
        have hc1 : wr.cell? ⟨g, j, none⟩ = some (.string X) := by rw [hX, ← marksT_getD k n j hlt]; exact (hbel.cell (p := ⟨g, j, none⟩) hg).trans (HC.out j hlt)
        have d1 := fun d os => cell_regrown hc1 d os
        have MT := Lib.hid (fun d os => Calls.regrown_of (d := d) (os := os) (markText (k + j) (by omega) (by omega) (grow (redrawn wr d) os)))
        rw [← hX] at MT
        have hji : (j : Int) < (n : Int) := by omega
        have hsz := hbel.size
        clear hX hc1
        go_wp2_with fail
        refine wp_region_quiet_below (by kernel_rfl) (by kernel_rfl) ?_
        repeat (go_big_quiet_step (exact MT.out _ _))
        refine wpQuiet_nil ?_
        intro _ hw'
        obtain ⟨⟨dq, osq⟩, hw''⟩ := hw'
        subst hw''
        have BR := (below_regrown wr dq osq).mono hsz
        go_wp2_with fail
        go_roundw
        case rel => exact ⟨j + 1, by omega, by go_num, by go_num, hbel.trans BR⟩
        case measure => simp [intOf]; omega
      · obtain rfl : j = n := by omega
        go_wp2_with fail
        go_ret
        exact ⟨rfl, hbel⟩

end Go.Proofs.Ytckdfcfgjdgklaa
