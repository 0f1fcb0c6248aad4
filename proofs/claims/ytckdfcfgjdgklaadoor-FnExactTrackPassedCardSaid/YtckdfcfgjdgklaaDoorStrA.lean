/-
  Lists of strings as arguments of a law: read, weighed, copied.
-/
import Derived.Test.YtckdfcfgjdgklaaDoorStrT
import Derived.Test.YtckdfcfgjdgklaaDoorEls
namespace Go.Proofs.YtckdfcfgjdgklaaDoor
open Go.RowKit Go.Sort

/-- A list of strings that can be read. -/
def IsStrs (w : World) (v : Value) (ss : List ByteArray) : Prop :=
  ∃ a cap, v = .slice a ss.length cap ∧ ss.length ≤ maxLen ∧ (∀ i, i < ss.length → (ss.getD i ⟨#[]⟩).size ≤ maxLen) ∧
    (ss = [] ∨ ∃ b o, a = some ⟨b, o, none⟩ ∧ b < w.heap.size ∧ ∀ i, i < ss.length → w.cell? ⟨b, o + i, none⟩ = some (.string (ss.getD i ⟨#[]⟩)))
theorem IsStrs.below {w w' : World} {v : Value} {ss : List ByteArray} (h : IsStrs w v ss) (hb : Below w.heap.size w w') : IsStrs w' v ss := by
  obtain ⟨a, cap, rfl, h1, h2, h3⟩ := h
  refine ⟨a, cap, rfl, h1, h2, ?_⟩
  rcases h3 with h | ⟨b, o, rfl, hlt, hc⟩
  · exact .inl h
  · exact .inr ⟨b, o, rfl, Nat.lt_of_lt_of_le hlt hb.size, fun i hi => (hb.cell (p := ⟨b, o + i, none⟩) hlt).trans (hc i hi)⟩

theorem strs_at {W : World} {x : Addr} {len cap : Nat} {zs : List ByteArray} (hl : len ≤ cap) (hm : cap ≤ maxLen) (hz : zs.length = cap) (hcell : ∀ i, i < zs.length → W.cell? (x.add i) = some (.string (zs.getD i ByteArray.empty))) (hwz : ∀ s ∈ zs, s.size ≤ maxLen) :
    IsStrs W (.slice (some x) len cap) (zs.take len) := by
  have hlen : (zs.take len).length = len := by rw [List.length_take]; omega
  have hg : ∀ i, i < len → (zs.take len).getD i ⟨#[]⟩ = zs.getD i ByteArray.empty := fun i hi => by
    simp only [List.getD_eq_getElem?_getD, List.getElem?_take, if_pos hi]
    rfl
  refine ⟨some x, cap, by rw [hlen], by omega, fun i hi => ?_, ?_⟩
  · rw [hlen] at hi
    rw [hg i hi]
    have hi2 : i < zs.length := by omega
    rw [show zs.getD i ByteArray.empty = zs[i] by simp [hi2]]
    exact hwz _ (List.getElem_mem hi2)
  · by_cases h0 : len = 0
    · subst h0; exact .inl (by simp)
    · obtain ⟨b, off, spot⟩ := x
      have hspot : spot = none := by simpa [Addr.add] using World.cell?_spot (hcell 0 (by omega))
      subst hspot
      refine .inr ⟨b, off, rfl, World.block_lt_of_cell? W _ (hcell 0 (by omega)), fun i hi => ?_⟩
      rw [hlen] at hi
      have := hcell i (by omega)
      have ea : (⟨b, off, none⟩ : Addr).add i = ⟨b, off + i, none⟩ := by unfold Addr.add; split <;> simp_all
      rw [ea] at this
      rw [this, hg i hi]

set_option maxHeartbeats 2000000 in
theorem szStrs {w : World} {v : Value} {ss : List ByteArray} (h : IsStrs w v ss) :
    Calls Tryd.prog 22 #[v, .int .i64 1048576] w fun e w' => ∃ r : Int, e = .returned (.int .i64 r) ∧ (r < 0 ∨ (0 ≤ r ∧ ss.length ≤ 1048576 ∧ ∀ i, i < ss.length → (ss.getD i ⟨#[]⟩).size ≤ 1048576)) ∧ w' = w := by
  obtain ⟨a, cap, rfl, h1, h2, h3⟩ := h
  have h1' : (ss.length : Int) ≤ 9223372036854775807 := by simp only [maxLen] at h1; omega
  by_cases hbig : 1048576 < ss.length
  · have hneg : (1048576 : Int) - (ss.length : Int) < 0 := by omega
    have hw : IntKind.i64.wrap (1048576 - (ss.length : Int)) = 1048576 - (ss.length : Int) := IntWalk.i64_in _ (by omega)
    clear h2 h3
    go_enter Tryd.func22, Tryd.ntmps22
    go_wp2_with fail
    go_ret
    exact ⟨-1, rfl, .inl (by omega), rfl⟩
  have hl : ss.length ≤ 1048576 := by omega
  have hpos : ¬ (1048576 : Int) - (ss.length : Int) < 0 := by omega
  have hw : IntKind.i64.wrap (1048576 - (ss.length : Int)) = 1048576 - (ss.length : Int) := IntWalk.i64_in _ (by omega)
  have H2 := Lib.hid h2
  have H3 := Lib.hid h3
  clear h2 h3
  go_enter Tryd.func22, Tryd.ntmps22
  go_wp2_with fail
  go_loopw [1, 5] (fun l i wr => ∃ (k : Nat) (r : Int), k ≤ ss.length ∧ i = .int .i64 k ∧ l = .int .i64 r ∧ 0 ≤ r ∧ r ≤ 1048576 ∧ Hid (∀ j, j < k → (ss.getD j ⟨#[]⟩).size ≤ 1048576) ∧ wr = w) (fun _ i _ => ss.length - (intOf i).toNat)
  case atStart => exact ⟨0, _, by omega, rfl, rfl, by omega, by omega, Lib.hid (fun j hj => by omega), rfl⟩
  case round =>
    obtain ⟨k, r, hk, rfl, rfl, hr0, hr1, HS, rfl⟩ := hrel
    by_cases hlt : k < ss.length
    · have hki : (k : Int) < (ss.length : Int) := by omega
      obtain ⟨b, o, rfl, hb, hcell⟩ : ∃ b o, a = some ⟨b, o, none⟩ ∧ b < wr.heap.size ∧ ∀ i, i < ss.length → wr.cell? ⟨b, o + i, none⟩ = some (.string (ss.getD i ⟨#[]⟩)) := by
        rcases H3.out with h | h
        · rw [h] at hlt; simp at hlt
        · exact h
      obtain ⟨T, hT⟩ : ∃ T, T = ss.getD k ⟨#[]⟩ := ⟨_, rfl⟩
      have hc := hcell k hlt
      rw [← hT] at hc
      have hz : T.size ≤ maxLen := by rw [hT]; exact H2.out k hlt
      have hz' : (T.size : Int) ≤ 9223372036854775807 := by simp only [maxLen] at hz; omega
      have HT := Lib.hid hT
      have hw2 : IntKind.i64.wrap (r - (T.size : Int)) = r - (T.size : Int) := IntWalk.i64_in _ (by omega)
      clear hT hcell hz hw hpos
      by_cases hn : r - (T.size : Int) < 0
      · go_wp2_with fail
        go_ret
        exact ⟨-1, rfl, .inl (by omega), rfl⟩
      · have HS' := Lib.hid (show ∀ j, j < k + 1 → (ss.getD j ⟨#[]⟩).size ≤ 1048576 from fun j hj => by
          by_cases e : j = k
          · subst e; rw [← HT.out]; omega
          · exact HS.out j (by omega))
        go_wp2_with fail
        go_roundw
        case rel => exact ⟨k + 1, r - (T.size : Int), by omega, by go_num, rfl, by omega, by omega, HS', by first | rfl | trivial⟩
        case measure => simp [intOf]; omega
    · obtain rfl : k = ss.length := by omega
      clear hw hpos
      go_wp2_with fail
      go_ret
      exact ⟨r, rfl, .inr ⟨hr0, hl, HS.out⟩, rfl⟩

theorem ownS_of_row {w : World} {b base : Nat} {ss : List ByteArray} {F : Nat → Value} (h : w.rowIs b 9 ss.length F) (hb : base ≤ b) (hn : ss.length ≤ maxLen) (hF : ∀ i, i < ss.length → F i = .string (ss.getD i ⟨#[]⟩)) :
    OwnS w base (.slice (some ⟨b, 0, none⟩) ss.length ss.length) ss := by
  have o := ow_of_rowIs (k := 1) (n := ss.length) (by rw [Nat.mul_one]; exact h) hb hn
  unfold Ow at o
  unfold OwnS
  have e : (List.range (ss.length * 1)).map F = ss.map Value.string := by
    apply List.ext_getElem
    · simp
    · intro i h1 h2
      have hi : i < ss.length := by simpa using h2
      simp only [List.getElem_map, List.getElem_range]
      rw [hF i hi]
      simp [hi]
  rw [e] at o
  exact o

set_option maxHeartbeats 2000000 in
theorem toStrs {w : World} {v : Value} {ss : List ByteArray} (h : IsStrs w v ss) (hl : ss.length ≤ 1048576) : Calls Tryd.prog 24 #[v] w (MadeStrs w ss) := by
  obtain ⟨a, cap, rfl, h1, h2, h3⟩ := h
  have hmk := run_make_row' (P := Tryd.prog) 31 9 (.string ⟨#[]⟩) 16 Tryd.underlying31 info_str rfl .i64 .i64 ss.length (by omega) (by omega)
  have hl' : (ss.length : Int) ≤ 1048576 := by omega
  have H3 := Lib.hid h3
  clear h1 h2 h3
  go_enter Tryd.func24, Tryd.ntmps24
  go_wp2_with fail
  go_loopw [4] (fun i wr => ∃ k : Nat, k ≤ ss.length ∧ i = .int .i64 k ∧ wr.rowIs w.heap.size 9 ss.length (fun j => .string (if j < k then ss.getD j ⟨#[]⟩ else ⟨#[]⟩)) ∧ Below w.heap.size w wr) (fun i _ => ss.length - (intOf i).toNat)
  case atStart => exact ⟨0, by omega, rfl, (World.rowIs_made w _ _ _).congr (fun i _ => by simp), (Below.refl _ _).alloc (Nat.le_refl _) _⟩
  case round =>
    obtain ⟨k, hk, rfl, hrow, hbel⟩ := hrel
    have hsz : w.heap.size < wr.heap.size := hrow.lt
    by_cases hlt : k < ss.length
    · have hki : (k : Int) < (ss.length : Int) := by omega
      obtain ⟨b, o, rfl, hb, hcell⟩ : ∃ b o, a = some ⟨b, o, none⟩ ∧ b < w.heap.size ∧ ∀ i, i < ss.length → w.cell? ⟨b, o + i, none⟩ = some (.string (ss.getD i ⟨#[]⟩)) := by
        rcases H3.out with h | h
        · rw [h] at hlt; simp at hlt
        · exact h
      obtain ⟨T, hT⟩ : ∃ T, T = ss.getD k ⟨#[]⟩ := ⟨_, rfl⟩
      have hc1 : wr.cell? ⟨b, o + k, none⟩ = some (.string T) := by rw [hT]; exact (hbel.cell (p := ⟨b, o + k, none⟩) hb).trans (hcell k hlt)
      have hc2 : wr.cell? ⟨w.heap.size, k, none⟩ = some _ := hrow.cell hlt
      have hf2 : wr.frozen? ⟨w.heap.size, k, none⟩ = false := hrow.frozen k
      have HR := Lib.hid (show (wr.setCell ⟨w.heap.size, k, none⟩ (.string T)).rowIs w.heap.size 9 ss.length (fun j => .string (if j < k + 1 then ss.getD j ⟨#[]⟩ else ⟨#[]⟩)) from
        (hrow.set k _).congr (fun j hj => by
          by_cases e : j = k
          · subst e; simp [hT]
          · by_cases l : j < k
            · rw [if_neg e, if_pos l, if_pos (by omega)]
            · rw [if_neg e, if_neg l, if_neg (by omega)]))
      have HB := Lib.hid (hbel.setCell (p := ⟨w.heap.size, k, none⟩) (Nat.le_refl _) (.string T))
      clear hT hcell hrow hbel
      go_wp2_with fail
      go_roundw
      case rel => exact ⟨k + 1, by omega, by go_num, HR.out, HB.out⟩
      case measure => simp [intOf]; omega
    · have HO := Lib.hid (show OwnS wr w.heap.size (.slice (some ⟨w.heap.size, 0, none⟩) ss.length ss.length) ss from ownS_of_row hrow (Nat.le_refl _) (by simp only [maxLen]; omega) (fun i hi => by rw [if_pos (by omega)]))
      have HB := Lib.hid hbel
      clear hrow hbel
      go_wp2_with fail
      go_ret
      exact ⟨_, rfl, HO.out, HB.out⟩

end Go.Proofs.YtckdfcfgjdgklaaDoor
