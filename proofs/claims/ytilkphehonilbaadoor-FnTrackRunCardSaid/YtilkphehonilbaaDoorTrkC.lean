/-
  The text of the program's track; a step at a circuit, by the program. For texts of at most 1048576 bytes.
-/
import Derived.Test.YtilkphehonilbaaDoorTrkB
import Derived.Test.YtilkphehonilbaaDoorBuilder
namespace Go.Proofs.YtilkphehonilbaaDoor
open Go.RowKit Go.Sort

theorem builder_below {T e : TypeId} {B b : Nat} {bs : List Value} {w w' : World} (h : Lib.IsBuilderF T e B b bs w) (hb : Below w.heap.size w w') : Lib.IsBuilderF T e B b bs w' := by
  have one : ∀ {p : Value}, Lib.BuilderAtF T e B b p bs w → Lib.BuilderAtF T e B b p bs w' := by
    intro p h
    have hl := h.lt
    obtain ⟨hB, v, h1, h2, h3⟩ := h
    refine ⟨hB, v, (hb.block b hl).trans h1, ⟨h2.1, ?_⟩, h3⟩
    rcases h2.2 with h | ⟨g, cap, cur, fz, hv, h4, h5, h6⟩
    · exact .inl h
    · exact .inr ⟨g, cap, cur, fz, hv, h4, (hb.block g (Array.getElem?_eq_some_iff.1 h5).1).trans h5, h6⟩
  exact h.elim (fun h => .inl (one h)) (fun h => .inr (one h))

theorem trL_one {k o : Nat} (h : o.testBit k = true) : trL (k + 1) o = trL k o ++ [49] := by unfold trL; rw [List.range_succ, List.map_append, List.map_cons, List.map_nil, h]; rfl
theorem trL_zero {k o : Nat} (h : o.testBit k = false) : trL (k + 1) o = trL k o ++ [48] := by unfold trL; rw [List.range_succ, List.map_append, List.map_cons, List.map_nil, h]; rfl

set_option maxHeartbeats 2000000 in
theorem text_is (n o : Nat) (hn : n ≤ 8) (ho : o < 256) (w : World) :
    Calls Tryd.prog 34 #[tkc n o] w fun e w' => e = .returned (.string (trS n o)) ∧ Below w.heap.size w w' := by
  have HA := Lib.hid (fun (k : Nat) (hk : k ≤ 8) (w : World) => has_is n o k ho hk w)
  unfold tkc at *
  have hn8 : (n : Int) ≤ 8 := by omega
  have p := Pair.new w (.int .u64 o) (.int .i64 n) 54
  have q := below_alloc w (.cells #[.int .u64 o, .int .i64 n] 54)
  obtain ⟨W, hW⟩ : ∃ W, W = w.alloc (.cells #[.int .u64 o, .int .i64 n] 54) := ⟨_, rfl⟩
  rw [← hW] at p q
  have HW := Lib.hid hW
  have P := Lib.hid p
  have Q := Lib.hid q
  have k0 := (p.alloc (.cells #[.pointer none, .slice none 0 0] 76)).cell0
  have k1 := (p.alloc (.cells #[.pointer none, .slice none 0 0] 76)).cell1
  have hfresh := Lib.hid (Lib.IsBuilderF.of (Lib.fresh_isBuilder 76 5 W))
  clear hW p q ho
  go_enter Tryd.func34, Tryd.ntmps34
  go_upto_region 1 with fail
  rw [← HW.out]
  go_wp2_with fail
  clear k0 k1
  go_loopw [4, 7] (fun _ i wr => ∃ k : Nat, k ≤ n ∧ i = .int .i64 k ∧ Lib.IsBuilderF 76 5 W.heap.size W.heap.size (Lib.byteCells (trL k o)) wr ∧ Below W.heap.size W wr) (fun _ i _ => n - (intOf i).toNat)
  case atStart => exact ⟨0, by omega, rfl, hfresh.out, below_alloc _ _⟩
  case round =>
    obtain ⟨k, hk, rfl, hI, hbel⟩ := hrel
    have hsz : W.heap.size ≤ wr.heap.size := hbel.size
    by_cases hlt : k < n
    · have hki : (k : Int) < (n : Int) := by omega
      have hlen : (Lib.byteCells (trL k o)).length + 1 ≤ 140737488355328 := by rw [Lib.byteCells_length, trL_length]; omega
      have HL := Lib.hid hlen
      have z0 := (P.out.below hbel).cell0
      have z1 := (P.out.below hbel).cell1
      have II := Lib.hid hI
      have BB := Lib.hid hbel
      have ONE := @trL_one k o
      have ZER := @trL_zero k o
      obtain ⟨t, ht⟩ : ∃ t, t = o.testBit k := ⟨_, rfl⟩
      have H1 := Lib.hid (ht ▸ HA.out k (by omega))
      rw [← ht] at ONE ZER
      clear hlen hI hbel ht
      cases t
      · have KT := Lib.hid (ZER rfl)
        clear ONE ZER
        go_wp2_with (go_at_call 41; refine (H1.out _).mono ?_; rintro e w3 ⟨rfl, b3⟩)
        have i3 := builder_below II.out b3
        have hs3 := Nat.le_trans hsz b3.size
        have WB := Lib.hid (writeByte W.heap.size W.heap.size _ 48 _ i3 HL.out hs3)
        have B3 := Lib.hid (BB.out.trans (b3.mono hsz))
        clear b3 i3
        go_wp2_with (go_at_call 53; refine WB.out.mono ?_)
        rintro e W1 ⟨rfl, i1, b1, -⟩
        have I1 := Lib.hid i1
        have B1 := Lib.hid (B3.out.trans b1)
        clear i1 b1
        go_wp2_with fail
        go_roundw
        case rel => exact ⟨k + 1, by omega, by go_num, by rw [KT.out, Lib.byteCells_append]; exact I1.out, B1.out⟩
        case measure => simp [intOf]; omega
      · have KT := Lib.hid (ONE rfl)
        clear ONE ZER
        go_wp2_with (go_at_call 41; refine (H1.out _).mono ?_; rintro e w3 ⟨rfl, b3⟩)
        have i3 := builder_below II.out b3
        have hs3 := Nat.le_trans hsz b3.size
        have WB := Lib.hid (writeByte W.heap.size W.heap.size _ 49 _ i3 HL.out hs3)
        have B3 := Lib.hid (BB.out.trans (b3.mono hsz))
        clear b3 i3
        go_wp2_with (go_at_call 53; refine WB.out.mono ?_)
        rintro e W1 ⟨rfl, i1, b1, -⟩
        have I1 := Lib.hid i1
        have B1 := Lib.hid (B3.out.trans b1)
        clear i1 b1
        go_wp2_with fail
        go_roundw
        case rel => exact ⟨k + 1, by omega, by go_num, by rw [KT.out, Lib.byteCells_append]; exact I1.out, B1.out⟩
        case measure => simp [intOf]; omega
    · obtain rfl : k = n := by omega
      have BS := Lib.hid (Tryd.Builder_String_any_k W.heap.size W.heap.size (trL k o) wr hI hsz)
      have BB := Lib.hid hbel
      clear hI hbel
      go_wp2_with (go_at_call 54; refine BS.out.mono ?_)
      rintro e W1 ⟨rfl, i1, b1, -⟩
      have B1 := Lib.hid (chain Q.out (BB.out.trans b1))
      clear i1 b1
      go_wp2_with fail
      go_ret
      exact ⟨rfl, B1.out⟩

end Go.Proofs.YtilkphehonilbaaDoor
