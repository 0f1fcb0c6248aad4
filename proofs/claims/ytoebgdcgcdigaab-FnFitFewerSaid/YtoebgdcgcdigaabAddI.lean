/-
  A copy of a path of a list, by the program.
-/
import Derived.Test.YtoebgdcgcdigaabOrd
import Derived.Test.YtoebgdcgcdigaabPathP
import Derived.Test.YtoebgdcgcdigaabRun
import Derived.Deep.RegionWith
import Derived.Deep.DeepCutAuto
namespace Go.Proofs.Ytoebgdcgcdigaab
open Go.RowKit Go.Sort

set_option maxHeartbeats 1000000 in
theorem cloneInts {w : World} {b o n cap : Nat} {xs : List Int} (hn : n = xs.length) (h5 : xs.length ≤ 1048576) (hc : ∀ i, i < xs.length → w.cell? ⟨b, o + i, none⟩ = some (.int .i64 (xs.getD i 0))) (hb : b < w.heap.size) :
    Calls Try.prog 56 #[.slice (some ⟨b, o, none⟩) n cap] w (MadeInts w xs) := by
  have ea := below_alloc w (.cells #[] 3)
  have oe := own_empty w
  obtain ⟨i0, hi, hz0, hz1, hz2⟩ := info_parts info_int
  have HC := Lib.hid (show ∀ j u, (xs.map (Value.int .i64))[j]? = some u → (w.alloc (.cells #[] 3)).cell? ((⟨b, o, none⟩ : Addr).add j) = some u from fun j u hu => by
    rw [List.getElem?_map] at hu
    cases e : xs[j]? with
    | none => rw [e] at hu; simp at hu
    | some x =>
      rw [e] at hu
      simp only [Option.map_some, Option.some.injEq] at hu
      subst hu
      have hlt : j < xs.length := (List.getElem?_eq_some_iff.1 e).1
      have q := (ea.cell (p := ⟨b, o + j, none⟩) hb).trans (hc j hlt)
      rw [List.getD_eq_getElem?_getD, e] at q
      by_cases hj0 : j = 0
      · subst hj0; simpa [Addr.add] using q
      · simpa [Addr.add, hj0] using q)
  have HL := Lib.hid hn
  have heq : ∀ X : World, (binOp BinOp.eql 27 (.slice (some ⟨b, o, none⟩) n cap) (.slice none 0 0)).run Try.prog X = .ok (.bool false) X := fun _ => by kernel_rfl
  have hn' : n ≤ 1048576 := by omega
  clear hc hn
  go_enter Try.func56, Try.ntmps56
  go_wp2_with (at_builtin; refine wpList_append_own_at _ rfl _ _ 27 rfl w.heap.size 3 i0 (.int .i64 0) 1 8 Try.underlying27 hi hz0 hz1 hz2 rfl (by decide) _ 0 [] rfl oe ⟨b, o, none⟩ n cap (xs.map (Value.int .i64)) rfl ?c0 ?c1 ints_one ?c3 ?c4 ?c5 ?_)
  case c0 => rw [List.length_map, HL.out, Nat.mul_one]
  case c1 => exact HC.out
  case c3 => simp only [maxLen]; omega
  case c4 => omega
  case c5 => exact ea.size
  intro v1 w1 hown hgrow _ _
  have b1 : Below w.heap.size w w1 := ea.grown hgrow ea.size (fun c hc => (World.ownsRow.lt oe c hc).1)
  have o1 : OwnI w1 w.heap.size v1 xs := by
    unfold OwnI
    rw [← HL.out]
    simpa using hown
  obtain ⟨a2, m2, c2, rfl⟩ := own_is_slice o1
  clear hown hgrow oe ea
  go_wp2_with fail
  go_ret
  exact ⟨_, rfl, o1, b1⟩

theorem clone_end {w W wz : World} {uA uB : Value} {xs ys : List Int} (sz : W.heap.size = w.heap.size + 1) (q0 : Below w.heap.size w W) (d : Below W.heap.size W wz) (pr : Pair W w.heap.size (.slice none 0 0) (.slice none 0 0) 32)
    (oA : OwnI wz W.heap.size uA xs) (oB : OwnI wz W.heap.size uB ys) (a1 : uA.ownBlock = none ∨ uA.ownBlock ≠ uB.ownBlock) (a2 : uB.ownBlock = none ∨ uB.ownBlock ≠ uA.ownBlock) :
    Pair ((wz.setCell ⟨w.heap.size, 0, none⟩ uA).setCell ⟨w.heap.size, 1, none⟩ uB) w.heap.size uA uB 32 ∧ OwnPath ((wz.setCell ⟨w.heap.size, 0, none⟩ uA).setCell ⟨w.heap.size, 1, none⟩ uB) (w.heap.size + 1) (.agg #[uA, uB]) (xs, ys) ∧ Below w.heap.size w ((wz.setCell ⟨w.heap.size, 0, none⟩ uA).setCell ⟨w.heap.size, 1, none⟩ uB) := by
  have hlt : w.heap.size < W.heap.size := by omega
  rw [← sz]
  exact ⟨stored_pair (pr.below d), ⟨uA, uB, rfl, (oA.setBelow (a := ⟨w.heap.size, 0, none⟩) hlt uA).setBelow (a := ⟨w.heap.size, 1, none⟩) hlt uB, (oB.setBelow (a := ⟨w.heap.size, 0, none⟩) hlt uA).setBelow (a := ⟨w.heap.size, 1, none⟩) hlt uB, a1, a2⟩, ((q0.trans (d.mono q0.size)).setCell (p := ⟨w.heap.size, 0, none⟩) (Nat.le_refl _) uA).setCell (p := ⟨w.heap.size, 1, none⟩) (Nat.le_refl _) uB⟩

set_option maxHeartbeats 4000000 in
theorem clonePath {w : World} {b o : Nat} {n : Int} {p : List Int × List Int} (h : PathAt w b o p) (hp : pathB n p = true) :
    Calls Try.prog 49 #[.pointer (some ⟨b, o, none⟩)] w (MadePath w p) := by
  obtain ⟨⟨hn1, hn5⟩, hx, hy, _⟩ := pathB_is hp
  obtain ⟨b1, o1, k1, b2, o2, k2, g1, g2, hlb, hb1, hb2, d1, d2⟩ := h.cells hp
  obtain ⟨xs, ys⟩ := p
  simp only at g1 g2 d1 d2 hx hy ⊢
  have q0 := below_alloc w (.cells #[.slice none 0 0, .slice none 0 0] 32)
  have pr := Pair.new w (.slice none 0 0) (.slice none 0 0) 32
  have sz : (w.alloc (.cells #[.slice none 0 0, .slice none 0 0] 32)).heap.size = w.heap.size + 1 := Go.Deep.nblk_alloc _ _
  obtain ⟨W, hW⟩ : ∃ X, X = w.alloc (.cells #[.slice none 0 0, .slice none 0 0] 32) := ⟨_, rfl⟩
  rw [← hW] at q0 pr sz
  have HW := Lib.hid hW.symm
  have e1 := (q0.cell (p := ⟨b, o, none⟩) hlb).trans g1
  have e2 := (q0.cell (p := ⟨b, o + 1, none⟩) hlb).trans g2
  have hlW : b < W.heap.size := Nat.lt_of_lt_of_le hlb q0.size
  obtain ⟨l1, hl1⟩ : ∃ l, l = xs.length := ⟨_, rfl⟩
  obtain ⟨l2, hl2⟩ : ∃ l, l = ys.length := ⟨_, rfl⟩
  have CA := Lib.hid (fun (X : World) (c : Below W.heap.size W X) => cloneInts (w := X) (b := b1) (o := o1) (n := l1) (cap := k1) (xs := xs) hl1 (by omega) (fun i hi => (c.cell (p := ⟨b1, o1 + i, none⟩) (Nat.lt_of_lt_of_le hb1 q0.size)).trans ((q0.cell (p := ⟨b1, o1 + i, none⟩) hb1).trans (d1 i hi))) (Nat.lt_of_lt_of_le hb1 (Nat.le_trans q0.size c.size)))
  have CB := Lib.hid (fun (X : World) (c : Below W.heap.size W X) => cloneInts (w := X) (b := b2) (o := o2) (n := l2) (cap := k2) (xs := ys) hl2 (by omega) (fun i hi => (c.cell (p := ⟨b2, o2 + i, none⟩) (Nat.lt_of_lt_of_le hb2 q0.size)).trans ((q0.cell (p := ⟨b2, o2 + i, none⟩) hb2).trans (d2 i hi))) (Nat.lt_of_lt_of_le hb2 (Nat.le_trans q0.size c.size)))
  rw [← hl1] at e1
  rw [← hl2] at e2
  have QQ := Lib.hid (fun (X : World) (c : Below W.heap.size W X) => And.intro (And.intro ((c.cell (p := ⟨b, o, none⟩) hlW).trans e1) ((c.cell (p := ⟨b, o + 1, none⟩) hlW).trans e2)) (pr.below c))
  have Q0 := Lib.hid q0
  have SZ := Lib.hid sz
  have PR := Lib.hid pr
  have EE := Lib.hid (And.intro e1 e2)
  clear hW q0 sz g1 g2 d1 d2 h hp hl1 hl2 hx hy pr e1 e2
  go_enter Try.func49, Try.ntmps49
  go_upto_region 1 with fail
  rw [HW.out]
  go_cut [] (fun wx => ∃ a1 n1 c1 a2 n2 c2, Pair wx w.heap.size (.slice a1 n1 c1) (.slice a2 n2 c2) 32 ∧ OwnPath wx (w.heap.size + 1) (.agg #[.slice a1 n1 c1, .slice a2 n2 c2]) (xs, ys) ∧ Below w.heap.size w wx)
  case first =>
    have e1 := EE.out.1
    have e2 := EE.out.2
    have d0 : Below W.heap.size W W.drew := (Below.refl _ _).drew
    have f0 := PR.out.cell0
    have f1 := PR.out.cell1
    go_region_with (first
      | (go_at_call_of 56 (Value.slice (some ⟨b1, o1, none⟩) l1 k1); refine (CA.out _ (by first | exact dB | exact d0)).mono ?_; rintro e wA ⟨vA, rfl, oA, bA⟩; have dA : Below W.heap.size W wA := (by first | exact dB.trans (bA.mono dB.size) | exact d0.trans (bA.mono d0.size)); obtain ⟨aA, nA, cA, rfl⟩ := own_is_slice oA; have mA := QQ.out _ dA; have mA1 := mA.1.1; have mA2 := mA.1.2; have mA3 := mA.2.cell0; have mA4 := mA.2.cell1; have mA5 := mA.2.frozen 0; have mA6 := mA.2.frozen 1; clear mA)
      | (go_at_call_of 56 (Value.slice (some ⟨b2, o2, none⟩) l2 k2); refine (CB.out _ (by first | exact dA | exact d0)).mono ?_; rintro e wB ⟨vB, rfl, oB, bB⟩; have dB : Below W.heap.size W wB := (by first | exact dA.trans (bB.mono dA.size) | exact d0.trans (bB.mono d0.size)); obtain ⟨aB, nB, cB, rfl⟩ := own_is_slice oB; have mB := QQ.out _ dB; have mB1 := mB.1.1; have mB2 := mB.1.2; have mB3 := mB.2.cell0; have mB4 := mB.2.cell1; have mB5 := mB.2.frozen 0; have mB6 := mB.2.frozen 1; clear mB))
    all_goals (go_wp2_with fail; go_meet; first
      | exact ⟨_, _, _, _, _, _, clone_end SZ.out Q0.out dB PR.out ((oA.below bB).mono (Nat.le_refl _)) (oB.mono dA.size) (apart oA (Nat.le_refl _) oB) (apart' oA (Nat.le_refl _) oB)⟩
      | exact ⟨_, _, _, _, _, _, clone_end SZ.out Q0.out dA PR.out (oA.mono dB.size) ((oB.below bA).mono (Nat.le_refl _)) (apart' oB (Nat.le_refl _) oA) (apart oB (Nat.le_refl _) oA)⟩)
  case rest =>
  obtain ⟨a1, n1, c1, a2, n2, c2, pz, oz, bz⟩ := hcut
  have k6 := pz.cell0
  have k7 := pz.cell1
  have OZ := Lib.hid (oz.mono (base' := w.heap.size) (by omega))
  have BZ := Lib.hid bz
  clear pz oz bz
  go_wp2_with fail
  exact bodyPost_ret (v := .agg #[.slice a1 n1 c1, .slice a2 n2 c2]) (by simp [results, Try.results49, go_sem, k6, k7]) rfl ⟨_, rfl, OZ.out, BZ.out⟩

end Go.Proofs.Ytoebgdcgcdigaab
