/-
  The order in which trains enter a section, by the model; the least free time, by the model.
-/
import Derived.Test.YtoebgdcgcdigaabFree
import Derived.Test.YtoebgdcgcdigaabPathP
import Derived.BigQuiet
namespace Go.Proofs.Ytoebgdcgcdigaab
open Go.RowKit Go.Sort

theorem OwnI.readAt {w : World} {base g n cap : Nat} {xs : List Int} (h : OwnI w base (.slice (some ⟨g, 0, none⟩) n cap) xs) (i : Nat) (hi : i < xs.length) : w.cell? ⟨g, i, none⟩ = some (.int .i64 (xs.getD i 0)) := by
  unfold OwnI at h
  have hn : n = xs.length := by
    rcases h.2 with ⟨e, _⟩ | ⟨_, _, _, e, _⟩
    · cases e
    · simp only [Value.slice.injEq] at e; exact e.2.1
  subst hn
  have := World.ownsRow.cellAt h i (by simpa using hi)
  rw [this]
  simp [hi]
theorem part_cells {w : World} {base g n c : Nat} {xs : List Int} (h : OwnI w base (.slice (some ⟨g, 0, none⟩) n c) xs) (d : Nat) : ∀ j u, ((xs.drop d).map (Value.int .i64))[j]? = some u → w.cell? ((⟨g, d, none⟩ : Addr).add j) = some u := by
  intro j u hu
  rw [List.getElem?_map, List.getElem?_drop] at hu
  cases e : xs[d + j]? with
  | none => rw [e] at hu; simp at hu
  | some x =>
    rw [e] at hu
    simp only [Option.map_some, Option.some.injEq] at hu
    subst hu
    have hlt : d + j < xs.length := (List.getElem?_eq_some_iff.1 e).1
    have q := h.readAt (d + j) hlt
    rw [List.getD_eq_getElem?_getD, e] at q
    by_cases hj0 : j = 0
    · subst hj0; simpa [Addr.add] using q
    · simpa [Addr.add, hj0] using q
theorem take_cells {w : World} {base g n c : Nat} {xs : List Int} (h : OwnI w base (.slice (some ⟨g, 0, none⟩) n c) xs) (d : Nat) : ∀ j u, ((xs.take d).map (Value.int .i64))[j]? = some u → w.cell? ((⟨g, 0, none⟩ : Addr).add j) = some u := by
  intro j u hu
  refine part_cells h 0 j u ?_
  rw [List.drop_zero]
  rw [List.getElem?_map, List.getElem?_take] at hu
  rw [List.getElem?_map]
  split at hu
  · exact hu
  · simp at hu
theorem ints_one {xs : List Int} : ∀ u ∈ xs.map (Value.int .i64), u.oneCell' = true := by
  intro u hu
  simp only [List.mem_map] at hu
  obtain ⟨x, _, rfl⟩ := hu
  rfl

set_option maxRecDepth 100000 in
set_option maxHeartbeats 4000000 in
theorem specOrder {w : World} {v : Value} {n : Int} {k : Nat} {ps : List (List Int × List Int)} (h : Paths w v ps) (hp : pathsB n ps = true) (hk : (k : Int) < n) :
    Calls Try.prog 55 #[v, .int .i64 k] w (MadeInts w (orderOf ps k)) := by
  have hh := h
  obtain ⟨a, cap, rfl, hl, -⟩ := h
  have HH := Lib.hid (fun (i : Nat) (hi : i < ps.length) => paths_at hh hi)
  have HP := Lib.hid hp
  have h8 : ps.length ≤ 8 := (pathsB_is hp).2.1
  have o0 := own_empty w
  have b0 := below_alloc w (.cells #[] 3)
  obtain ⟨i0, hi, hz0, hz1, hz2⟩ := info_parts info_int
  obtain ⟨F, hF⟩ : ∃ F, F = inF ps k := ⟨_, rfl⟩
  have FF := Lib.hid hF
  clear hh hp hF
  go_enter Try.func55, Try.ntmps55
  go_wp2_with fail
  go_loopw [5, 6] (fun v i wr => ∃ m : Nat, m ≤ ps.length ∧ i = .int .i64 m ∧ (∃ g c, v = .slice (some ⟨g, 0, none⟩) m c) ∧ OwnI wr w.heap.size v (ordTo F m) ∧ Below w.heap.size w wr) (fun _ i _ => ps.length - (intOf i).toNat)
  case atStart => exact ⟨0, by omega, rfl, ⟨_, _, rfl⟩, o0, b0⟩
  case round =>
    obtain ⟨m, hm, rfl, ⟨g, c, rfl⟩, hown, hbel⟩ := hrel
    obtain ⟨wo, rfl⟩ : ∃ X, X = wr := ⟨_, rfl⟩
    have hxl : (ordTo F m).length = m := ordTo_length F m
    by_cases hlt : m < ps.length
    · obtain ⟨b, o, rfl, hb, hat⟩ := HH.out m hlt
      have hml : (m : Int) < (ps.length : Int) := by omega
      obtain ⟨xs, hxs⟩ : ∃ xs, xs = ordTo F m := ⟨_, rfl⟩
      rw [← hxs] at hown hxl
      have XS := Lib.hid hxs
      have AT := Lib.hid hat
      have OUT := Lib.hid hown
      have hcm : m ≤ c := by
        rcases (hown.ints (by omega)) with ⟨_, _, e, hc, _⟩
        simp only [Value.slice.injEq] at e
        obtain ⟨_, e2, e3⟩ := e
        omega
      have hgw : g < wo.heap.size := by
        rcases hown.shape with ⟨e, _⟩ | ⟨_, _, e, _, hg⟩
        · simp at e
        · simp only [Value.slice.injEq, Option.some.injEq, Addr.mk.injEq, and_true] at e
          omega
      have HBEL := Lib.hid hbel
      clear hxs hat hown hbel
      go_wp2_with fail
      go_loopw [7] (fun x w2 => ∃ j : Nat, j ≤ m ∧ x = .int .i64 j ∧ Hid (∀ q, q < j → F (xs.getD q 0) < F m) ∧ Below wo.heap.size wo w2) (fun x _ => m - (intOf x).toNat)
      case atStart => exact ⟨0, by omega, rfl, fun q hq => by omega, Below.refl _ _⟩
      case round =>
        obtain ⟨j, hj, rfl, HJ, hb2⟩ := hrel
        have hbw := HBEL.out.trans (hb2.mono HBEL.out.size)
        have OUT2 := Lib.hid (OUT.out.below hb2)
        by_cases hjm : j < m
        · have hyo := ordTo_mem.1 (show xs.getD j 0 ∈ ordTo F m by
            rw [← XS.out, List.getD_eq_getElem?_getD, List.getElem?_eq_getElem (by omega)]
            exact List.getElem_mem _)
          obtain ⟨q, hqm, hq⟩ := hyo
          have e1 := OUT2.out.readAt j (by omega)
          rw [hq] at e1
          obtain ⟨b1, o1, k1, b2, o2, k2, c1, c2, -, hb1, hb2', d1, d2⟩ := paths_cells AT.out HP.out (i := q) (by omega) hk
          obtain ⟨b3, o3, k3, b4, o4, k4, c3, c4, -, hb3, hb4, d3, d4⟩ := paths_cells AT.out HP.out (i := m) (by omega) hk
          obtain ⟨q1, q2, q3, q4, q5⟩ := sec_bounds HP.out (i := q) (by omega) hk
          obtain ⟨r1, r2, r3, r4, r5⟩ := sec_bounds HP.out (i := m) (by omega) hk
          have hF : F (xs.getD j 0) < F m ↔ (ps.getD q noPath).1.getD k 0 < (ps.getD m noPath).1.getD k 0 := by
            rw [FF.out, hq]
            unfold inF inAt
            rw [Int.toNat_natCast, Int.toNat_natCast]
          have f1 := (hbw.cell (p := ⟨b, o + q * 2, none⟩) hb).trans c1
          have f2 := (hbw.cell (p := ⟨b1, o1 + k, none⟩) hb1).trans d1
          have f3 := (hbw.cell (p := ⟨b, o + m * 2, none⟩) hb).trans c3
          have f4 := (hbw.cell (p := ⟨b3, o3 + k, none⟩) hb3).trans d3
          generalize (ps.getD q noPath).1.getD k 0 = x1 at f2 hF
          generalize (ps.getD m noPath).1.getD k 0 = x2 at f4 hF
          generalize (ps.getD q noPath).1.length = l1 at f1 q1
          generalize (ps.getD m noPath).1.length = l2 at f3 r1
          have hkl1 : (k : Int) < (l1 : Int) := by omega
          have hkl2 : (k : Int) < (l2 : Int) := by omega
          have hql : (q : Int) < (ps.length : Int) := by omega
          have hjl : (j : Int) < (m : Int) := by omega
          have hjc : j < m := hjm
          have F0 := Lib.hid hF
          clear c1 c2 c3 c4 d1 d2 d3 d4 q3 q4 q5 r3 r4 r5 hF q2 r2
          by_cases hx : x1 < x2
          · have HN := Lib.hid (show ∀ u, u < j + 1 → F (xs.getD u 0) < F m from fun u hu => by
              by_cases e : u = j
              · subst e; exact F0.out.2 hx
              · exact HJ.out u (by omega))
            have hd := decide_eq_true hx
            clear hx hq
            go_wp2_with fail
            go_quiet (fail)
            go_wp2_with fail
            go_roundw
            case rel => exact ⟨j + 1, by omega, by go_num, HN, below_drewN hb2 _⟩
            case measure => simp [intOf]; omega
          · have HN := Lib.hid (insI_at (f := F) (x := m) xs j (by omega) HJ.out (.inr fun e => hx (F0.out.1 e)))
            have hd := decide_eq_false hx
            clear hx hq
            go_wp2_with fail
            go_quiet (fail)
            have hb5 := below_drewN hb2 nq
            generalize wr.drewN nq = w5 at hb5 ⊢
            clear OUT2 hbw HJ
            have OUT5 := Lib.hid (OUT.out.below hb5)
            have oe := own_empty w5
            have ae := below_alloc w5 (.cells #[] 3)
            have OUT6 := Lib.hid (OUT5.out.below ae)
            have hjx : (xs.take j).length = j := by rw [List.length_take]; omega
            have HJX := Lib.hid hjx
            have HXL := Lib.hid hxl
            clear hjx hxl
            go_wp2_with (at_builtin; refine wpList_append_own_at _ rfl _ _ 27 rfl w5.heap.size 3 i0 (.int .i64 0) 1 8 Try.underlying27 hi hz0 hz1 hz2 rfl (by decide) _ 0 [] rfl oe ⟨g, 0, none⟩ j c ((xs.take j).map (Value.int .i64)) rfl ?c0 ?c1 ints_one ?c3 ?c4 ?c5 ?_)
            case c0 => rw [List.length_map, HJX.out, Nat.mul_one]
            case c1 => exact take_cells OUT6.out j
            case c3 => simp only [maxLen]; omega
            case c4 => omega
            case c5 => exact ae.size
            intro v1 w6 hown1 hgrow1 _ _
            have hown : w6.ownsRow w5.heap.size 3 1 v1 j ((xs.take j).map (Value.int .i64)) := by simpa using hown1
            have b6 : Below w5.heap.size w5 w6 := ae.grown hgrow1 ae.size (fun c hc => (World.ownsRow.lt oe c hc).1)
            have s6 := b6.size
            clear hown1 hgrow1 oe ae
            obtain ⟨av, cv, rfl⟩ := own_slice3 hown
            go_wp2_with (at_builtin; refine wpList_append_own_at _ rfl _ _ 27 rfl w5.heap.size 3 i0 (.int .i64 0) 1 8 Try.underlying27 hi hz0 hz1 hz2 rfl (by decide) _ _ _ rfl (hown.alloc _) ⟨w6.heap.size, 0, none⟩ 1 1 [.int .i64 m] rfl rfl ?d1 ?d2 ?d3 ?d4 ?d5 ?_)
            case d1 => exact cell_one_new _ _ _
            case d2 => intro u hu; simp at hu; subst hu; rfl
            case d3 => simp only [maxLen]; omega
            case d4 => omega
            case d5 => rw [Go.Deep.nblk_alloc]; omega
            intro v2 w7 hown2 hgrow2 _ _
            have b7 : Below w5.heap.size w5 w7 := (b6.alloc b6.size (.cells #[.int .i64 m] 3)).grown hgrow2 (by rw [Go.Deep.nblk_alloc]; omega) (fun c hc => (hown.lt c hc).1)
            have s7 := b7.size
            have OUT7 := Lib.hid (OUT5.out.below b7)
            clear hown hgrow2
            obtain ⟨av2, cv2, rfl⟩ := own_slice3 hown2
            go_wp2_with (at_builtin; refine wpList_append_own_at _ rfl _ _ 27 rfl w5.heap.size 3 i0 (.int .i64 0) 1 8 Try.underlying27 hi hz0 hz1 hz2 rfl (by decide) _ _ _ rfl hown2 ⟨g, j, none⟩ (m - j) (c - j) ((xs.drop j).map (Value.int .i64)) rfl ?e0 ?e1 ints_one ?e3 ?e4 ?e5 ?_)
            case e0 => rw [List.length_map, List.length_drop, HXL.out, Nat.mul_one]
            case e1 => exact part_cells OUT7.out j
            case e3 => simp only [maxLen]; omega
            case e4 => omega
            case e5 => exact s7
            intro v3 w8 hown3 hgrow3 _ _
            have b8 : Below w5.heap.size w5 w8 := b7.grown hgrow3 s7 (fun c hc => (hown2.lt c hc).1)
            have hl3 : (insI F m xs).length = m + 1 := by rw [insI_length, HXL.out]
            have o3 : OwnI w8 w5.heap.size v3 (insI F m xs) := by
              unfold OwnI
              rw [hl3, HN.out]
              have e : j + 1 + (m - j) = m + 1 := by omega
              rw [e] at hown3
              simpa [List.map_append, List.map_take, List.map_drop] using hown3
            have B8 := Lib.hid (HBEL.out.trans ((hb5.trans (b8.mono hb5.size)).mono HBEL.out.size))
            have hws : w.heap.size ≤ w5.heap.size := Nat.le_trans HBEL.out.size hb5.size
            have O3 := Lib.hid (o3.mono hws)
            rcases o3.shape with ⟨-, e⟩ | ⟨g3, c3, e3, -, -⟩
            · rw [e] at hl3; simp at hl3
            rw [hl3] at e3
            subst e3
            have HO := Lib.hid (show ordTo F (m + 1) = insI F m xs by rw [XS.out]; rfl)
            clear hown3 hgrow3 hown2 o3 b8 b7 b6 hl3
            go_wp2_with fail
            go_roundw
            case rel => exact ⟨m + 1, by omega, by go_num, ⟨g3, c3, rfl⟩, by rw [HO.out]; exact O3.out, B8.out⟩
            case measure => simp [intOf]; omega
        · obtain rfl : j = m := by omega
          have HN := Lib.hid (insI_at (f := F) (x := j) xs j (by omega) HJ.out (.inl hxl.symm))
          go_wp2_with fail
          go_quiet (fail)
          have hb5 := below_drewN hb2 nq
          generalize wr.drewN nq = w5 at hb5 ⊢
          clear OUT2 hbw HJ
          have OUT5 := Lib.hid (OUT.out.below hb5)
          have oe := own_empty w5
          have ae := below_alloc w5 (.cells #[] 3)
          have OUT6 := Lib.hid (OUT5.out.below ae)
          have hjx : (xs.take j).length = j := by rw [List.length_take]; omega
          have HJX := Lib.hid hjx
          have HXL := Lib.hid hxl
          clear hjx hxl
          go_wp2_with (at_builtin; refine wpList_append_own_at _ rfl _ _ 27 rfl w5.heap.size 3 i0 (.int .i64 0) 1 8 Try.underlying27 hi hz0 hz1 hz2 rfl (by decide) _ 0 [] rfl oe ⟨g, 0, none⟩ j c ((xs.take j).map (Value.int .i64)) rfl ?c0 ?c1 ints_one ?c3 ?c4 ?c5 ?_)
          case c0 => rw [List.length_map, HJX.out, Nat.mul_one]
          case c1 => exact take_cells OUT6.out j
          case c3 => simp only [maxLen]; omega
          case c4 => omega
          case c5 => exact ae.size
          intro v1 w6 hown1 hgrow1 _ _
          have hown : w6.ownsRow w5.heap.size 3 1 v1 j ((xs.take j).map (Value.int .i64)) := by simpa using hown1
          have b6 : Below w5.heap.size w5 w6 := ae.grown hgrow1 ae.size (fun c hc => (World.ownsRow.lt oe c hc).1)
          have s6 := b6.size
          clear hown1 hgrow1 oe ae
          obtain ⟨av, cv, rfl⟩ := own_slice3 hown
          go_wp2_with (at_builtin; refine wpList_append_own_at _ rfl _ _ 27 rfl w5.heap.size 3 i0 (.int .i64 0) 1 8 Try.underlying27 hi hz0 hz1 hz2 rfl (by decide) _ _ _ rfl (hown.alloc _) ⟨w6.heap.size, 0, none⟩ 1 1 [.int .i64 j] rfl rfl ?d1 ?d2 ?d3 ?d4 ?d5 ?_)
          case d1 => exact cell_one_new _ _ _
          case d2 => intro u hu; simp at hu; subst hu; rfl
          case d3 => simp only [maxLen]; omega
          case d4 => omega
          case d5 => rw [Go.Deep.nblk_alloc]; omega
          intro v2 w7 hown2 hgrow2 _ _
          have b7 : Below w5.heap.size w5 w7 := (b6.alloc b6.size (.cells #[.int .i64 j] 3)).grown hgrow2 (by rw [Go.Deep.nblk_alloc]; omega) (fun c hc => (hown.lt c hc).1)
          have s7 := b7.size
          have OUT7 := Lib.hid (OUT5.out.below b7)
          clear hown hgrow2
          obtain ⟨av2, cv2, rfl⟩ := own_slice3 hown2
          obtain ⟨ad, had⟩ : ∃ ad : Addr, (if c = j then some (⟨g, 0, none⟩ : Addr) else some ⟨g, j, none⟩) = some ad := by by_cases e : c = j <;> simp [e]
          go_wp2_with (at_builtin; refine wpList_append_own_at _ rfl _ _ 27 rfl w5.heap.size 3 i0 (.int .i64 0) 1 8 Try.underlying27 hi hz0 hz1 hz2 rfl (by decide) _ _ _ rfl hown2 ad 0 (c - j) ((xs.drop j).map (Value.int .i64)) rfl ?e0 ?e1 ints_one ?e3 ?e4 ?e5 ?_)
          case e0 => rw [List.length_map, List.length_drop, HXL.out, Nat.sub_self]
          case e1 => intro j' u hu; rw [List.drop_eq_nil_of_le (by rw [HXL.out]; exact Nat.le_refl _)] at hu; simp at hu
          case e3 => simp only [maxLen]; omega
          case e4 => omega
          case e5 => exact s7
          intro v3 w8 hown3 hgrow3 _ _
          have b8 : Below w5.heap.size w5 w8 := b7.grown hgrow3 s7 (fun c hc => (hown2.lt c hc).1)
          have hl3 : (insI F j xs).length = j + 1 := by rw [insI_length, HXL.out]
          have o3 : OwnI w8 w5.heap.size v3 (insI F j xs) := by
            unfold OwnI
            rw [hl3, HN.out]
            have e : j + 1 + 0 = j + 1 := by omega
            rw [e] at hown3
            simpa [List.map_append, List.map_take, List.map_drop] using hown3
          have B8 := Lib.hid (HBEL.out.trans ((hb5.trans (b8.mono hb5.size)).mono HBEL.out.size))
          have hws : w.heap.size ≤ w5.heap.size := Nat.le_trans HBEL.out.size hb5.size
          have O3 := Lib.hid (o3.mono hws)
          rcases o3.shape with ⟨-, e⟩ | ⟨g3, c3, e3, -, -⟩
          · rw [e] at hl3; simp at hl3
          rw [hl3] at e3
          subst e3
          have HO := Lib.hid (show ordTo F (j + 1) = insI F j xs by rw [XS.out]; rfl)
          clear hown3 hgrow3 hown2 o3 b8 b7 b6 hl3
          go_wp2_with fail
          go_roundw
          case rel => exact ⟨j + 1, by omega, by go_num, ⟨g3, c3, rfl⟩, by rw [HO.out]; exact O3.out, B8.out⟩
          case measure => simp [intOf]; omega
    · obtain rfl : m = ps.length := by omega
      go_wp2_with fail
      go_ret
      exact made_ints hown hbel (by rw [FF.out]; rfl)

end Go.Proofs.Ytoebgdcgcdigaab
