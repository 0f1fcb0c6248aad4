/-
  The outlook of a ring, by the program: a map from strings to three numbers as a function. For a book, and a ring of at most 20 groups.
-/
import Derived.Test.YtcfnklpbiodhjaaTabP
import Derived.Test.YtcfnklpbiodhjaaBookOf
import Derived.Test.YtcfnklpbiodhjaaBegins
import Derived.Maps.Own
import Derived.Maps.Views
import Derived.StringKeys
namespace Go.Proofs.Ytcfnklpbiodhjaa
open Go.RowKit Go.Maps Go.ChangeMaps

def tri (x : Tri) : Value := .agg #[.int .i64 x.1, .int .i64 x.2.1, .int .i64 x.2.2]
def triD (x : Tri) : DataW Unit := .agg [.lit (.int .i64 x.1), .lit (.int .i64 x.2.1), .lit (.int .i64 x.2.2)]
/-- How three numbers read. -/
def R3 (v : Value) : Option (DataW Unit × List MemPlace) :=
  match v with
  | .agg ⟨[.int .i64 a, .int .i64 b, .int .i64 c]⟩ => some (triD (a, b, c), [])
  | _ => none
theorem R3_tri (x : Tri) : R3 (tri x) = some (triD x, []) := rfl
theorem triD_inj {x y : Tri} (h : triD x = triD y) : x = y := by
  obtain ⟨a, b, c⟩ := x
  obtain ⟨a', b', c'⟩ := y
  simp only [triD, DataW.agg.injEq, List.cons.injEq, DataW.lit.injEq, Lit.int.injEq, true_and, and_true] at h
  obtain ⟨rfl, rfl, rfl⟩ := h
  rfl
theorem R3_inv {v : Value} {x : Tri} {ps : List MemPlace} (h : R3 v = some (triD x, ps)) : v = tri x := by
  unfold R3 at h
  split at h
  · rename_i a b c
    simp only [Option.some.injEq, Prod.mk.injEq] at h
    have := triD_inj h.1
    subst this
    rfl
  · cases h

theorem law : Keyed Try.prog 45 := string_keyed Try.underlying45
theorem zeroTri (w : World) : (zeroValue 49).run Try.prog w = .ok (tri (0, 0, 0)) w := by kernel_rfl

/-- Block b is a map that knows f, the zero where it knows nothing. -/
def Knows (w : World) (b n : Nat) (f : ByteArray → Tri) : Prop :=
  ∃ D, w.ownsMap Try.prog 45 R3 b n D ∧ IsMap D ∧ ∀ s : ByteArray, D.atKey (.string s.data.toList) (triD (0, 0, 0)) = triD (f s)

theorem Knows.lt {w : World} {b n : Nat} {f : ByteArray → Tri} (h : Knows w b n f) : b < w.heap.size := by
  obtain ⟨D, h, _⟩ := h
  exact h.lt
theorem Knows.below {w w' : World} {b n : Nat} {f : ByteArray → Tri} (h : Knows w b n f) (hb : Below w.heap.size w w') : Knows w' b n f := by
  obtain ⟨D, h, hm, ha⟩ := h
  exact ⟨D, h.kept (row := none) ⟨hb.os, hb.tape, hb.output, hb.size, fun k hk _ => hb.block k hk⟩ (by simp), hm, ha⟩
theorem Knows.made (w : World) : Knows (w.alloc (.map #[] 0)) w.heap.size 0 (fun _ => (0, 0, 0)) :=
  ⟨.map [], World.ownsMap_made _ _ _ _, ⟨[], rfl⟩, fun _ => rfl⟩
theorem Knows.lookup {w : World} {b n : Nat} {f : ByteArray → Tri} (h : Knows w b n f) {s : ByteArray} (hs : s.size ≤ maxLen) :
    (Instr.lookup 50 (.map (some b)) (.string s) false).run Try.prog w = .ok (tri (f s)) w := by
  obtain ⟨D, h, hm, ha⟩ := h
  obtain ⟨v, ps, hrun, hv⟩ := h.lookup law Try.underlying50 (zeroTri w) (R3_tri (0, 0, 0)) (Go.WideMaps.keyOf_string_mk Try.underlying45 hs)
  rw [ha s] at hv
  rw [hrun, R3_inv hv]
theorem Knows.update {w : World} {b n : Nat} {f : ByteArray → Tri} (h : Knows w b n f) (hn : n < maxLen) {s : ByteArray} (hs : s.size ≤ maxLen) (x : Tri) :
    ∃ w', (Instr.mapUpdate 50 (.map (some b)) (.string s) (tri x)).run Try.prog w = .ok () w' ∧ Knows w' b (n + 1) (fun t => if t = s then x else f t) ∧ w.grownBy w' (some b) := by
  obtain ⟨D, h, hm, ha⟩ := h
  obtain ⟨w', hrun, ho, hg⟩ := h.update law Try.underlying50 hn (Go.WideMaps.keyOf_string_mk Try.underlying45 hs) (R3_tri x)
  refine ⟨w', hrun, ⟨_, ho, ?_, fun t => ?_⟩, hg⟩
  · obtain ⟨es, rfl⟩ := hm
    exact ⟨_, rfl⟩
  · show _ = triD (if t = s then x else f t)
    by_cases e : t = s
    · subst e
      rw [if_pos rfl, atKey_put_same hm (by simp [WideAt.IsKeyLit])]
    · rw [if_neg e, atKey_put_other]
      · exact ha t
      · intro q
        simp only [Lit.string.injEq] at q
        apply e
        rw [ByteArray.ext_iff, ← Array.toList_inj]
        exact q

theorem dgS_size (xs : List Int) : (dgS xs).size = xs.length := by
  show (dg xs).toArray.size = _
  simp [dg]
theorem dgS_drop (rs : List Int) (p m : Nat) (h : p + m ≤ rs.length) : (dgS (rs.drop p)).extract m (rs.length - p) = dgS (rs.drop (p + m)) := by
  apply ByteArray.ext
  rw [ByteArray.data_extract]
  show (dg (rs.drop p)).toArray.extract m (rs.length - p) = (dg (rs.drop (p + m))).toArray
  apply Array.ext'
  simp only [dg, List.map_drop, Array.toList_extract, List.extract_eq_take_drop]
  rw [List.drop_drop, List.take_of_length_le (by simp; omega)]

theorem isDg_of {xs : List Int} (h : okGroups xs = true) (hl : xs.length ≤ 1048576) : IsDg (dgS xs) xs := ⟨rfl, h, hl⟩
theorem okGroups_drop {xs : List Int} (h : okGroups xs = true) (p : Nat) : okGroups (xs.drop p) = true := by
  unfold okGroups at *
  rw [List.all_eq_true] at *
  intro x hx
  exact h x (List.mem_of_mem_drop hx)

/-- A block of the call's own that holds three numbers. -/
def Three (w : World) (b : Nat) (x : Tri) : Prop := w.heap[b]? = some (.cells #[.int .i64 x.1, .int .i64 x.2.1, .int .i64 x.2.2] 49 (0, 0))
theorem Three.lt {w : World} {b : Nat} {x : Tri} (h : Three w b x) : b < w.heap.size := (Array.getElem?_eq_some_iff.1 h).1
theorem Three.below {w w' : World} {b : Nat} {x : Tri} (h : Three w b x) (hb : Below w.heap.size w w') : Three w' b x := (hb.block b h.lt).trans h
theorem Three.alloc {w : World} {b : Nat} {x : Tri} (h : Three w b x) (o : Obj) : Three (w.alloc o) b x := h.below ((Below.refl _ _).alloc (Nat.le_refl _) _)
theorem Three.c0 {w : World} {b : Nat} {x : Tri} (h : Three w b x) : w.cell? ⟨b, 0, none⟩ = some (.int .i64 x.1) := by
  unfold Three at h; simp [World.cell?, h]
theorem Three.c1 {w : World} {b : Nat} {x : Tri} (h : Three w b x) : w.cell? ⟨b, 1, none⟩ = some (.int .i64 x.2.1) := by
  unfold Three at h; simp [World.cell?, h]
theorem Three.c2 {w : World} {b : Nat} {x : Tri} (h : Three w b x) : w.cell? ⟨b, 2, none⟩ = some (.int .i64 x.2.2) := by
  unfold Three at h; simp [World.cell?, h]
theorem Three.f {w : World} {b : Nat} {x : Tri} (h : Three w b x) (j : Nat) : w.frozen? ⟨b, j, none⟩ = false := by
  unfold Three at h; simp [World.frozen?, h]

theorem Three.new (w : World) (x : Tri) : Three (w.alloc (.cells #[.int .i64 x.1, .int .i64 x.2.1, .int .i64 x.2.2] 49)) w.heap.size x := heap_alloc_new w _
theorem Three.set0 {w : World} {b : Nat} {x : Tri} (h : Three w b x) (v : Int) : Three (w.setCell ⟨b, 0, none⟩ (.int .i64 v)) b (v, x.2.1, x.2.2) := by
  unfold Three at *; simp [World.setCell, Array.getElem?_modify, h]
theorem Three.set1 {w : World} {b : Nat} {x : Tri} (h : Three w b x) (v : Int) : Three (w.setCell ⟨b, 1, none⟩ (.int .i64 v)) b (x.1, v, x.2.2) := by
  unfold Three at *; simp [World.setCell, Array.getElem?_modify, h]
theorem Three.set2 {w : World} {b : Nat} {x : Tri} (h : Three w b x) (v : Int) : Three (w.setCell ⟨b, 2, none⟩ (.int .i64 v)) b (x.1, x.2.1, v) := by
  unfold Three at *; simp [World.setCell, Array.getElem?_modify, h]
theorem Three.other {w : World} {b c j : Nat} {x : Tri} (h : Three w b x) (hne : c ≠ b) (v : Value) : Three (w.setCell ⟨c, j, none⟩ v) b x :=
  (Below.heap_setCell _ _ _ _ (fun e => hne (by simpa using e.symm))).trans h

set_option maxHeartbeats 2000000 in
theorem implOutlook {w : World} {u : Value} {b n p : Nat} {f : ByteArray → Tri} {t : Nat → Tri} {bk : List (List Int)} {rs : List Int} (hS : Strs w u (bk.map dgS)) (hK : Knows w b n f) (hv : bookB bk = true) (hok : okGroups rs = true) (hrl : rs.length ≤ 20) (hp : p < rs.length)
    (ht : ∀ q, p < q → q ≤ rs.length → f (dgS (rs.drop q)) = t q) (hto : ∀ q, p < q → q ≤ rs.length → TriOk rs.length q (t q)) :
    Calls Try.prog 40 #[.string (dgS (rs.drop p)), u, .map (some b)] w fun e w' => e = .returned (tri (rowTo t bk rs p bk.length)) ∧ Below w.heap.size w w' := by
  obtain ⟨aq, cq, rfl, hlq, hcq⟩ := hS
  rw [List.length_map] at hlq hcq ⊢
  have hl' : (bk.length : Int) ≤ 1048576 := by omega
  have LN := Lib.hid (lens_of hv)
  have HB := Lib.hid (bookB_is hv).1.1
  obtain ⟨S, hS⟩ : ∃ S, S = dgS (rs.drop p) := ⟨_, rfl⟩
  have hdS := isDg_of (okGroups_drop hok p) (by rw [List.length_drop]; omega)
  rw [← hS] at hdS ⊢
  have hss : S.size = rs.length - p := by rw [hdS.size, List.length_drop]
  have HDS := Lib.hid hdS
  have HS := Lib.hid hS
  have HT := Lib.hid ht
  have HTO := Lib.hid hto
  have HK := Lib.hid hK
  clear hv hS hdS ht hto hK
  go_enter Try.func40, Try.ntmps40
  go_wp2_with fail
  have h6 : Three ((w.alloc (.cells #[.int .i64 0, .int .i64 0, .int .i64 0] 49)).alloc (.cells #[.int .i64 0, .int .i64 0, .int .i64 0] 49)) w.heap.size (0, 0, 0) := (Three.new w (0, 0, 0)).below ((Below.refl _ _).alloc (Nat.le_refl _) _)
  have h7 : Three ((w.alloc (.cells #[.int .i64 0, .int .i64 0, .int .i64 0] 49)).alloc (.cells #[.int .i64 0, .int .i64 0, .int .i64 0] 49)) (w.heap.size + 1) (0, 0, 0) := by
    have := Three.new (w.alloc (.cells #[.int .i64 0, .int .i64 0, .int .i64 0] 49)) (0, 0, 0)
    simpa using this
  have hb0 : Below w.heap.size w ((w.alloc (.cells #[.int .i64 0, .int .i64 0, .int .i64 0] 49)).alloc (.cells #[.int .i64 0, .int .i64 0, .int .i64 0] 49)) := ((Below.refl _ _).alloc (Nat.le_refl _) _).alloc (by simp) _
  go_loopw [8, 9, 10, 13] (fun _ _ _ i wr => ∃ k : Nat, k ≤ bk.length ∧ i = .int .i64 k ∧ Three wr w.heap.size (0, 0, 0) ∧ Three wr (w.heap.size + 1) (rowTo t bk rs p k) ∧ Below w.heap.size w wr) (fun _ _ _ i _ => bk.length - (intOf i).toNat)
  case atStart => exact ⟨0, by omega, rfl, h6, h7, hb0⟩
  case round =>
    clear h6 h7 hb0
    obtain ⟨k, hk, rfl, h6, h7, hbel⟩ := hrel
    have hok1 := rowTo_ok LN.out (by omega) HTO.out k hk
    obtain ⟨acc, hacc⟩ : ∃ acc, acc = rowTo t bk rs p k := ⟨_, rfl⟩
    rw [← hacc] at h7 hok1
    have HACC := Lib.hid hacc
    have H6 := Lib.hid h6
    have H7 := Lib.hid h7
    by_cases hlt : k < bk.length
    · rcases hcq with e | ⟨b', o, rfl, hb', hcell⟩
      · have : bk.length = 0 := by simpa using congrArg List.length e
        omega
      · have hy := hcell k hlt
        obtain ⟨xs, hxs⟩ : ∃ xs, xs = bk.getD k [] := ⟨_, rfl⟩
        have hll := LN.out k hlt
        have hxg := HB.out k hlt
        have hcl : clen bk k = xs.length := by unfold clen; rw [hxs]
        have hhere : here bk rs p k = decide (xs = (rs.drop p).take xs.length) := by unfold here; rw [hxs]
        rw [hcl] at hll
        rw [← hxs] at hxg
        have e1 : (bk.map dgS).getD k ByteArray.empty = dgS xs := by rw [hxs]; simp [hlt]
        rw [e1] at hy
        obtain ⟨T, hT⟩ : ∃ T, T = dgS xs := ⟨_, rfl⟩
        have hdT := isDg_of (groupsB_ok hxg).1 (by omega)
        rw [← hT] at hdT hy
        have hTs : T.size = xs.length := hdT.size
        have hc1 : wr.cell? ⟨b', o + k, none⟩ = some (.string T) := (hbel.cell (p := ⟨b', o + k, none⟩) hb').trans hy
        have HDT := Lib.hid hdT
        have HXS := Lib.hid hxs
        have HCC := Lib.hid hcell
        have HROW := Lib.hid (show rowTo t bk rs p (k + 1) = step3 t bk rs p acc k by rw [hacc]; rfl)
        have hki : (k : Int) < (bk.length : Int) := by omega
        have hah := gAhead (w := wr) HDT.out HDS.out
        rw [← hhere] at hah
        clear hcell hxs hdT hT hy hxg e1 hhere hacc h6 h7
        cases hh : here bk rs p k
        · rw [hh] at hah
          have HS3 := Lib.hid (show rowTo t bk rs p (k + 1) = acc by rw [HROW.out]; unfold step3; rw [hh]; rfl)
          clear hh
          go_wp2_with (go_at_call 45; with_reducible refine Calls.mono hah ?_; rintro e w' ⟨rfl, rfl⟩)
          go_roundw
          case rel => exact ⟨k + 1, by omega, by go_num, H6.out, by rw [HS3.out]; exact H7.out, hbel⟩
          case measure => simp [intOf]; omega
        · rw [hh] at hah
          have hroom := here_room hh (by rw [hcl]; exact hll.1)
          rw [hcl] at hroom
          obtain ⟨r, hr⟩ : ∃ r, r = t (p + xs.length) := ⟨_, rfl⟩
          have hfr : f (dgS (rs.drop (p + xs.length))) = r := by rw [hr]; exact HT.out _ (by omega) hroom
          have hro := HTO.out (p + xs.length) (by omega) hroom
          rw [← hr] at hro
          have hst : rowTo t bk rs p (k + 1) = if r.1 = 0 then acc else (IntKind.i64.wrap (acc.1 + r.1), if acc.1 = 0 ∨ r.2.1 + 1 < acc.2.1 then (r.2.1 + 1, (k : Int)) else acc.2) := by
            rw [HROW.out]; unfold step3; rw [hh, hcl, ← hr]; rfl
          have HST := Lib.hid hst
          have hex : S.extract xs.length S.size = dgS (rs.drop (p + xs.length)) := by rw [HS.out, dgS_size, List.length_drop]; exact dgS_drop _ _ _ hroom
          have hsm : (S.extract xs.length S.size).size ≤ maxLen := by
            rw [hex, dgS_size, List.length_drop]
            simp only [maxLen]
            omega
          have hlook := (HK.out.below hbel).lookup hsm
          clear hsm
          rw [hex, hfr, ← hex] at hlook
          obtain ⟨rm, rc, rf⟩ := r
          obtain ⟨am, ac, af⟩ := acc
          have hlook' : (Instr.lookup 50 (.map (some b)) (.string (S.extract xs.length S.size)) false).run Try.prog wr = .ok (.agg #[.int .i64 rm, .int .i64 rc, .int .i64 rf]) wr := hlook
          have hlen1 : (xs.length : Int) ≤ (S.size : Int) := by rw [hss]; omega
          have c70 : wr.cell? ⟨w.heap.size + 1, 0, none⟩ = some (.int .i64 am) := H7.out.c0
          have c71 : wr.cell? ⟨w.heap.size + 1, 1, none⟩ = some (.int .i64 ac) := H7.out.c1
          have c72 : wr.cell? ⟨w.heap.size + 1, 2, none⟩ = some (.int .i64 af) := H7.out.c2
          have f7 := H7.out.f
          have l7 : w.heap.size + 1 < wr.heap.size := H7.out.lt
          have l7' : wr.heap.size ≠ w.heap.size + 1 := by omega
          have hrc0 : 0 ≤ rc := hro.codes0
          have hrc1 : rc ≤ 20 := by have h2 : rc + ((p + xs.length : Nat) : Int) ≤ (rs.length : Int) ∨ rc = 0 := hro.codes; omega
          clear hh hst hr hfr hex hlook HROW hss hro hok1
          have HST' := Lib.hid (show rowTo t bk rs p (k + 1) = if rm = 0 then (am, ac, af) else (wrap64 (am + rm), if am = 0 ∨ rc + 1 < ac then (rc + 1, (k : Int)) else (ac, af)) by rw [HST.out, wrap_is])
          clear HST
          by_cases q0 : rm = 0
          · have t0 : (rm == 0) = true := by simpa using q0
            have HF := Lib.hid (show rowTo t bk rs p (k + 1) = (am, ac, af) by rw [HST'.out, if_pos q0])
            clear q0 HST'
            go_wp2_with (go_at_call 45; with_reducible refine Calls.mono hah ?_; rintro e w' ⟨rfl, rfl⟩)
            go_roundw
            case rel =>
              exact ⟨k + 1, by omega, by go_num, H6.out.alloc _, by rw [HF.out]; exact H7.out.alloc _, hbel.alloc (by omega) _⟩
            case measure => simp [intOf]; omega
          · have t0 : (rm == 0) = false := by simpa using q0
            by_cases q1 : am = 0
            · have t1 : (am == 0) = true := by simpa using q1
              have HF := Lib.hid (show rowTo t bk rs p (k + 1) = (wrap64 (am + rm), rc + 1, (k : Int)) by rw [HST'.out, if_neg q0, if_pos (.inl q1)])
              clear q0 q1 HST'
              go_wp2_with (go_at_call 45; with_reducible refine Calls.mono hah ?_; rintro e w' ⟨rfl, rfl⟩)
              go_roundw
              case rel =>
                exact ⟨k + 1, by omega, by go_num, (((H6.out.other (by omega) _).other (by omega) _).other (by omega) _).alloc _, by rw [HF.out]; exact (((H7.out.set1 _).set2 _).set0 _).alloc _, (((hbel.setCell (by simp) _).setCell (by simp) _).setCell (by simp) _).alloc (by simp; omega) _⟩
              case measure => simp [intOf]; omega
            · have t1 : (am == 0) = false := by simpa using q1
              by_cases q2 : rc + 1 < ac
              · have HF := Lib.hid (show rowTo t bk rs p (k + 1) = (wrap64 (am + rm), rc + 1, (k : Int)) by rw [HST'.out, if_neg q0, if_pos (.inr q2)])
                clear q0 q1 HST'
                go_wp2_with (go_at_call 45; with_reducible refine Calls.mono hah ?_; rintro e w' ⟨rfl, rfl⟩)
                go_roundw
                case rel =>
                  exact ⟨k + 1, by omega, by go_num, (((H6.out.other (by omega) _).other (by omega) _).other (by omega) _).alloc _, by rw [HF.out]; exact (((H7.out.set1 _).set2 _).set0 _).alloc _, (((hbel.setCell (by simp) _).setCell (by simp) _).setCell (by simp) _).alloc (by simp; omega) _⟩
                case measure => simp [intOf]; omega
              · have t2 : decide (rc + 1 < ac) = false := by simpa using q2
                have HF := Lib.hid (show rowTo t bk rs p (k + 1) = (wrap64 (am + rm), ac, af) by rw [HST'.out, if_neg q0, if_neg (by intro h; rcases h with h | h; exact q1 h; exact q2 h)])
                clear q0 q1 q2 HST'
                go_wp2_with (go_at_call 45; with_reducible refine Calls.mono hah ?_; rintro e w' ⟨rfl, rfl⟩)
                go_roundw
                case rel =>
                  exact ⟨k + 1, by omega, by go_num, (H6.out.other (by omega) _).alloc _, by rw [HF.out]; exact (H7.out.set0 _).alloc _, (hbel.setCell (by simp) _).alloc (by simp; omega) _⟩
                case measure => simp [intOf]; omega
    · obtain rfl : k = bk.length := by omega
      have c60 := h6.c0
      have c61 := h6.c1
      have c62 := h6.c2
      have f6 := h6.f
      have c70 := h7.c0
      have c71 := h7.c1
      have c72 := h7.c2
      have h6' := ((h6.set0 (rowTo t bk rs p bk.length).1).set1 (rowTo t bk rs p bk.length).2.1).set2 (rowTo t bk rs p bk.length).2.2
      have hb' := ((hbel.setCell (p := ⟨w.heap.size, 0, none⟩) (by simp) (.int .i64 (rowTo t bk rs p bk.length).1)).setCell (p := ⟨w.heap.size, 1, none⟩) (by simp) (.int .i64 (rowTo t bk rs p bk.length).2.1)).setCell (p := ⟨w.heap.size, 2, none⟩) (by simp) (.int .i64 (rowTo t bk rs p bk.length).2.2)
      have H6' := Lib.hid h6'
      have HB' := Lib.hid hb'
      clear hok1 h6 h7 h6' hb'
      go_wp2_with fail
      have e0 := H6'.out.c0
      have e1 := H6'.out.c1
      have e2 := H6'.out.c2
      have e3 := HB'.out
      clear H6' HB' c60 c61 c62 f6 c70 c71 c72
      generalize (((wr.setCell _ _).setCell _ _).setCell _ _) = W at e0 e1 e2 e3 ⊢
      exact bodyPost_ret (v := tri (rowTo t bk rs p bk.length)) (by simp [results, Try.results40, go_sem, e0, e1, e2, tri]) rfl ⟨rfl, e3⟩

end Go.Proofs.Ytcfnklpbiodhjaa
