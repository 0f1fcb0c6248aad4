/-
  For every input the law 'FnMissing' returns true, and each of its arguments reads behind the call as it read before. Conditions: none beyond those of the row.
-/
import Derived.Test.YtilkphehonilbaaRows
import Derived.WalkKit
import Derived.ProofKit
import Derived.OpenShut
import Derived.ShutString
import Derived.ChangeOld
import Derived.Below
import Derived.Deep.Matrix
import Derived.Test.YtilkphehonilbaaIo
import Derived.Test.YtilkphehonilbaaRegM
import Derived.Test.YtilkphehonilbaaRegN
import Derived.Test.YtilkphehonilbaaRegO2
import Derived.Deep.RegionHeld3
import Derived.Deep.RegionLaw
import Derived.Maps.AppendAt
import Derived.Deep.RegionWith
import Derived.Lib.QuietBelow
import Derived.BigQuiet
import Derived.Test.YtilkphehonilbaaDrawI
import Derived.Test.YtilkphehonilbaaKit
import Derived.Test.YtilkphehonilbaaNoteP
import Derived.Test.YtilkphehonilbaaRegL
import Derived.Test.YtilkphehonilbaaSlices
namespace Go.Proofs.Ytilkphehonilbaa
open Go.RowKit

open Go.Sort


theorem lat_turn (ms ns : List Mv) (i : Nat) : latN ns ms i = - latN ms ns i := by unfold latN; omega
theorem off_turn (ms ns : List Mv) (sl : Int) : ∀ k, offL ns ms sl k = - offG ms ns sl k ∧ offG ns ms sl k = - offL ms ns sl k
  | 0 => ⟨rfl, rfl⟩
  | k + 1 => by
    obtain ⟨h1, h2⟩ := off_turn ms ns sl k
    simp only [offL, offG]
    rw [h1, h2, lat_turn ms ns k]
    omega
theorem offO_turn (ms ns : List Mv) (sl : Int) : (offO ns ms sl).isSome = (offO ms ns sl).isSome := by
  have key : ∀ ms ns : List Mv, (offO ms ns sl).isSome = true → (offO ns ms sl).isSome = true := by
    intro ms ns h
    obtain ⟨o, ho⟩ := Option.isSome_iff_exists.1 h
    obtain ⟨⟨h1, h2, h3⟩, ⟨h4, h5⟩, h6, -⟩ := offO_is ho
    have hl := text_length h1 h2 h3
    obtain ⟨e1, e2⟩ := off_turn ms ns sl ms.length
    rw [offO_yes h2 h1 h3.symm h4 h5 (by rw [hl, e1, e2]; omega)]
    rfl
  cases a : (offO ms ns sl).isSome
  · cases b : (offO ns ms sl).isSome
    · rfl
    · rw [key _ _ b] at a; cases a
  · exact key _ _ a
theorem slkO_turn (ms ns : List Mv) : slkO ns ms = slkO ms ns := by
  unfold slkO
  congr 2
  funext k
  exact offO_turn ms ns k
theorem off_self (ms : List Mv) (sl : Int) (h0 : 0 ≤ sl) : ∀ k, offL ms ms sl k ≤ 0 ∧ 0 ≤ offG ms ms sl k
  | 0 => by simp [offL, offG]
  | k + 1 => by
    obtain ⟨h1, h2⟩ := off_self ms sl h0 k
    have : latN ms ms k = 0 := by unfold latN; omega
    simp only [offL, offG]
    omega
theorem offO_self {ms : List Mv} {sl : Int} (h : regB ms = true) (h0 : 0 ≤ sl) (h5 : sl ≤ 5) : offO ms ms sl = some (offL ms ms sl ms.length) ∧ offL ms ms sl ms.length ≤ 0 := by
  obtain ⟨a, b⟩ := off_self ms sl h0 ms.length
  exact ⟨offO_yes h h rfl h0 h5 (by omega), a⟩
theorem slkO_self {ms : List Mv} (h : regB ms = true) : slkO ms ms = some 0 := by
  have q := slkO_at (ms := ms) (ns := ms) (k := 0) (by omega) (fun j hj => absurd hj (Nat.not_lt_zero j)) (by
    show (offO ms ms 0).isSome = true
    rw [(offO_self h (Int.le_refl 0) (by omega)).1]; rfl)
  exact q
theorem slkO_is {ms ns : List Mv} {o : Int} (h : slkO ms ns = some o) : 0 ≤ o ∧ o ≤ 5 ∧ (offO ms ns o).isSome = true ∧ (offO ms ns (o - 1)).isSome = false := by
  unfold slkO at h
  cases e : (List.range 6).find? (fun (k : Nat) => (offO ms ns (k : Int)).isSome) with
  | none => rw [e] at h; cases h
  | some k =>
    rw [e] at h
    simp only [Option.map_some, Option.some.injEq] at h
    subst h
    rw [List.find?_range_eq_some] at e
    obtain ⟨e1, e2, e3⟩ := e
    have hk := List.mem_range.1 e2
    refine ⟨by omega, by omega, e1, ?_⟩
    rcases Nat.eq_zero_or_pos k with c | c
    · subst c
      rw [offO_slack (.inl (by omega))]; rfl
    · have := e3 (k - 1) (by omega)
      rw [show ((k : Nat) : Int) - 1 = ((k - 1 : Nat) : Int) by omega]
      simpa using this
theorem slkO_reg {ms ns : List Mv} {o : Int} (h : slkO ms ns = some o) : regB ms = true ∧ regB ns = true ∧ ns.length = ms.length := by
  obtain ⟨x, hx⟩ := Option.isSome_iff_exists.1 (slkO_is h).2.2.1
  obtain ⟨⟨h1, h2, h3⟩, -⟩ := offO_is hx
  exact ⟨h1, h2, text_length h1 h2 h3⟩
theorem off_more (ms ns : List Mv) (sl : Int) : ∀ k, offL ms ns (sl + 1) k ≤ offL ms ns sl k ∧ offG ms ns sl k ≤ offG ms ns (sl + 1) k
  | 0 => ⟨Int.le_refl _, Int.le_refl _⟩
  | k + 1 => by
    obtain ⟨h1, h2⟩ := off_more ms ns sl k
    simp only [offL, offG]
    omega
/-- What a found offset says. -/
theorem offO_facts {ms ns : List Mv} {sl o : Int} (h : offO ms ns sl = some o) : regB ms = true ∧ regB ns = true ∧ nTx ms = nTx ns ∧ ns.length = ms.length ∧ 0 ≤ sl ∧ sl ≤ 5 ∧ o = offL ms ns sl ms.length ∧ o ≤ offG ms ns sl ms.length ∧ -30 ≤ o ∧ o ≤ 30 ∧ (∀ i, i < ms.length → -sl ≤ latN ms ns i - o ∧ latN ms ns i - o ≤ sl) := by
  obtain ⟨⟨h1, h2, h3⟩, ⟨h4, h5⟩, h6, h7⟩ := offO_is h
  obtain ⟨a, b, c⟩ := (off_agree ms ns sl o ms.length).2 ⟨by rw [h7]; exact Int.le_refl _, by rw [h7]; exact h6⟩
  exact ⟨h1, h2, h3, text_length h1 h2 h3, h4, h5, h7, by rw [h7]; exact h6, b, c, a⟩
theorem offO_more {ms ns : List Mv} {sl o : Int} (h : offO ms ns sl = some o) (hs : sl ≠ 5) : ∃ x, offO ms ns (sl + 1) = some x ∧ x ≤ o := by
  obtain ⟨h1, h2, h3, -, h4, h5, h6, h7, -⟩ := offO_facts h
  obtain ⟨a, b⟩ := off_more ms ns sl ms.length
  exact ⟨_, offO_yes h1 h2 h3 (by omega) (by omega) (by omega), by omega⟩
theorem off_later {ms ns ls : List Mv} {sl : Int} {c : Int} (hc : 0 ≤ c) (n : Nat) (hd : ∀ i, i < n → latN ms ls i = latN ms ns i + c) : ∀ k, k ≤ n →
    (-30 < offL ms ns sl k → offL ms ls sl k = offL ms ns sl k + c) ∧ (offL ms ns sl k = -30 → offL ms ls sl k ≤ -30 + c) ∧ -30 ≤ offL ms ns sl k ∧ -30 ≤ offL ms ls sl k ∧ offG ms ls sl k ≤ 30 ∧ (∀ o, o ≤ offG ms ns sl k → o + c ≤ 30 → o + c ≤ offG ms ls sl k)
  | 0, _ => by
    simp only [offL, offG]
    exact ⟨fun q => absurd q (by omega), fun _ => by omega, by omega, by omega, by omega, fun o _ h => h⟩
  | k + 1, hk => by
    obtain ⟨h1, h2, h3, h4, h5, h6⟩ := off_later (sl := sl) hc n hd k (by omega)
    have e := hd k (by omega)
    refine ⟨?_, ?_, ?_, ?_, ?_, ?_⟩
    · simp only [offL]; rw [e]; omega
    · simp only [offL]; rw [e]; omega
    · simp only [offL]; omega
    · simp only [offL]; omega
    · simp only [offG]; omega
    · intro o ho hoc
      simp only [offG] at ho ⊢
      rw [e]
      have := h6 o (by omega) hoc
      omega
theorem latL_at {ns : List Mv} {k : Int} (h : regB ns = true) (hk : -2000 ≤ k ∧ k ≤ 2000) {i : Nat} (hi : i < ns.length) : (latL ns k).getD i noMv = ((ns.getD i noMv).1 + k, (ns.getD i noMv).2) := by
  rw [latL_get hi, IntWalk.wrap64_in _ (by have := reg_note h hi; omega)]
theorem latL_text {ns : List Mv} {k : Int} : ∀ j, j ≤ ns.length → ntx (latL ns k) j = ntx ns j
  | 0, _ => rfl
  | j + 1, hj => by
    simp only [ntx]
    rw [latL_text j (by omega), latL_get (by omega)]
theorem latL_nTx' (ns : List Mv) (k : Int) : nTx (latL ns k) = nTx ns := by
  unfold nTx; rw [latL_length]; exact latL_text _ (Nat.le_refl _)
theorem latB_is {ns : List Mv} {k : Int} (h : latB ns k = true) : regB ns = true ∧ regB (latL ns k) = true ∧ latV ns k = latL ns k := by
  unfold latB at h
  rw [Bool.and_eq_true] at h
  exact ⟨h.1, h.2, by unfold latV; rw [h.1, if_pos rfl, regL_yes h.2]⟩
/-- The offset of a register that is three minutes later. -/
theorem offO_late {ms ns : List Mv} {sl o : Int} (h : offO ms ns sl = some o) (hl : latB ns 3 = true) (ho : o ≠ -30) : (o + 3 ≤ 30 ∧ offO ms (latV ns 3) sl = some (o + 3)) ∨ (30 < o + 3 ∧ offO ms (latV ns 3) sl = none) := by
  obtain ⟨h1, h2, h3, h4, h5, h6, h7, h8, h9, h10, -⟩ := offO_facts h
  obtain ⟨a, b, c⟩ := latB_is hl
  rw [c]
  have ht : nTx ms = nTx (latL ns 3) := by rw [latL_nTx', h3]
  have hd : ∀ i, i < ms.length → latN ms (latL ns 3) i = latN ms ns i + 3 := by
    intro i hi
    unfold latN
    rw [latL_at a (by omega) (by omega)]
    simp only; omega
  obtain ⟨q1, q2, q3, q4, q5, q6⟩ := off_later (sl := sl) (c := 3) (by omega) ms.length hd ms.length (Nat.le_refl _)
  have e := q1 (by omega)
  rcases Int.lt_or_le 30 (o + 3) with c30 | c30
  · exact .inr ⟨c30, offO_no (by omega)⟩
  · have := q6 o h8 c30
    exact .inl ⟨c30, by rw [offO_yes h1 b ht h5 h6 (by omega), e, h7]⟩
theorem take_succ_getD (xs : List Int) (k : Nat) (h : k < xs.length) : xs.take (k + 1) = xs.take k ++ [xs.getD k 0] := by
  rw [List.take_succ_eq_append_getElem h]
  simp [h]

/-- Do the lists agree on their first k numbers? -/
def AgreeTo (xs ys : List Int) (k : Nat) : Prop := xs.take k = ys.take k

theorem AgreeTo.succ {xs ys : List Int} {k : Nat} (h : AgreeTo xs ys k) (hx : k < xs.length) (hy : k < ys.length) (e : xs.getD k 0 = ys.getD k 0) : AgreeTo xs ys (k + 1) := by
  unfold AgreeTo at *
  rw [take_succ_getD xs k hx, take_succ_getD ys k hy, h, e]

theorem differ {xs ys : List Int} {k : Nat} (_hx : k < xs.length) (_hy : k < ys.length) (e : xs.getD k 0 ≠ ys.getD k 0) : decide (xs = ys) = false := by
  simp only [decide_eq_false_iff_not]
  rintro rfl
  exact e rfl

set_option maxHeartbeats 400000 in
theorem sameInts {w : World} {u v : Value} {xs ys : List Int} (h : Ints w u xs) (h' : Ints w v ys) :
    Calls Try.prog 8 #[u, v] w fun e w' => e = .returned (.bool (decide (xs = ys))) ∧ Below w.heap.size w w' := by
  obtain ⟨a, cap, rfl, hl, hc⟩ := h
  obtain ⟨a', cap', rfl, hl2, hc'⟩ := h'
  have hl' : (xs.length : Int) ≤ 1048576 := by omega
  by_cases hlen : xs.length = ys.length
  · rcases hc with rfl | ⟨b, o, rfl, hb, hcell⟩
    · have hy : ys = [] := by cases ys <;> simp_all
      subst hy
      go_enter Try.func8, Try.ntmps8
      go_wp2_with fail
      refine wp_loop_rounds 1 ?_
      rw [rounds_succ]
      go_wp2_with fail
      go_ret
      exact ⟨rfl, Below.refl _ _⟩
    · rcases hc' with rfl | ⟨b', o', rfl, hb', hcell'⟩
      · have hx : xs = [] := by cases xs <;> simp_all
        subst hx
        go_enter Try.func8, Try.ntmps8
        go_wp2_with fail
        refine wp_loop_rounds 1 ?_
        rw [rounds_succ]
        go_wp2_with fail
        go_ret
        exact ⟨rfl, Below.refl _ _⟩
      · rw [← hlen] at hcell' ⊢
        have HL := Lib.hid hlen
        have HC := Lib.hid hcell
        have HC' := Lib.hid hcell'
        clear hlen hcell hcell' hl2
        go_enter Try.func8, Try.ntmps8
        go_wp2_with fail
        go_loopw [5] (fun i wr => ∃ k : Nat, k ≤ xs.length ∧ i = .int .i64 k ∧ AgreeTo xs ys k ∧ Below w.heap.size w wr) (fun i _ => xs.length - (intOf i).toNat)
        case atStart => exact ⟨0, by omega, rfl, rfl, Below.refl _ _⟩
        case round =>
          obtain ⟨k, hk, rfl, hag, hbel⟩ := hrel
          by_cases hlt : k < xs.length
          · obtain ⟨x, hx⟩ : ∃ x, x = xs.getD k 0 := ⟨_, rfl⟩
            obtain ⟨y, hy⟩ : ∃ y, y = ys.getD k 0 := ⟨_, rfl⟩
            have hc1 : wr.cell? ⟨b, o + k, none⟩ = some (.int .i64 x) := by rw [hx]; exact (hbel.cell (p := ⟨b, o + k, none⟩) hb).trans (HC.out k hlt)
            have hc2 : wr.cell? ⟨b', o' + k, none⟩ = some (.int .i64 y) := by rw [hy]; exact (hbel.cell (p := ⟨b', o' + k, none⟩) hb').trans (HC'.out k hlt)
            have hi : (k : Int) < (xs.length : Int) := by omega
            have HX := Lib.hid hx
            have HY := Lib.hid hy
            clear hx hy
            by_cases e : x = y
            · subst e
              go_wp2_with fail
              go_quiet (fail)
              go_wp2_with fail
              go_roundw
              case rel => exact ⟨k + 1, by omega, by go_num, hag.succ hlt (by rw [← HL.out]; exact hlt) (HX.out.symm.trans HY.out), below_drewN hbel _⟩
              case measure => simp [intOf]; omega
            · have en : (x != y) = true := by simpa using e
              have HN := Lib.hid (differ hlt (by rw [← HL.out]; exact hlt) (by rw [← HX.out, ← HY.out]; exact e))
              clear e
              go_wp2_with fail
              go_quiet (fail)
              go_wp2_with fail
              go_ret
              exact ⟨ret_bool HN.out.symm, below_drewN hbel _⟩
          · obtain rfl : k = xs.length := by omega
            have HE := Lib.hid (show decide (xs = ys) = true by
              unfold AgreeTo at hag
              rw [List.take_length, HL.out, List.take_length] at hag
              simp [hag])
            clear hag
            go_wp2_with fail
            go_ret
            exact ⟨ret_bool HE.out.symm, hbel⟩
  · have en : ((xs.length : Int) != (ys.length : Int)) = true := by simp; omega
    have HN := Lib.hid (show decide (xs = ys) = false by simp only [decide_eq_false_iff_not]; rintro rfl; exact hlen rfl)
    clear hlen
    go_enter Try.func8, Try.ntmps8
    go_wp2_with fail
    go_ret
    exact ⟨ret_bool HN.out.symm, Below.refl _ _⟩

theorem take_has {xs : List Int} {k : Nat} (hk : k < xs.length) {n : Int} (h : n ∉ xs.take k) (hn : xs.getD k 0 ≠ n) : n ∉ xs.take (k + 1) := by
  intro q
  rw [List.take_add_one, List.getElem?_eq_getElem hk] at q
  rcases List.mem_append.1 q with q | q
  · exact h q
  · simp only [Option.toList_some, List.mem_singleton] at q
    rw [List.getD_eq_getElem?_getD, List.getElem?_eq_getElem hk] at hn
    exact hn q.symm

set_option maxHeartbeats 1000000 in
theorem hasInt {w : World} {v : Value} {xs : List Int} (h : Ints w v xs) (n : Int) :
    Calls Try.prog 10 #[v, .int .i64 n] w fun e w' => e = .returned (.bool (decide (n ∈ xs))) ∧ Below w.heap.size w w' := by
  obtain ⟨a, cap, rfl, hl, hc⟩ := h
  have hl' : (xs.length : Int) ≤ 1048576 := by omega
  have HC := Lib.hid hc
  clear hc
  obtain ⟨t, ht⟩ : ∃ t, t = decide (n ∈ xs) := ⟨_, rfl⟩
  rw [← ht]
  have HT := Lib.hid ht
  clear ht
  go_enter Try.func10, Try.ntmps10
  go_wp2_with fail
  go_loopw [5] (fun i wr => ∃ k : Nat, k ≤ xs.length ∧ i = .int .i64 k ∧ n ∉ xs.take k ∧ Below w.heap.size w wr) (fun i _ => xs.length - (intOf i).toNat)
  case atStart => exact ⟨0, by omega, rfl, by simp, Below.refl _ _⟩
  case round =>
    obtain ⟨k, hk, rfl, hno, hbel⟩ := hrel
    have NO := Lib.hid hno
    have BB := Lib.hid hbel
    clear hno hbel
    by_cases hlt : k < xs.length
    · have hki : (k : Int) < (xs.length : Int) := by omega
      rcases HC.out with e | ⟨b, o, rfl, hb, hcell⟩
      · rw [e] at hlt; simp at hlt
      have hx := (BB.out.cell (p := ⟨b, o + k, none⟩) hb).trans (hcell k hlt)
      obtain ⟨x, hxe⟩ : ∃ x, x = xs.getD k 0 := ⟨_, rfl⟩
      rw [← hxe] at hx
      have HX := Lib.hid hxe
      clear hcell hxe HC
      by_cases e : x = n
      · have hm : n ∈ xs := by
          have q := HX.out
          rw [List.getD_eq_getElem?_getD, List.getElem?_eq_getElem hlt] at q
          rw [← e, q]
          exact List.getElem_mem hlt
        have HD := Lib.hid (HT.out.trans (decide_eq_true hm))
        have he : (x == n) = true := by rw [e]; simp
        clear hm e
        go_wp2_with fail
        go_ret
        exact ⟨ret_bool HD.out.symm, BB.out⟩
      · have he : (x == n) = false := by simpa using e
        have HN := Lib.hid (take_has hlt NO.out (by rw [← HX.out]; exact e))
        go_wp2_with fail
        go_roundw
        case rel => exact ⟨k + 1, by omega, by go_num, HN.out, BB.out⟩
        case measure => simp [intOf]; omega
    · obtain rfl : k = xs.length := by omega
      have hd : decide (n ∈ xs) = false := decide_eq_false (by have := NO.out; rwa [List.take_length] at this)
      have HD := Lib.hid (HT.out.trans hd)
      clear hd
      go_wp2_with fail
      go_ret
      exact ⟨ret_bool HD.out.symm, BB.out⟩



theorem slk_le {ms ns : List Mv} {sl : Int} (h : (offO ms ns sl).isSome = true) : ∃ s, slkO ms ns = some s ∧ s ≤ sl := by
  obtain ⟨o, ho⟩ := Option.isSome_iff_exists.1 h
  obtain ⟨-, ⟨h0, h5⟩, -⟩ := offO_is ho
  cases e : (List.range 6).find? (fun (k : Nat) => (offO ms ns (k : Int)).isSome) with
  | none =>
    have := List.find?_eq_none.1 e sl.toNat (List.mem_range.2 (by omega))
    rw [show ((sl.toNat : Nat) : Int) = sl by omega] at this
    exact absurd h this
  | some k =>
    refine ⟨(k : Int), by unfold slkO; rw [e]; rfl, ?_⟩
    rw [List.find?_range_eq_some] at e
    obtain ⟨-, -, e3⟩ := e
    rcases Int.lt_or_le sl k with c | c
    · have := e3 sl.toNat (by omega)
      rw [show ((sl.toNat : Nat) : Int) = sl by omega, h] at this
      cases this
    · exact c
theorem mis_each {ms ns : List Mv} {sl : Int} : ∀ n x, x ∈ misTo ms ns sl n → ∃ k : Nat, x = k ∧ k < n ∧ (offO (ms.eraseIdx k) ns sl).isSome = true
  | 0, x, h => by cases h
  | n + 1, x, h => by
    cases e : (offO (ms.eraseIdx n) ns sl).isSome
    · rw [misTo_no e] at h
      obtain ⟨k, a, b, c⟩ := mis_each n x h
      exact ⟨k, a, by omega, c⟩
    · rw [misTo_yes e, List.mem_append] at h
      rcases h with h | h
      · obtain ⟨k, a, b, c⟩ := mis_each n x h
        exact ⟨k, a, by omega, c⟩
      · exact ⟨n, List.mem_singleton.1 h, by omega, e⟩
theorem mis_has {ms ns : List Mv} {sl : Int} {k : Nat} (h : (offO (ms.eraseIdx k) ns sl).isSome = true) : ∀ n, k < n → (k : Int) ∈ misTo ms ns sl n
  | 0, q => absurd q (by omega)
  | n + 1, q => by
    rcases Nat.lt_or_ge k n with c | c
    · have := mis_has h n c
      cases e : (offO (ms.eraseIdx n) ns sl).isSome
      · rw [misTo_no e]; exact this
      · rw [misTo_yes e]; exact List.mem_append_left _ this
    · obtain rfl : k = n := by omega
      rw [misTo_yes h]
      exact List.mem_append_right _ (List.mem_singleton.2 rfl)
theorem mis_up {ms ns : List Mv} {sl : Int} : ∀ n, List.Pairwise (· < ·) (misTo ms ns sl n)
  | 0 => List.Pairwise.nil
  | n + 1 => by
    cases e : (offO (ms.eraseIdx n) ns sl).isSome
    · rw [misTo_no e]; exact mis_up n
    · rw [misTo_yes e, List.pairwise_append]
      refine ⟨mis_up n, List.pairwise_singleton _ _, fun x hx y hy => ?_⟩
      obtain ⟨k, a, b, -⟩ := mis_each n x hx
      rw [List.mem_singleton.1 hy, a]
      omega
/-- What holds of the missing notes. -/
theorem mis_facts {ms ns : List Mv} {sl : Int} (h : misL ms ns sl ≠ []) : regB ms = true ∧ ms.length = ns.length + 1 ∧
    (∀ i, i < (misL ms ns sl).length → ∃ k : Nat, (misL ms ns sl).getD i 0 = k ∧ k < ms.length ∧ (∃ s, slkO (ms.eraseIdx k) ns = some s ∧ s ≤ sl) ∧ (k : Int) ∈ misL ms (ms.eraseIdx k) 0) ∧
    (∀ i, 0 < i → i < (misL ms ns sl).length → (misL ms ns sl).getD (i - 1) 0 < (misL ms ns sl).getD i 0) := by
  have hr : regB ms = true := by
    cases e : regB ms
    · exact absurd (by unfold misL; rw [if_neg (by simp [e])]) h
    · rfl
  have e : ∀ ls s, misL ms ls s = misTo ms ls s ms.length := fun ls s => by unfold misL; rw [if_pos hr]
  rw [e ns sl] at h ⊢
  have one : ∀ i, i < (misTo ms ns sl ms.length).length → ∃ k : Nat, (misTo ms ns sl ms.length).getD i 0 = k ∧ k < ms.length ∧ (offO (ms.eraseIdx k) ns sl).isSome = true := fun i hi =>
    mis_each _ _ (by rw [List.getD_eq_getElem?_getD, List.getElem?_eq_getElem hi]; exact List.getElem_mem hi)
  refine ⟨hr, ?_, fun i hi => ?_, fun i h0 hi => ?_⟩
  · obtain ⟨k, -, hk, hs⟩ := one 0 (List.length_pos_iff.2 h)
    obtain ⟨o, ho⟩ := Option.isSome_iff_exists.1 hs
    obtain ⟨⟨a, b, c⟩, -⟩ := offO_is ho
    have := text_length a b c
    rw [List.length_eraseIdx, if_pos hk] at this
    omega
  · obtain ⟨k, q, hk, hs⟩ := one i hi
    refine ⟨k, q, hk, slk_le hs, ?_⟩
    obtain ⟨o, ho⟩ := Option.isSome_iff_exists.1 hs
    obtain ⟨⟨a, -, -⟩, -⟩ := offO_is ho
    rw [e]
    exact mis_has (by rw [(offO_self a (Int.le_refl 0) (by omega)).1]; rfl) _ hk
  · have := List.pairwise_iff_getElem.1 (mis_up (ms := ms) (ns := ns) (sl := sl) ms.length) (i - 1) i (by omega) hi (by omega)
    simp only [List.getD_eq_getElem?_getD]
    rw [List.getElem?_eq_getElem (by omega), List.getElem?_eq_getElem hi]
    exact this

/-- Two drawn lists of notes and a slack from -1 to 6. -/
def TwoNotesM (w : World) (e : Ending) (w' : World) : Prop :=
  ∃ (u v : Value) (ms ns : List Mv) (sl : Int), e = .returned (.tuple #[u, v, .int .i64 sl]) ∧ Mvs w' u ms ∧ Mvs w' v ns ∧ ms.length ≤ 33 ∧ ns.length ≤ 33 ∧ -1 ≤ sl ∧ sl ≤ 6 ∧ Below w.heap.size w w'

set_option maxHeartbeats 1000000 in
theorem drawMissing {w : World} {a : Option Addr} {len cap : Nat} {zs : List Int} (h : IsRowK .u8 w a len cap zs) (hl : len ≤ 1048576) :
    Calls Try.prog 5 #[.slice a len cap] w (TwoNotesM w) := by
  go_enter Try.func5, Try.ntmps5
  go_wp2_with (go_at_call 19; refine (openRd h hl).mono ?_)
  rintro e w1 ⟨g, rfl, hg, hr, b1⟩
  go_wp2_with (go_at_call 20; refine (drawBoth hr (by omega)).mono ?_)
  rintro e w2 ⟨u, v, ms, ns, q, rfl, ou, ov, hm, hn, hr2, hq, g2⟩
  have B2 := Lib.hid (below_gr b1 hg g2)
  have OU := Lib.hid (fun (X : World) (k : w2.grownBy X (some g)) (q : g < w1.heap.size) => own_pickN ou k q)
  have OV := Lib.hid (fun (X : World) (k : w2.grownBy X (some g)) (q : g < w1.heap.size) => own_pickN ov k q)
  have HGW := Lib.hid hr.lt
  have W1 := Lib.hid g2.size
  have R2 := Lib.hid hr2
  clear ou ov hr g2 b1 h hr2
  go_wp2_with fail
  refine (pick (n := 7) R2.out (by omega) (by omega) (by omega)).mono ?_
  rintro e w3 ⟨r, rfl, hr0, hr1, hr3, g3⟩
  have hrb := hr1 (by omega)
  have R3 := Lib.hid hr3
  have M1 := Lib.hid (fun (X : World) (k : w3.grownBy X (some g)) => own_pickN (OU.out _ g3 HGW.out) k HGW.out)
  have M2 := Lib.hid (fun (X : World) (k : w3.grownBy X (some g)) => own_pickN (OV.out _ g3 HGW.out) k HGW.out)
  have B3 := Lib.hid (below_gr B2.out hg g3)
  clear hr1 hr3 g3 R2
  go_wp2_with fail
  refine (pick (n := 8) R3.out (by omega) (by omega) (by omega)).mono ?_
  rintro e w4 ⟨t, rfl, ht0, ht1, hr4, g4⟩
  have htb := ht1 (by omega)
  have N1 := Lib.hid (OwnN.nts (M1.out _ g4) (by omega))
  have N2 := Lib.hid (OwnN.nts (M2.out _ g4) (by omega))
  have B4 := Lib.hid (below_gr B3.out hg g4)
  clear ht1 hr4 g4 R3
  obtain ⟨y, hy, hy0, hy1⟩ : ∃ y : Int, t.tdiv 7 = y ∧ 0 ≤ y ∧ y ≤ 1 := ⟨_, rfl, by
    rw [Int.tdiv_eq_ediv_of_nonneg ht0]; omega, by rw [Int.tdiv_eq_ediv_of_nonneg ht0]; omega⟩
  have hw0 : IntKind.i64.wrap y = y := IntWalk.i64_in _ (by omega)
  have hw0' : wrap64 y = y := IntWalk.wrap64_in _ (by omega)
  have hw1 : IntKind.i64.wrap (r - y) = r - y := IntWalk.i64_in _ (by omega)
  have hw2 : wrap64 (r - y) = r - y := IntWalk.wrap64_in _ (by omega)
  go_wp2_with fail
  refine bodyPost_ret (v := .tuple #[u, v, .int .i64 (r - y)]) (by simp [results, Try.results5, go_sem]) rfl ⟨u, v, ms, ns, r - y, rfl, N1.out, N2.out, hm, hn, by omega, by omega, B4.out⟩

theorem step_append_own_atG {P : Program} {ops : Array Oper} {o : Oper} {a : Act} {w : World} {K : Act → World → Prop} {Q : Exit → Act → World → Prop} {E : Prop} (hw : Region.wanted o (yielded ops a.tmps) = true) (s x : Operand) (t : TypeId)
    (ho : o.op = .call { callee := .builtin .append, args := #[s, x], argTypes := #[t, t] })
    (base : Nat) (e : TypeId) (i : TypeInfo) (z : Value) (size bytes : Nat) (ht : P.underlying t = some (.slice e)) (hi : P.info? e = some i) (hz : i.zero = some z)
    (hsize : i.size = size) (hby : i.bytes = bytes) (hzs : z.cells.size = size) (hsz : 0 < size)
    (v : Value) (n : Nat) (xs : List Value) (hs : a.eval s = v) (hown : w.ownsRow base e size v n xs)
    (ad : Addr) (m c : Nat) (news : List Value) (hx : a.eval x = .slice (some ad) m c) (hl : news.length = m * size) (hnews : ∀ j u, news[j]? = some u → w.cell? (ad.add j) = some u) (h1 : ∀ u ∈ news, u.oneCell' = true)
    (h63 : n + m ≤ maxLen) (hbytes : (n + m) * bytes ≤ 140737488355328) (hbase : base ≤ w.heap.size)
    (h : ∀ v' w', w'.ownsRow base e size v' (n + m) (xs ++ news) → w.grownBy w' v.ownBlock → (v'.ownBlock = v.ownBlock ∨ v'.ownBlock = some w.heap.size) → K (a.put o.dst v') w') :
    if Region.wanted o (yielded ops a.tmps) = true then Oper.wp P o a w K Q else E := by
  rw [if_pos hw]
  obtain ⟨v', w', hr, h2, h3, h4, h5⟩ := run_append_own_at (P := P) w base t o.type e i z size bytes ht hi hz hsize hby hzs hsz v n xs hown ad m c news hl hnews h1 h63 hbytes hbase
  unfold Oper.wp execOp
  simp only [ho, resolve, invoke, builtin, Sem.run_bind, Sem.run_pure, Result.andThen_ok, List.map_toArray, List.map_cons, List.map_nil, hs, hx, hr]
  exact h v' w' h2 h3 h5

theorem elem_nts : Try.prog.elem 23 = 42 := by kernel_rfl
theorem size_nts (w : World) : (sizeOf 42).run Try.prog w = .ok 2 w := by kernel_rfl
theorem slice_head {b o n c k : Nat} (hk : k ≤ c) (W : World) : (Instr.slice 23 (.slice (some ⟨b, o, none⟩) n c) none (some (.int .i64 k)) none).run Try.prog W = .ok (.slice (some ⟨b, o, none⟩) k c) W := by
  have hu := Try.underlying23
  rw [run_slice_h (P := Try.prog) W 23 (some ⟨b, o, none⟩) n c (by rw [elem_nts]; exact hu) .i64 k (by omega) (by omega), elem_nts, size_nts]
  have e : sliced (some ⟨b, o, none⟩) 0 k c 2 = .slice (some ⟨b, o, none⟩) k c := by
    unfold sliced
    split <;> rfl
  exact Eq.trans (b := .ok (sliced (some ⟨b, o, none⟩) 0 k c 2) W) rfl (by rw [e])
theorem slice_tail {b o n c k : Nat} {ad : Addr} (had : (if c = k + 1 then some (⟨b, o, none⟩ : Addr) else some ⟨b, o + (k + 1) * 2, none⟩) = some ad) (hk : k + 1 ≤ n) (_hn : n ≤ c) (W : World) : (Instr.slice 23 (.slice (some ⟨b, o, none⟩) n c) (some (.int .i64 ((k + 1 : Nat) : Int))) none none).run Try.prog W = .ok (.slice (some ad) (n - (k + 1)) (c - (k + 1))) W := by
  have hu := Try.underlying23
  rw [run_slice_l (P := Try.prog) W 23 (some ⟨b, o, none⟩) n c (by rw [elem_nts]; exact hu) .i64 ((k + 1 : Nat) : Int) (by omega) (by omega), elem_nts, size_nts]
  have e : sliced (some ⟨b, o, none⟩) (k + 1) n c 2 = .slice (some ad) (n - (k + 1)) (c - (k + 1)) := by
    unfold sliced
    rw [← had]
    rfl
  exact Eq.trans (b := .ok (sliced (some ⟨b, o, none⟩) (k + 1) n c 2) W) rfl (by rw [e])

set_option maxRecDepth 100000 in
set_option maxHeartbeats 8000000 in
theorem walk_FnMissing (a0 : Option Addr) (len0 cap0 : Nat) (z0 : List Int) (w : World) (w0 : IsRowK .u8 w a0 len0 cap0 z0) :
    Calls Try.prog 3 #[.slice a0 len0 cap0] w fun e w' => e = .returned (.bool true) ∧ Below w.heap.size w w' := by
  rcases Nat.lt_or_ge 1048576 len0 with hbig | hsm
  · have hb : (1048576 : Int) < (len0 : Int) := by omega
    go_enter Try.func3, Try.ntmps3
    go_wp2_with fail
    go_ret
    exact ⟨rfl, Below.refl _ _⟩
  have hb : (len0 : Int) ≤ 1048576 := by omega
  have DN := Lib.hid (drawMissing w0 hsm)
  clear w0
  obtain ⟨j0, hj, hy0, hy1, hy2⟩ := info_parts info_note
  go_enter Try.func3, Try.ntmps3
  go_upto_region 4 with (go_at_call 5; refine DN.out.mono ?_; rintro e u1 ⟨u, v, ms, ns, sl, rfl, m1, m2, hm, hn, hs0, hs1, b1⟩)
  have M := Lib.hid (fun (X : World) (c : Below u1.heap.size u1 X) => (Rd.below m1 c : Mvs X u ms))
  have N := Lib.hid (fun (X : World) (c : Below u1.heap.size u1 X) => (Rd.below m2 c : Mvs X v ns))
  have C1 := Lib.hid b1
  have U0 := Lib.hid (below_self u1)
  clear m1 m2 b1 DN
  have TI := Lib.hid (fun (X : World) (c : Below u1.heap.size u1 X) => implRegisterMissing (M.out X c) (N.out X c) sl)
  have TS := Lib.hid (fun (X : World) (c : Below u1.heap.size u1 X) => specRegisterMissing (M.out X c) (N.out X c) sl)
  have FA := Lib.hid (fun (q : misL ms ns sl ≠ []) => mis_facts q)
  have XL : (misL ms ns sl).length ≤ 33 := by
    unfold misL; split
    · have := misTo_length ms ns sl ms.length; omega
    · exact Nat.zero_le _
  obtain ⟨xs, hxs⟩ : ∃ x, x = misL ms ns sl := ⟨_, rfl⟩
  rw [← hxs] at TI TS FA XL
  have HXL := Lib.hid XL
  have xli : (xs.length : Int) ≤ 33 := by omega
  clear hxs XL
  go_upto_region 5 with (go_at_call 6; refine (TI.out _ U0.out).mono ?_; rintro e u2 ⟨v2, rfl, o2, b2⟩)
  obtain ⟨a2, c2, rfl⟩ := own_slice2 o2
  have B2 := Lib.hid b2
  have O2 := Lib.hid (o2.ints (by have := HXL.out; omega))
  clear b2 o2
  go_upto_region 6 with (go_at_call 7; refine (TS.out _ B2.out).mono ?_; rintro e u3 ⟨v3, rfl, o3, b3⟩)
  have B3 := Lib.hid (B2.out.trans (b3.mono B2.out.size))
  have I3 := Lib.hid (O2.out.below b3)
  have SM := Lib.hid (fun (X : World) (c : Below u3.heap.size u3 X) => by
    have q := sameInts (I3.out.below c) ((o3.below c).ints (by have := HXL.out; omega))
    rw [decide_eq_true rfl] at q
    exact q)
  clear b3 o3
  rcases Nat.eq_zero_or_pos xs.length with h0 | h0
  · have t0 : ((xs.length : Int) == 0) = true := by rw [h0]; rfl
    clear h0
    go_wp2_with (first
      | (go_at_call 8; refine (SM.out _ (below_self _)).mono ?_; rintro e u4 ⟨rfl, b4⟩; clear TI)
      | (go_at_call 8; refine (SM.out _ b4).mono ?_; rintro e u5 ⟨rfl, b5⟩))
    go_ret
    exact ⟨rfl, C1.out.trans ((B3.out.trans ((b4.trans (b5.mono b4.size)).mono B3.out.size)).mono C1.out.size)⟩
  have t0 : ((xs.length : Int) == 0) = false := beq_eq_false_iff_ne.2 (by omega)
  have hne : xs ≠ [] := by intro q; rw [q] at h0; simp at h0
  obtain ⟨F1, F2, F3, F4⟩ := FA.out hne
  have HF3 := Lib.hid F3
  have HF4 := Lib.hid F4
  have HF2 := Lib.hid F2
  have H0 := Lib.hid h0
  have h30 := Lib.hid hm
  obtain ⟨au, cu, hu⟩ : ∃ a c, u = .slice a ms.length c := by obtain ⟨a, c, e, -⟩ := M.out _ U0.out; exact ⟨a, c, e⟩
  subst hu
  have hcap : ms.length ≤ cu := by
    obtain ⟨a', c', e, ⟨_, l2⟩, _⟩ := M.out _ U0.out
    simp only [Value.slice.injEq] at e
    obtain ⟨_, _, rfl⟩ := e
    exact l2
  have HCAP := Lib.hid hcap
  clear F1 F2 F3 F4 hne h0 FA hm hcap hs0 hs1
  go_upto_region 8 with (go_at_call 8; refine (SM.out _ (below_self _)).mono ?_; rintro e u4 ⟨rfl, b4⟩)
  have B4 := Lib.hid (B3.out.trans (b4.mono B3.out.size))
  have I4 := Lib.hid (I3.out.below b4)
  have W4 := Lib.hid (below_self u4)
  clear b4 SM t0 TI TS hn
  go_wp2_with fail
  go_loopw [8] (fun i wr => ∃ k : Nat, k ≤ xs.length ∧ i = .int .i64 k ∧ Hid (Below u4.heap.size u4 wr)) (fun i _ => xs.length - (intOf i).toNat)
  case atStart => exact ⟨0, by omega, rfl, W4⟩
  case round =>
    obtain ⟨i, hk, rfl, HB⟩ := hrel
    by_cases hlt : i < xs.length
    · have hki : (i : Int) < (xs.length : Int) := by omega
      obtain ⟨_, _, e6, -, hc⟩ := id I4.out
      simp only [Value.slice.injEq, true_and] at e6
      obtain ⟨rfl, rfl⟩ := e6
      rcases hc with hc | ⟨bo, oo, rfl, hbb, hcell⟩
      · rw [hc] at hlt; simp at hlt
      have BW := Lib.hid (B4.out.trans (HB.out.mono B4.out.size))
      have c1 := (HB.out.cell (p := ⟨bo, oo + i, none⟩) hbb).trans (hcell i hlt)
      obtain ⟨k, ek, hkm, ⟨s, hs, hss⟩, -⟩ := HF3.out i hlt
      rw [ek] at c1
      have CC := Lib.hid (fun (X : World) (c : Below wr.heap.size wr X) => show X.cell? ⟨bo, oo + i, none⟩ = some (.int .i64 k) from ((HB.out.trans (c.mono HB.out.size)).cell (p := ⟨bo, oo + i, none⟩) hbb).trans ((hcell i hlt).trans (by rw [ek])))
      obtain ⟨b, o, rfl, -⟩ := Mvs.at (M.out _ BW.out) hkm
      have hkmi : (k : Int) < (ms.length : Int) := by omega
      have hcap := HCAP.out
      have hkc : (k : Int) ≤ (cu : Int) := by omega
      have hkc2 : k ≤ cu := by omega
      have hk1l : ((k + 1 : Nat) : Int) ≤ (ms.length : Int) := by omega
      have hk1c : ((k + 1 : Nat) : Int) ≤ (cu : Int) := by omega
      have hlc : (ms.length : Int) ≤ (cu : Int) := by omega
      have HOD := Lib.hid (show ((wr.alloc (.cells #[] 42)).drew).ownsRow wr.heap.size 42 2 (.slice (some ⟨wr.heap.size, 0, none⟩) 0 0) 0 [] from (World.ownsRow_lit wr #[] 0 (Nat.le_refl _) (by simp [maxLen]) (by simp)).drew)
      have BD := Lib.hid (show Below wr.heap.size wr (wr.alloc (.cells #[] 42)).drew from (below_alloc wr _).drew)
      have SZ := Lib.hid (show wr.heap.size ≤ ((wr.alloc (.cells #[] 42)).drew).heap.size from (below_alloc wr (.cells #[] 42)).size)
      have N1 := Lib.hid (take_newsN (M.out _ BW.out) BD.out (show k ≤ ms.length by omega))
      obtain ⟨ad, had⟩ : ∃ ad, (if cu = k + 1 then some (⟨b, o, none⟩ : Addr) else some ⟨b, o + (k + 1) * 2, none⟩) = some ad := by
        split <;> exact ⟨_, rfl⟩
      have N2 := Lib.hid (fun (X : World) (hX : Below wr.heap.size wr X) => drop_newsN (M.out _ BW.out) hX (show k + 1 ≤ ms.length by omega) had)
      have hq0 : 0 ≤ (k : Int) + 1 := by omega
      have hq1 : (k : Int) + 1 ≤ (ms.length : Int) := by omega
      have hw1 : IntKind.i64.wrap ((k : Int) + 1) = ((k + 1 : Nat) : Int) := by rw [IntWalk.i64_in _ (by have := h30.out; omega)]; rfl
      have hw2 : wrap64 ((k : Int) + 1) = ((k + 1 : Nat) : Int) := (IntWalk.i64_left _).symm.trans hw1
      have LM := Lib.hid (And.intro hkm h30.out)
      have HSS := Lib.hid hss
      have HEK := Lib.hid ek
      have HKM := Lib.hid hkm
      have HLT := Lib.hid hlt
      have KS := Lib.hid (fun (X : World) (c : Below u1.heap.size u1 X) (p : Value) (i : Mvs X p (ms.eraseIdx k)) => show Calls Try.prog 9 #[p, v] X fun e w' => e = .returned (.tuple #[.int .i64 s, .bool true]) ∧ Below X.heap.size X w' from by
        have q := implRegisterSlack i (N.out X c)
        rw [hs] at q
        exact q)
      have HCELL := Lib.hid (And.intro hbb hcell)
      have cD := CC.out _ BD.out
      clear hcell hbb ek hss hcap hkm hlt hk hs
      go_upto_region 11 with fail
      go_cut [9] (fun v wx => OwnN wx wr.heap.size v (ms.eraseIdx k) ∧ Below wr.heap.size wr wx)
      case first =>
        go_region_law (first
          | (refine step_append_own_at rfl (.tmp 47) (.tmp 53) 23 rfl wr.heap.size 42 j0 (.agg #[.int .i64 0, .string ⟨#[]⟩]) 2 24 Try.underlying23 hj hy0 hy1 hy2 rfl (by decide) (.slice (some ⟨wr.heap.size, 0, none⟩) 0 0) 0 [] (by simp [Act.eval, Act.put]) HOD.out ⟨b, o, none⟩ k cu ((List.range (k * 2)).map (mvF ms)) (by simp [Act.eval, Act.put]) (by simp) N1.out (mvF_oneCell _ _) (by have := LM.out; simp only [maxLen]; omega) (by have := LM.out; omega) SZ.out ?_; intro v2 w9 hown2 hgrow2 hat2; obtain ⟨bb, cc, rfl, hbb⟩ := own_at hown2 hat2; have HO2 := Lib.hid hown2; have HG2 := Lib.hid hgrow2; have HBB := Lib.hid hbb; clear hbb hat2; have BE := Lib.hid (BD.out.grown HG2.out (BD.out.size) (fun c hc => by simp only [Value.ownBlock, Option.some.injEq] at hc; exact hc ▸ Nat.le_refl _)); have cE := CC.out _ BE.out)
          | (refine step_append_own_at rfl (.tmp 54) (.tmp 61) 23 rfl wr.heap.size 42 j0 (.agg #[.int .i64 0, .string ⟨#[]⟩]) 2 24 Try.underlying23 hj hy0 hy1 hy2 rfl (by decide) (.slice (some ⟨bb, 0, none⟩) (0 + k) cc) (0 + k) ([] ++ (List.range (k * 2)).map (mvF ms)) (by simp [Act.eval, Act.put]) HO2.out ad (ms.length - (k + 1)) (cu - (k + 1)) ((List.range ((ms.length - (k + 1)) * 2)).map (mvF (ms.drop (k + 1)))) (by simp [Act.eval, Act.put]) (by simp) (N2.out _ BE.out) (mvF_oneCell _ _) (by have := LM.out; simp only [maxLen]; omega) (by have := LM.out; omega) (Nat.le_trans SZ.out HG2.out.size) ?_; intro v3 w10 hown3 hgrow3 hat3))
        all_goals
          have hbb8 : wr.heap.size ≤ bb := HBB.out.elim (fun e => e ▸ Nat.le_refl _) (fun e => e ▸ BD.out.size)
          have BF := Lib.hid (BE.out.grown hgrow3 BE.out.size (fun c hc => by simp only [Value.ownBlock, Option.some.injEq] at hc; exact hc ▸ hbb8))
          have OF2 := Lib.hid (but_own LM.out.1 rfl hown3)
          clear hw1 hw2 had hq0 hq1 hk1l hk1c hlc hkc hgrow3 hown3 hat3
          go_wp2_with fail
          go_meet
          exact ⟨OF2.out, BF.out⟩
      case rest =>
      obtain ⟨hown, hbel⟩ := hcut
      rename World => w7
      have D7 := Lib.hid hbel
      have hel : (ms.eraseIdx k).length ≤ 1048576 := by have := h30.out; rw [List.length_eraseIdx]; split <;> omega
      have OF3 := Lib.hid (KS.out _ (BW.out.trans (hbel.mono BW.out.size)) _ (OwnN.nts hown hel))
      obtain ⟨ab, cb, rfl⟩ := Ow.slice hown
      have hlt := HLT.out
      clear hown hbel hw1 hw2 had hq0 hq1 hk1l hk1c hlc hkc hkc2 hel cD c1 KS
      go_upto_region 13 with (go_at_call 9; refine OF3.out.mono ?_; rintro e w8 ⟨rfl, b8⟩)
      have D8 := Lib.hid (D7.out.trans (b8.mono D7.out.size))
      have cA := CC.out _ D8.out
      have E1 := fun d os => cell_regrown cA d os
      have hss := HSS.out
      have t1 : decide (sl < s) = false := decide_eq_false (by omega)
      clear b8 OF3 cA D7 hss
      rcases Nat.eq_zero_or_pos i with hz | hz
      · subst hz
        have t3 : decide ((0 : Int) < ((0 : Nat) : Int)) = false := rfl
        refine wp_region_quiet_below (by kernel_rfl) (by kernel_rfl) ?_
        repeat (go_big_quiet_step (skip))
        refine wpQuiet_nil ?_
        intro _ hw'
        obtain ⟨⟨dq, osq⟩, hw''⟩ := hw'
        subst hw''
        have BR := Lib.hid (below_regrown w8 dq osq)
        have HB2 := Lib.hid (HB.out.trans ((D8.out.trans (BR.out.mono D8.out.size)).mono HB.out.size))
        clear E1
        go_wp2_with fail
        go_roundw
        case rel => exact ⟨0 + 1, hlt, by go_num, HB2⟩
        case measure => simp [intOf]; omega
      · have up := HF4.out i hz hlt
        rw [HEK.out] at up
        have cB := ((HB.out.trans (D8.out.mono HB.out.size)).cell (p := ⟨bo, oo + (i - 1), none⟩) HCELL.out.1).trans (HCELL.out.2 (i - 1) (by omega))
        obtain ⟨y, hy⟩ : ∃ x, x = xs.getD (i - 1) 0 := ⟨_, rfl⟩
        rw [← hy] at cB up
        have E2 := fun d os => cell_regrown cB d os
        have t2 : decide ((k : Int) ≤ y) = false := decide_eq_false (by omega)
        have t3 : decide ((0 : Int) < (i : Int)) = true := decide_eq_true (by omega)
        have hw1 : IntKind.i64.wrap ((i : Int) - 1) = ((i - 1 : Nat) : Int) := by rw [IntWalk.i64_in _ (by have := HXL.out; omega)]; omega
        have hi1 : i - 1 < xs.length := by omega
        have hi2 : ((i - 1 : Nat) : Int) < (xs.length : Int) := by omega
        clear cB hy up
        refine wp_region_quiet_below (by kernel_rfl) (by kernel_rfl) ?_
        repeat (go_big_quiet_step (skip))
        refine wpQuiet_nil ?_
        intro _ hw'
        obtain ⟨⟨dq, osq⟩, hw''⟩ := hw'
        subst hw''
        have BR := Lib.hid (below_regrown w8 dq osq)
        have HB2 := Lib.hid (HB.out.trans ((D8.out.trans (BR.out.mono D8.out.size)).mono HB.out.size))
        clear E1 E2 hw1 hi1 hi2
        go_wp2_with fail
        go_roundw
        case rel => exact ⟨i + 1, hlt, by go_num, HB2⟩
        case measure => simp [intOf]; omega
    · obtain rfl : i = xs.length := by omega
      have hff : decide ((xs.length : Int) < (xs.length : Int)) = false := decide_eq_false (by omega)
      have h0 := H0.out
      obtain ⟨_, _, e6, -, hc⟩ := id I4.out
      simp only [Value.slice.injEq, true_and] at e6
      obtain ⟨rfl, rfl⟩ := e6
      rcases hc with hc | ⟨bo, oo, rfl, hbb, hcell⟩
      · rw [hc] at h0; simp at h0
      have BW := Lib.hid (B4.out.trans (HB.out.mono B4.out.size))
      obtain ⟨k, ek, hkm, -, hin⟩ := HF3.out 0 h0
      have CC := Lib.hid (fun (X : World) (c : Below wr.heap.size wr X) => show X.cell? ⟨bo, oo, none⟩ = some (.int .i64 k) from ((HB.out.trans (c.mono HB.out.size)).cell (p := ⟨bo, oo, none⟩) hbb).trans ((hcell 0 h0).trans (by rw [ek])))
      obtain ⟨b, o, rfl, -⟩ := Mvs.at (M.out _ BW.out) hkm
      have hkmi : (k : Int) < (ms.length : Int) := by omega
      have hcap := HCAP.out
      have hkc : (k : Int) ≤ (cu : Int) := by omega
      have hkc2 : k ≤ cu := by omega
      have hk1l : ((k + 1 : Nat) : Int) ≤ (ms.length : Int) := by omega
      have hk1c : ((k + 1 : Nat) : Int) ≤ (cu : Int) := by omega
      have hlc : (ms.length : Int) ≤ (cu : Int) := by omega
      have HOD := Lib.hid (show ((wr.alloc (.cells #[] 42)).drew).ownsRow wr.heap.size 42 2 (.slice (some ⟨wr.heap.size, 0, none⟩) 0 0) 0 [] from (World.ownsRow_lit wr #[] 0 (Nat.le_refl _) (by simp [maxLen]) (by simp)).drew)
      have BD := Lib.hid (show Below wr.heap.size wr (wr.alloc (.cells #[] 42)).drew from (below_alloc wr _).drew)
      have SZ := Lib.hid (show wr.heap.size ≤ ((wr.alloc (.cells #[] 42)).drew).heap.size from (below_alloc wr (.cells #[] 42)).size)
      have N1 := Lib.hid (take_newsN (M.out _ BW.out) BD.out (show k ≤ ms.length by omega))
      obtain ⟨ad, had⟩ : ∃ ad, (if cu = k + 1 then some (⟨b, o, none⟩ : Addr) else some ⟨b, o + (k + 1) * 2, none⟩) = some ad := by
        split <;> exact ⟨_, rfl⟩
      have N2 := Lib.hid (fun (X : World) (hX : Below wr.heap.size wr X) => drop_newsN (M.out _ BW.out) hX (show k + 1 ≤ ms.length by omega) had)
      have hq0 : 0 ≤ (k : Int) + 1 := by omega
      have hq1 : (k : Int) + 1 ≤ (ms.length : Int) := by omega
      have hw1 : IntKind.i64.wrap ((k : Int) + 1) = ((k + 1 : Nat) : Int) := by rw [IntWalk.i64_in _ (by have := h30.out; omega)]; rfl
      have hw2 : wrap64 ((k : Int) + 1) = ((k + 1 : Nat) : Int) := (IntWalk.i64_left _).symm.trans hw1
      have f2 := HF2.out
      have hw3 : IntKind.i64.wrap ((ns.length : Int) + 1) = (ms.length : Int) := by rw [IntWalk.i64_in _ (by have := h30.out; omega)]; omega
      have te : ((ms.length : Int) == (ms.length : Int)) = true := by simp
      have LM := Lib.hid (And.intro hkm h30.out)
      have h0i : (0 : Int) < (xs.length : Int) := by omega
      obtain ⟨av, cv, hv⟩ : ∃ a c, v = .slice a ns.length c := by obtain ⟨a, c, e, -⟩ := N.out _ U0.out; exact ⟨a, c, e⟩
      subst hv
      have hel : (ms.eraseIdx k).length ≤ 1048576 := Nat.le_trans (List.eraseIdx_sublist ms k).length_le (Nat.le_trans h30.out (by decide))
      have KM := Lib.hid (fun (X : World) (c : Below wr.heap.size wr X) (p : Value) (i : OwnN X wr.heap.size p (ms.eraseIdx k)) => implRegisterMissing (M.out X (BW.out.trans (c.mono BW.out.size))) (OwnN.nts i hel) 0)
      have ML := Lib.hid (misL_len ms (ms.eraseIdx k) 0 (Nat.le_trans h30.out (by decide)))
      obtain ⟨ys, hys⟩ : ∃ x, x = misL ms (ms.eraseIdx k) 0 := ⟨_, rfl⟩
      rw [← hys] at KM hin ML
      have HI := Lib.hid (fun (X : World) (p : Value) (i : Ints X p ys) => show Calls Try.prog 10 #[p, .int .i64 k] X fun e w' => e = .returned (.bool true) ∧ Below X.heap.size X w' from by
        have q := hasInt i (k : Int)
        rw [decide_eq_true hin] at q
        exact q)
      have cD := CC.out _ BD.out
      clear hcell hbb ek hcap hkm hlt hk hys hin hel f2
      have SL1 : ∀ W : World, (Instr.slice 23 (.slice (some ⟨b, o, none⟩) ms.length cu) none (some (.int .i64 k)) none).run Try.prog W = .ok (.slice (some ⟨b, o, none⟩) k cu) W := fun W => slice_head hkc2 W
      have SL2 : ∀ W : World, (Instr.slice 23 (.slice (some ⟨b, o, none⟩) ms.length cu) (some (.int .i64 ((k + 1 : Nat) : Int))) none none).run Try.prog W = .ok (.slice (some ad) (ms.length - (k + 1)) (cu - (k + 1))) W := fun W => slice_tail had (by omega) HCAP.out W
      go_upto_region 15 with fail
      go_region_held3 (fun X => X.cell? ⟨bo, oo, none⟩ = some (.int .i64 k))
        (first | exact CC.out _ ((Below.refl wr.heap.size wr).drew) | with_reducible exact cD | with_reducible exact cE | with_reducible exact cF | with_reducible exact cH | with_reducible exact cG | exact CC.out _ BD.out)
        (first
          | (refine step_append_own_atG (by rfl) (.tmp 100) (.tmp 105) 23 rfl wr.heap.size 42 j0 (.agg #[.int .i64 0, .string ⟨#[]⟩]) 2 24 Try.underlying23 hj hy0 hy1 hy2 rfl (by decide) (.slice (some ⟨wr.heap.size, 0, none⟩) 0 0) 0 [] (by simp [Act.eval]) HOD.out ⟨b, o, none⟩ k cu ((List.range (k * 2)).map (mvF ms)) (by simp [Act.eval]) (by simp) N1.out (mvF_oneCell _ _) (by have := LM.out; simp only [maxLen]; omega) (by have := LM.out; omega) SZ.out ?_; intro v2 w9 hown2 hgrow2 hat2; obtain ⟨bb, cc, rfl, hbb⟩ := own_at hown2 hat2; have HO2 := Lib.hid hown2; have HG2 := Lib.hid hgrow2; have HBB := Lib.hid hbb; clear hbb hat2; have BE := Lib.hid (BD.out.grown HG2.out (BD.out.size) (fun c hc => by simp only [Value.ownBlock, Option.some.injEq] at hc; exact hc ▸ Nat.le_refl _)); have cE := CC.out _ BE.out)
          | (refine step_append_own_atG (by rfl) (.tmp 106) (.tmp 112) 23 rfl wr.heap.size 42 j0 (.agg #[.int .i64 0, .string ⟨#[]⟩]) 2 24 Try.underlying23 hj hy0 hy1 hy2 rfl (by decide) (.slice (some ⟨bb, 0, none⟩) (0 + k) cc) (0 + k) ([] ++ (List.range (k * 2)).map (mvF ms)) (by simp [Act.eval]) HO2.out ad (ms.length - (k + 1)) (cu - (k + 1)) ((List.range ((ms.length - (k + 1)) * 2)).map (mvF (ms.drop (k + 1)))) (by simp [Act.eval]) (by simp) (N2.out _ BE.out) (mvF_oneCell _ _) (by have := LM.out; simp only [maxLen]; omega) (by have := LM.out; omega) (Nat.le_trans SZ.out HG2.out.size) ?_; intro v3 w10 hown3 hgrow3 hat3; have hbb8 : wr.heap.size ≤ bb := HBB.out.elim (fun e => e ▸ Nat.le_refl _) (fun e => e ▸ BD.out.size); have BF := Lib.hid (BE.out.grown hgrow3 BE.out.size (fun c hc => by simp only [Value.ownBlock, Option.some.injEq] at hc; exact hc ▸ hbb8)); have OF2 := Lib.hid (but_own LM.out.1 rfl hown3); have cF := CC.out _ BF.out)
          | (go_at_call 6; refine (KM.out _ BF.out _ OF2.out).mono ?_; rintro e w11 ⟨v11, rfl, o11, b11⟩; have BG := Lib.hid (BF.out.trans (b11.mono BF.out.size)); have I11 := Lib.hid (o11.ints ML.out); have cG := CC.out _ BG.out; clear o11 b11)
          | (go_at_call 10; refine (HI.out _ _ I11.out).mono ?_; rintro e w12 ⟨rfl, b12⟩; have BH := Lib.hid (BG.out.trans (b12.mono BG.out.size)); have cH := CC.out _ BH.out)
          | fail)
      all_goals
        go_wp2_with fail
        go_ret
        exact ⟨rfl, C1.out.trans ((BW.out.trans (BH.out.mono BW.out.size)).mono C1.out.size)⟩

end Go.Proofs.Ytilkphehonilbaa

namespace Go.Proofs.Ytilkphehonilbaa.fnMissing
open Go.ChangeShapes Go.WideShapes Go.ChangeAt Go.RowKit
open Go.ChangeMaps (open_string shut_string)
set_option linter.unusedVariables false

theorem own : ownKnob Try.prog.godebug = none := by kernel_rfl
theorem laidOut : laidOutB Try.prog = true := by kernel_rfl

set_option maxRecDepth 100000 in
theorem lifted (os : Os) (started : os.Started) (H : Type) (enc : TypeId × Value → H) :
    ReturnsInHanded {} Try.checked os 3 .any (Rows.fnMissingSpec.pre6 enc Try.prog Try.f3 Rows.fnMissingRow.domain false) (Rows.fnMissingSpec.post enc Try.prog Try.f3 false true false false) := by
  refine returnsInHanded_of_change (C := Try.checked) own started (by kernel_rfl) Try.func3
    (ChangeSpec.witness6 (enc := enc) (C := Try.checked) false ⟨#[], #[.slice none 0 0], []⟩ 8 (by kernel_rfl) (by kernel_rfl) (by kernel_rfl) (by kernel_rfl)) ?_
  intro W base args ds gs before hval0 hW hcnd _
  have hval : ∀ (j : Nat) t v, Try.f3.params[j]? = some t → args[j]? = some v → Value.okWide Try.prog W .any base t v := hval0
  have hW' := hW
  obtain ⟨p, q, hA0, hV, rfl, hfz, hnd⟩ := hW
  have hA : DataW.TrodAll enc Try.prog W 0 (fun _ => true) true Try.f3.params.toList args.toList ds p := hA0
  rw [Try.params3] at hA hval
  obtain ⟨v0, vs0, d0, ds0, p0, q0, hargs, rfl, rfl, h0, r0⟩ := trodAll_cons hA
  obtain ⟨rfl, rfl, rfl⟩ := trodAll_nil r0
  obtain rfl : args = #[v0] := by cases args; simp_all
  obtain ⟨rfl, rfl⟩ := trodVars_none hV
  obtain ⟨a0, len0, cap0, rfl⟩ := okWide_slice Try.underlying22 (hval 0 22 v0 rfl rfl)
  have k0 := h0
  have lt0 : ∀ x ∈ p0, x.block < W.heap.size := by obtain ⟨m, hm⟩ := k0; exact DataW.trod_lt m _ _ _ hm
  obtain ⟨z0, w0⟩ : ∃ zs, IsRowK .u8 W a0 len0 cap0 zs := by
    obtain ⟨fuel, hf⟩ := h0
    rcases open_ints Try.underlying22 Try.underlying5 (by kernel_rfl) hf with ⟨hcs, _⟩ | ⟨x, l, c, zs, hcs, _, hl, hm, hz, _, hcell, hwz⟩
    · simp [Value.cells] at hcs
      obtain ⟨rfl, rfl, rfl⟩ := hcs
      exact ⟨[], .inl ⟨rfl, rfl, rfl, rfl⟩⟩
    · simp [Value.cells] at hcs
      obtain ⟨rfl, rfl, rfl⟩ := hcs
      exact ⟨zs, .inr ⟨_, rfl, hl, hm, by simpa using hz, hcell, hwz⟩⟩
  clear hA0 hval0
  refine (walk_FnMissing a0 len0 cap0 z0 W w0).mono fun e W' ⟨he, bel⟩ => ?_
  subst he
  exact ⟨_, rfl, _, _, _, [], _, [], hW', trodAll_mk1 (shut_bool Try.underlying4 _), (trodAll_cons_mk (Below.trod laidOut (by kernel_rfl) (of_decide_eq_true (by kernel_rfl)) k0 bel lt0) trodAll_mk0), rfl, bel.frame _, fun h => by cases h⟩

theorem closed : joinedFacts Try.checked.prog 3 Try.f3 Rows.fnMissingSpec Rows.fnMissingRow = true := by
  unfold joinedFacts
  simp only [Bool.and_eq_true]
  repeat' (refine And.intro ?_ ?_)
  all_goals first
    | with_reducible exact may_enter
    | (rw [lifts_final]; kernel_rfl)
    | (rw [make_is]; kernel_rfl)
    | kernel_rfl

theorem over : Rows.fnMissingRow.holds Try.pinned (OpenSpec.ofChange Rows.fnMissingSpec) :=
  OpenClaim.holds_of_wide 3 Try.f3 rfl rfl rfl rfl rfl rfl rfl ⟨rfl, rfl, rfl, rfl, rfl⟩ rfl rfl rfl rfl rfl (by kernel_rfl) Try.func3 closed
    (of_decide_eq_true (by kernel_rfl)) (by unfold Func.isWrapper; first | (rw [if_pos (by decide +kernel)]; kernel_rfl) | (rw [if_neg (by decide +kernel)]; exact ⟨rfl, rfl⟩))
    (fun os started H enc _ => lifted os started H enc)

theorem proved : Rows.FnMissingSaid := over
#print axioms proved
end Go.Proofs.Ytilkphehonilbaa.fnMissing
