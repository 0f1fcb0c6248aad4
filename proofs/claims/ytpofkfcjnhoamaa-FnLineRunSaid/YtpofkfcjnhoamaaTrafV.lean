/-
  The program's lines at work: copies, whether all blocks are possible, or normal, trains at a place. For at most 1048576 blocks and as many trains.
-/
import Derived.Test.YtpofkfcjnhoamaaLineM
import Derived.Maps.AppendAt
import Derived.IntWalk
import Derived.Deep.DeepCutAuto
import Derived.Deep.RegionWith
namespace Go.Proofs.Ytpofkfcjnhoamaa
open Go.RowKit Go.Sort

/-- What a call reads that appends a whole slice. -/
theorem rd_news {w : World} {b o m : Nat} {F : Nat → Value} (hc : ∀ q, q < m → w.cell? ⟨b, o + q, none⟩ = some (F q)) : ∀ j u, ((List.range m).map F)[j]? = some u → w.cell? ((⟨b, o, none⟩ : Addr).add j) = some u := fun j u hu => by
  have hlt : j < m := by
    have := (List.getElem?_eq_some_iff.1 hu).1
    simpa using this
  rw [rangeF_get F hlt] at hu
  simp only [Option.some.injEq] at hu
  subst hu
  have q := hc j hlt
  by_cases hj0 : j = 0
  · subst hj0; simpa [Addr.add] using q
  · simpa [Addr.add, hj0] using q
theorem bkF_one (bs : List Blk) (m : Nat) : ∀ u ∈ (List.range m).map (bkF bs), u.oneCell' = true := fun u hu => by
  obtain ⟨q, _, rfl⟩ := List.mem_map.1 hu
  unfold bkF
  split
  · rfl
  · split <;> rfl

theorem neqBlk (x y : Blk) (w : World) : (binOp .neq 33 (.agg #[.int .i64 x.1, .bool x.2.1, .bool x.2.2]) (.agg #[.int .i64 y.1, .bool y.2.1, .bool y.2.2])).run Try.prog w = .ok (.bool (!decide (x = y))) w := by
  obtain ⟨n, i, o⟩ := x
  obtain ⟨n', i', o'⟩ := y
  have p := Try.underlying33
  by_cases e : n = n'
  · subst e
    cases i <;> cases i' <;> cases o <;> cases o' <;> simp [go_sem, Try.underlying33, Try.underlying3, Try.underlying4]
  · simp [go_sem, Try.underlying33, Try.underlying3, Try.underlying4, e]

set_option maxHeartbeats 1000000 in
theorem cloneBlks {w : World} {v : Value} {xs : List Blk} (h : Blks w v xs) :
    Calls Try.prog 91 #[v] w (fun e w' => ∃ v', e = .returned v' ∧ OwnB w' w.heap.size v' xs ∧ Below w.heap.size w w') := by
  obtain ⟨a, cap, rfl, hl, hc⟩ := h
  cases a with
  | none =>
    have h0 : xs.length = 0 := by
      rcases hc with h0 | ⟨b, o, e, _⟩
      · exact h0
      · cases e
    obtain rfl : xs = [] := List.eq_nil_of_length_eq_zero h0
    have heq : ∀ X : World, (binOp BinOp.eql 65 (.slice none 0 cap) (.slice none 0 0)).run Try.prog X = .ok (.bool true) X := fun _ => by kernel_rfl
    clear hc h0 hl
    go_enter Try.func91, Try.ntmps91
    go_wp2_with fail
    go_ret
    exact ⟨_, rfl, ow_nil _ _ _ _ _, Below.refl _ _⟩
  | some x =>
    have heq : ∀ X : World, (binOp BinOp.eql 65 (.slice (some x) xs.length cap) (.slice none 0 0)).run Try.prog X = .ok (.bool false) X := fun _ => by kernel_rfl
    have ea := below_alloc w (.cells #[] 33)
    have oe : (w.alloc (.cells #[] 33)).ownsRow w.heap.size 33 3 (.slice (some ⟨w.heap.size, 0, none⟩) 0 0) 0 [] := World.ownsRow_lit w #[] 0 (Nat.le_refl _) (by simp [maxLen]) rfl
    obtain ⟨i0, hi, hz0, hz1, hz2⟩ := info_parts info_block
    have HC := Lib.hid (show ∀ j u, ((List.range (xs.length * 3)).map (bkF xs))[j]? = some u → (w.alloc (.cells #[] 33)).cell? (x.add j) = some u from by
      rcases hc with h0 | ⟨b, o, e, hb, hcell⟩
      · obtain rfl : xs = [] := List.eq_nil_of_length_eq_zero h0
        intro j u hu
        simp at hu
      · obtain rfl : x = ⟨b, o, none⟩ := by simpa using e
        rw [show (List.range (xs.length * 3)).map (bkF xs) = (List.range (xs.length * 3)).map (bkF xs) from rfl]
        exact rd_news fun q hq => (ea.cell (p := ⟨b, o + q, none⟩) hb).trans (hcell q hq))
    have hn' : xs.length ≤ 1048576 := hl.1
    obtain ⟨n, hn⟩ : ∃ n, n = xs.length := ⟨_, rfl⟩
    have HL := Lib.hid hn
    rw [← hn] at heq hn' ⊢
    clear hc hn hl
    go_enter Try.func91, Try.ntmps91
    go_wp2_with (at_builtin; refine wpList_append_own_at _ rfl _ _ 65 rfl w.heap.size 33 i0 (.agg #[.int .i64 0, .bool false, .bool false]) 3 16 Try.underlying65 hi hz0 hz1 hz2 rfl (by decide) _ 0 [] rfl oe x n cap ((List.range (xs.length * 3)).map (bkF xs)) rfl ?c0 ?c1 (bkF_one _ _) ?c3 ?c4 ?c5 ?_)
    case c0 => rw [List.length_map, List.length_range, HL.out]
    case c1 => exact HC.out
    case c3 => simp only [maxLen]; omega
    case c4 => omega
    case c5 => exact ea.size
    intro v1 w1 hown hgrow _ _
    have b1 : Below w.heap.size w w1 := ea.grown hgrow ea.size (fun c hc => (World.ownsRow.lt oe c hc).1)
    have o1 : OwnB w1 w.heap.size v1 xs := by
      have hh := hown
      simp only [HL.out] at hh
      unfold OwnB Ow
      exact hh
    have B1 := Lib.hid b1
    obtain ⟨a2, c2, rfl⟩ := Ow.slice o1
    have O1 := Lib.hid o1
    clear hown hgrow oe ea b1 o1
    go_wp2_with fail
    go_ret
    exact ⟨_, rfl, O1.out, B1.out⟩

theorem ints_oneL (xs : List Int) : ∀ u ∈ xs.map (Value.int .i64), u.oneCell' = true := fun u hu => by
  obtain ⟨q, _, rfl⟩ := List.mem_map.1 hu
  rfl

set_option maxHeartbeats 1000000 in
theorem cloneIntsL {w : World} {v : Value} {xs : List Int} (h : Ints w v xs) :
    Calls Try.prog 92 #[v] w (fun e w' => ∃ v', e = .returned v' ∧ OwnI w' w.heap.size v' xs ∧ Below w.heap.size w w') := by
  obtain ⟨a, cap, rfl, hl, hc⟩ := h
  cases a with
  | none =>
    have h0 : xs.length = 0 := by
      rcases hc with h0 | ⟨b, o, e, _⟩
      · rw [h0]; rfl
      · cases e
    obtain rfl : xs = [] := List.eq_nil_of_length_eq_zero h0
    have heq : ∀ X : World, (binOp BinOp.eql 24 (.slice none 0 cap) (.slice none 0 0)).run Try.prog X = .ok (.bool true) X := fun _ => by kernel_rfl
    clear hc h0 hl
    go_enter Try.func92, Try.ntmps92
    go_wp2_with fail
    go_ret
    exact ⟨_, rfl, own_nil _, Below.refl _ _⟩
  | some x =>
    have heq : ∀ X : World, (binOp BinOp.eql 24 (.slice (some x) xs.length cap) (.slice none 0 0)).run Try.prog X = .ok (.bool false) X := fun _ => by kernel_rfl
    have ea := below_alloc w (.cells #[] 3)
    have oe : (w.alloc (.cells #[] 3)).ownsRow w.heap.size 3 1 (.slice (some ⟨w.heap.size, 0, none⟩) 0 0) 0 [] := World.ownsRow_lit w #[] 0 (Nat.le_refl _) (by simp [maxLen]) rfl
    obtain ⟨i0, hi, hz0, hz1, hz2⟩ := info_parts info_int
    have HC := Lib.hid (show ∀ j u, (xs.map (Value.int .i64))[j]? = some u → (w.alloc (.cells #[] 3)).cell? (x.add j) = some u from by
      rcases hc with h0 | ⟨b, o, e, hb, hcell⟩
      · subst h0
        intro j u hu
        simp at hu
      · obtain rfl : x = ⟨b, o, none⟩ := by simpa using e
        intro j u hu
        rw [List.getElem?_map] at hu
        cases e : xs[j]? with
        | none => rw [e] at hu; simp at hu
        | some y =>
          rw [e] at hu
          simp only [Option.map_some, Option.some.injEq] at hu
          subst hu
          have hlt : j < xs.length := (List.getElem?_eq_some_iff.1 e).1
          have q := (ea.cell (p := ⟨b, o + j, none⟩) hb).trans (hcell j hlt)
          rw [List.getD_eq_getElem?_getD, e] at q
          by_cases hj0 : j = 0
          · subst hj0; simpa [Addr.add] using q
          · simpa [Addr.add, hj0] using q)
    have hn' : xs.length ≤ 1048576 := hl.1
    obtain ⟨n, hn⟩ : ∃ n, n = xs.length := ⟨_, rfl⟩
    have HL := Lib.hid hn
    rw [← hn] at heq hn' ⊢
    clear hc hn hl
    go_enter Try.func92, Try.ntmps92
    go_wp2_with (at_builtin; refine wpList_append_own_at _ rfl _ _ 24 rfl w.heap.size 3 i0 (.int .i64 0) 1 8 Try.underlying24 hi hz0 hz1 hz2 rfl (by decide) _ 0 [] rfl oe x n cap (xs.map (Value.int .i64)) rfl ?c0 ?c1 (ints_oneL _) ?c3 ?c4 ?c5 ?_)
    case c0 => rw [List.length_map, HL.out, Nat.mul_one]
    case c1 => exact HC.out
    case c3 => simp only [maxLen]; omega
    case c4 => omega
    case c5 => exact ea.size
    intro v1 w1 hown hgrow _ _
    have b1 : Below w.heap.size w w1 := ea.grown hgrow ea.size (fun c hc => (World.ownsRow.lt oe c hc).1)
    have o1 : OwnI w1 w.heap.size v1 xs := by
      have hh := hown
      simp only [HL.out] at hh
      unfold OwnI
      exact hh
    have B1 := Lib.hid b1
    obtain ⟨a2, m2, c2, rfl⟩ := own_is_slice o1
    have O1 := Lib.hid o1
    clear hown hgrow oe ea b1 o1
    go_wp2_with fail
    go_ret
    exact ⟨_, rfl, O1.out, B1.out⟩

set_option maxHeartbeats 1000000 in
theorem possible1 (b : Blk) (w : World) : Calls Try.prog 88 #[.agg #[.int .i64 b.1, .bool b.2.1, .bool b.2.2]] w fun e w' => e = .returned (.bool (!bkPos b)) ∧ Below w.heap.size w w' := by
  have q := below_alloc w (.cells #[.int .i64 b.1, .bool b.2.1, .bool b.2.2] 33)
  obtain ⟨p, hp⟩ : ∃ p, p = bkPos b := ⟨_, rfl⟩
  have IP := Lib.hid (implPossible b)
  rw [← hp] at IP ⊢
  unfold bkV at IP
  clear hp
  go_enter Try.func88, Try.ntmps88
  go_wp2_with (go_at_call 89; refine (IP.out _).mono ?_)
  rintro e w1 ⟨rfl, b1⟩
  go_wp2_with fail
  go_ret
  exact ⟨rfl, chain q b1⟩

set_option maxHeartbeats 1000000 in
theorem indexPos {w : World} {v : Value} {bs : List Blk} (h : Blks w v bs) :
    Calls Try.prog 95 #[v, .func (.func 88) #[] #[]] w fun e w' => ∃ j : Int, e = .returned (.int .i64 j) ∧ ((j = -1 ∧ ∀ k, k < bs.length → (!bkPos (bs.getD k nb)) = false) ∨ ∃ k : Nat, j = k ∧ k < bs.length ∧ (!bkPos (bs.getD k nb)) = true) ∧ Below w.heap.size w w' := by
  obtain ⟨a, cap, rfl⟩ := Rd.slice h
  have hl := Rd.len h
  have hl' : (bs.length : Int) ≤ 1048576 := by omega
  have AT := Lib.hid (fun (i : Nat) (hi : i < bs.length) => Blks.at h hi)
  clear h hl
  go_enter Try.func95, Try.ntmps95
  go_wp2_with fail
  go_loopw [8] (fun i wr => ∃ k : Nat, k ≤ bs.length ∧ i = .int .i64 k ∧ (∀ j, j < k → (!bkPos (bs.getD j nb)) = false) ∧ Below w.heap.size w wr) (fun i _ => bs.length - (intOf i).toNat)
  case atStart => exact ⟨0, by omega, rfl, fun j hj => by omega, Below.refl _ _⟩
  case round =>
    obtain ⟨k, hk, rfl, hno, hbel⟩ := hrel
    have NO := Lib.hid hno
    clear hno
    by_cases hlt : k < bs.length
    · obtain ⟨b, o, rfl, hb, hcell⟩ := AT.out k hlt
      obtain ⟨e0, e1, e2⟩ := hcell k hlt
      have c0 := (hbel.cell (p := ⟨b, o + k * 3, none⟩) hb).trans e0
      have c1 : wr.cell? ⟨b, o + k * 3 + 1, none⟩ = _ := (hbel.cell (p := ⟨b, o + k * 3 + 1, none⟩) hb).trans e1
      have c2 : wr.cell? ⟨b, o + k * 3 + 2, none⟩ = _ := (hbel.cell (p := ⟨b, o + k * 3 + 2, none⟩) hb).trans e2
      have hki : (k : Int) < (bs.length : Int) := by omega
      obtain ⟨x, hx⟩ : ∃ x, x = bs.getD k nb := ⟨_, rfl⟩
      rw [← hx] at c0 c1 c2
      have CB := Lib.hid (possible1 x)
      obtain ⟨t, ht⟩ : ∃ t, t = (!bkPos (x)) := ⟨_, rfl⟩
      rw [← ht] at CB
      have HT := Lib.hid (show (!bkPos (bs.getD k nb)) = t by rw [← hx, ht])
      clear e0 e1 e2 hx ht hcell
      go_wp2_with (go_at_call 88; refine (CB.out _).mono ?_)
      rintro e w1 ⟨rfl, b1⟩
      have c3 := hbel.trans (b1.mono hbel.size)
      cases t
      · go_wp2_with fail
        go_roundw
        case rel => exact ⟨k + 1, by omega, by go_num, fun j hj => by
            by_cases e : j = k
            · subst e; exact HT.out
            · exact NO.out j (by omega), c3⟩
        case measure => simp [intOf]; omega
      · go_wp2_with fail
        go_ret
        exact ⟨_, rfl, .inr ⟨k, rfl, hlt, HT.out⟩, c3⟩
    · obtain rfl : k = bs.length := by omega
      go_wp2_with fail
      go_ret
      exact ⟨_, rfl, .inl ⟨rfl, NO.out⟩, hbel⟩

set_option maxHeartbeats 1000000 in
theorem containsPos {w : World} {v : Value} {bs : List Blk} (h : Blks w v bs) :
    Calls Try.prog 87 #[v, .func (.func 88) #[] #[]] w fun e w' => ∃ t : Bool, e = .returned (.bool t) ∧ ((t = false ∧ ∀ k, k < bs.length → (!bkPos (bs.getD k nb)) = false) ∨ (t = true ∧ ∃ k : Nat, k < bs.length ∧ (!bkPos (bs.getD k nb)) = true)) ∧ Below w.heap.size w w' := by
  have H := Lib.hid (indexPos h)
  clear h
  go_enter Try.func87, Try.ntmps87
  go_wp2_with (go_at_call 95; refine H.out.mono ?_)
  rintro e w1 ⟨j, rfl, hj, b1⟩
  have B1 := Lib.hid b1
  rcases hj with ⟨rfl, hj⟩ | ⟨k, rfl, hk, hj⟩
  · have HJ := Lib.hid hj
    clear hj b1
    go_wp2_with fail
    go_ret
    exact ⟨false, by simp, .inl ⟨rfl, HJ.out⟩, B1.out⟩
  · have HJ := Lib.hid (And.intro hk hj)
    clear hj b1 hk
    go_wp2_with fail
    go_ret
    exact ⟨true, by simp, .inr ⟨rfl, k, HJ.out⟩, B1.out⟩

set_option maxHeartbeats 1000000 in
theorem arePos {w : World} {v : Value} {bs : List Blk} (h : Blks w v bs) :
    Calls Try.prog 74 #[v] w fun e w' => e = .returned (.bool (decide (∀ k, k < bs.length → bkPos (bs.getD k nb) = true))) ∧ Below w.heap.size w w' := by
  have H := Lib.hid (containsPos h)
  clear h
  go_enter Try.func74, Try.ntmps74
  go_wp2_with (go_at_call 87; refine H.out.mono ?_)
  rintro e w1 ⟨t, rfl, hj, b1⟩
  have B1 := Lib.hid b1
  rcases hj with ⟨rfl, hj⟩ | ⟨rfl, k, hk, hj⟩
  · have HJ := Lib.hid (show decide (∀ k, k < bs.length → bkPos (bs.getD k nb) = true) = true from decide_eq_true fun k hk => by simpa using hj k hk)
    clear hj b1
    go_wp2_with fail
    go_ret
    exact ⟨ret_bool HJ.out.symm, B1.out⟩
  · have HJ := Lib.hid (show decide (∀ k, k < bs.length → bkPos (bs.getD k nb) = true) = false from decide_eq_false fun q => by rw [q k hk] at hj; cases hj)
    clear hj b1 hk
    go_wp2_with fail
    go_ret
    exact ⟨ret_bool HJ.out.symm, B1.out⟩

set_option maxHeartbeats 1000000 in
theorem countAt {w : World} {u1 u2 : Value} {ts : List Int} (p : Int) (h : Ints w u2 ts) :
    Calls Try.prog 43 #[.agg #[u1, u2], .int .i64 p] w fun e w' => e = .returned (.int .i64 (cntAt ts p)) ∧ Below w.heap.size w w' := by
  obtain ⟨a, cap, rfl, hl, hc⟩ := h
  have q0 := below_alloc w (.cells #[u1, .slice a ts.length cap] 67)
  have p0 := Pair.new w u1 (.slice a ts.length cap) 67
  obtain ⟨W, hW⟩ : ∃ X, X = w.alloc (.cells #[u1, .slice a ts.length cap] 67) := ⟨_, rfl⟩
  rw [← hW] at q0 p0
  have HW := Lib.hid hW.symm
  have Q0 := Lib.hid q0
  have k1 := p0.cell1
  have hl' : (ts.length : Int) ≤ 1048576 := by omega
  have HC := Lib.hid hc
  clear hW p0 hl hc q0
  go_enter Try.func43, Try.ntmps43
  go_wp2_with fail
  rw [HW.out]
  go_wp2_with fail
  go_loop [5, 11] (fun m i => ∃ k : Nat, k ≤ ts.length ∧ i = .int .i64 k ∧ m = .int .i64 (cntP ts p k)) (fun _ i => ts.length - (intOf i).toNat)
  case atStart => exact ⟨0, by omega, rfl, rfl⟩
  case round =>
    obtain ⟨k, hk, rfl, rfl⟩ := hrel
    have hr := cntP_range ts p k
    by_cases hlt : k < ts.length
    · obtain ⟨b, o, rfl, hb, hcell⟩ : ∃ b o, a = some ⟨b, o, none⟩ ∧ b < w.heap.size ∧ ∀ i, i < ts.length → w.cell? ⟨b, o + i, none⟩ = some (.int .i64 (ts.getD i 0)) := by
        rcases HC.out with rfl | h
        · simp at hlt
        · exact h
      have c0 := (Q0.out.cell (p := ⟨b, o + k, none⟩) hb).trans (hcell k hlt)
      have hki : (k : Int) < (ts.length : Int) := by omega
      obtain ⟨x, hx⟩ : ∃ x, x = ts.getD k 0 := ⟨_, rfl⟩
      rw [← hx] at c0
      obtain ⟨m, hm⟩ : ∃ m, m = cntP ts p k := ⟨_, rfl⟩
      rw [← hm] at hr ⊢
      have M := Lib.hid hm
      have X := Lib.hid hx
      clear hm hx hcell
      by_cases e : x = p
      · have E := Lib.hid ((cntP_yes (show ts.getD k 0 = p by rw [← X.out]; exact e)).trans (by rw [← M.out]))
        subst e
        go_wp2_with fail
        go_round
        case rel => exact ⟨k + 1, by omega, by go_num, by rw [E.out]; try go_num⟩
        case measure => simp [intOf]; omega
      · have E := Lib.hid ((cntP_no (show ¬ ts.getD k 0 = p by rw [← X.out]; exact e)).trans M.out.symm)
        go_wp2_with fail
        go_round
        case rel => exact ⟨k + 1, by omega, by go_num, by rw [E.out]; try go_num⟩
        case measure => simp [intOf]; omega
    · obtain rfl : k = ts.length := by omega
      go_wp2_with fail
      go_ret
      exact ⟨rfl, Q0.out⟩

end Go.Proofs.Ytpofkfcjnhoamaa

/-
  The program's lines: are all trains in their places, a copy, and the line that is made of one that came in. For at most 1048576 blocks and as many trains.
-/
namespace Go.Proofs.Ytpofkfcjnhoamaa
open Go.RowKit Go.Sort

set_option maxHeartbeats 400000 in
theorem boxPlace (k : Int) (h : -4611686018427387904 ≤ k ∧ k ≤ 4611686018427387903) (w : World) : Calls Try.prog 44 #[.int .i64 k] w fun e w' => e = .returned (.int .i64 (2 * k)) ∧ w = w' := by
  go_enter Try.func44, Try.ntmps44
  go_wp2_with fail
  go_ret
  exact ⟨by go_num, rfl⟩

set_option maxHeartbeats 400000 in
theorem sectionPlace (k : Int) (h : -4611686018427387904 ≤ k ∧ k ≤ 4611686018427387903) (w : World) : Calls Try.prog 47 #[.int .i64 k] w fun e w' => e = .returned (.int .i64 (2 * k + 1)) ∧ w = w' := by
  go_enter Try.func47, Try.ntmps47
  go_wp2_with fail
  go_ret
  exact ⟨by go_num, rfl⟩

set_option maxHeartbeats 400000 in
theorem endPlace {a : Option Addr} {n c : Nat} (h : n ≤ 1048576) (w : World) : Calls Try.prog 90 #[.slice a n c] w fun e w' => e = .returned (.int .i64 (2 * (n : Int))) ∧ w = w' := by
  have B := Lib.hid (boxPlace (n : Int) (by omega))
  go_enter Try.func90, Try.ntmps90
  go_wp2_with (go_at_call 44; refine (B.out _).mono ?_; rintro e w1 ⟨rfl, rfl⟩)
  go_ret
  exact ⟨rfl, rfl⟩

set_option maxHeartbeats 400000 in
theorem sectionsValidL (n : Int) (w : World) : Calls Try.prog 73 #[.int .i64 n] w fun e w' => e = .returned (.bool (decide (1 ≤ n ∧ n ≤ 5))) ∧ w = w' := by
  by_cases h1 : 1 ≤ n
  · by_cases h2 : n ≤ 5
    · rw [decide_eq_true (And.intro h1 h2)]
      go_enter Try.func73, Try.ntmps73
      go_wp2_with fail
      go_ret
      exact ⟨rfl, rfl⟩
    · rw [decide_eq_false (show ¬ (1 ≤ n ∧ n ≤ 5) by omega)]
      have h3 : decide (n ≤ 5) = false := by simpa using h2
      clear h2
      go_enter Try.func73, Try.ntmps73
      go_wp2_with fail
      go_ret
      exact ⟨rfl, rfl⟩
  · rw [decide_eq_false (show ¬ (1 ≤ n ∧ n ≤ 5) by omega)]
    have h3 : decide (1 ≤ n) = false := by simpa using h1
    clear h1
    go_enter Try.func73, Try.ntmps73
    go_wp2_with fail
    go_ret
    exact ⟨rfl, rfl⟩

def limOf (n : Nat) (ts : List Int) (k : Nat) : Int := if k = 0 then 2 * (n : Int) else ts.getD (k - 1) 0
theorem limOf_succ (n : Nat) (ts : List Int) (k : Nat) : limOf n ts (k + 1) = ts.getD k 0 := by
  unfold limOf; rw [if_neg (by omega), Nat.add_sub_cancel]
theorem limOf_le {n : Nat} {ts : List Int} {k : Nat} (h : PlTo n ts k) : limOf n ts k ≤ 2 * (n : Int) := by
  unfold limOf
  split
  · exact Int.le_refl _
  · exact (h (k - 1) (by omega)).2.1
theorem PlTo.next {n : Nat} {ts : List Int} {k : Nat} (h : PlTo n ts k) (h0 : 0 ≤ ts.getD k 0) (h1 : ts.getD k 0 ≤ limOf n ts k) : PlTo n ts (k + 1) :=
  h.succ ⟨h0, Int.le_trans h1 (limOf_le h), fun hk => by unfold limOf at h1; rw [if_neg (by omega)] at h1; exact h1⟩
theorem PlTo.limit {n : Nat} {ts : List Int} {m k : Nat} (h : PlTo n ts m) (hk : k < m) : 0 ≤ ts.getD k 0 ∧ ts.getD k 0 ≤ limOf n ts k := by
  have q := h k hk
  refine ⟨q.1, ?_⟩
  unfold limOf
  split
  · exact q.2.1
  · exact q.2.2 (by omega)
/-- Are the trains in their places? -/
def Placed (bs : List Blk) (ts : List Int) : Prop := PlTo bs.length ts ts.length ∧ ∀ k, k < bs.length → cntAt ts (2 * k + 1) = insN (bs.getD k nb)
noncomputable def placedB (bs : List Blk) (ts : List Int) : Bool := @decide (Placed bs ts) (Classical.propDecidable _)
theorem placedB_yes {bs : List Blk} {ts : List Int} (h : Placed bs ts) : placedB bs ts = true := @decide_eq_true _ (Classical.propDecidable _) h
theorem placedB_no {bs : List Blk} {ts : List Int} (h : ¬ Placed bs ts) : placedB bs ts = false := @decide_eq_false _ (Classical.propDecidable _) h
theorem placedB_is {bs : List Blk} {ts : List Int} (h : placedB bs ts = true) : Placed bs ts := @of_decide_eq_true _ (Classical.propDecidable _) h
theorem lnB_eq (l : Ln) : lnB l = (decide (1 ≤ (l.1.length : Int) ∧ (l.1.length : Int) ≤ 5) && decide ((l.2.length : Int) ≤ 5) && decide (∀ k, k < l.1.length → bkPos (l.1.getD k nb) = true) && placedB l.1 l.2) := by
  cases e : lnB l
  · have h := lnB_not e
    symm
    rw [Bool.eq_false_iff]
    intro q
    simp only [Bool.and_eq_true, decide_eq_true_eq] at q
    obtain ⟨⟨⟨q1, q2⟩, q3⟩, q4⟩ := q
    have q4 := placedB_is q4
    exact h ⟨⟨by omega, by omega⟩, by omega, q4.1, fun k hk => ⟨q3 k hk, q4.2 k hk⟩⟩
  · have h := lnB_is e
    symm
    simp only [Bool.and_eq_true, decide_eq_true_eq]
    exact ⟨⟨⟨⟨by have := h.1; omega, by have := h.1; omega⟩, by have := h.2.1; omega⟩, fun k hk => (h.2.2.2 k hk).1⟩, placedB_yes ⟨h.2.2.1, fun k hk => (h.2.2.2 k hk).2⟩⟩

set_option maxHeartbeats 2000000 in
theorem arePlaced {w : World} {u1 u2 : Value} {bs : List Blk} {ts : List Int} (h1 : Blks w u1 bs) (h2 : Ints w u2 ts) :
    Calls Try.prog 75 #[.agg #[u1, u2]] w fun e w' => e = .returned (.bool (placedB bs ts)) ∧ Below w.heap.size w w' := by
  have k1 := Rd.len h1
  have k2 := h2.len
  obtain ⟨a1, c1, rfl⟩ := Rd.slice h1
  have hh2 := h2
  obtain ⟨a2, c2, rfl, -, hc2⟩ := h2
  have q0 := below_alloc w (.cells #[.slice a1 bs.length c1, .slice a2 ts.length c2] 67)
  have p0 := Pair.new w (.slice a1 bs.length c1) (.slice a2 ts.length c2) 67
  obtain ⟨W, hW⟩ : ∃ X, X = w.alloc (.cells #[.slice a1 bs.length c1, .slice a2 ts.length c2] 67) := ⟨_, rfl⟩
  rw [← hW] at q0 p0
  have HW := Lib.hid hW.symm
  have Q0 := Lib.hid q0
  have P0 := Lib.hid p0
  have e0 := p0.cell0
  have e1 := p0.cell1
  have HC2 := Lib.hid hc2
  have AT := Lib.hid (fun (i : Nat) (hi : i < bs.length) => Blks.at h1 hi)
  have CN := Lib.hid (fun (p : Int) (X : World) (b : Below w.heap.size w X) => countAt (w := X) (u1 := .slice a1 bs.length c1) p (hh2.below b))
  have EN := Lib.hid (endPlace (a := a1) (c := c1) k1)
  have k1' : (bs.length : Int) ≤ 1048576 := by omega
  have k2' : (ts.length : Int) ≤ 1048576 := by omega
  clear hW p0 q0 hc2 hh2 h1
  go_enter Try.func75, Try.ntmps75
  go_wp2_with fail
  rw [HW.out]
  go_wp2_with (go_at_call 90; refine (EN.out _).mono ?_; rintro e w1 ⟨rfl, rfl⟩)
  go_loop [3, 15] (fun m i => ∃ k : Nat, k ≤ ts.length ∧ i = .int .i64 k ∧ m = .int .i64 (limOf bs.length ts k) ∧ Hid (PlTo bs.length ts k)) (fun _ i => ts.length - (intOf i).toNat)
  case atStart => exact ⟨0, by omega, rfl, rfl, Lib.hid (PlTo.zero _ _)⟩
  case round =>
    obtain ⟨k, hk, rfl, rfl, HP⟩ := hrel
    obtain ⟨m, hm⟩ : ∃ m, m = limOf bs.length ts k := ⟨_, rfl⟩
    rw [← hm]
    have M := Lib.hid hm
    clear hm
    by_cases hlt : k < ts.length
    · obtain ⟨b, o, rfl, hb, hcell⟩ : ∃ b o, a2 = some ⟨b, o, none⟩ ∧ b < w.heap.size ∧ ∀ i, i < ts.length → w.cell? ⟨b, o + i, none⟩ = some (.int .i64 (ts.getD i 0)) := by
        rcases HC2.out with rfl | h
        · simp at hlt
        · exact h
      have c0 := (Q0.out.cell (p := ⟨b, o + k, none⟩) hb).trans (hcell k hlt)
      have hki : (k : Int) < (ts.length : Int) := by omega
      obtain ⟨x, hx⟩ : ∃ x, x = ts.getD k 0 := ⟨_, rfl⟩
      rw [← hx] at c0
      have X := Lib.hid hx
      clear hx hcell
      by_cases g0 : 0 ≤ x
      · by_cases g1 : x ≤ m
        · have HP2 := Lib.hid (HP.out.next (by rw [← X.out]; exact g0) (by rw [← X.out, ← M.out]; exact g1))
          have HM := Lib.hid ((limOf_succ bs.length ts k).trans X.out.symm)
          go_wp2_with fail
          go_round
          case rel => exact ⟨k + 1, by omega, by go_num, by rw [HM.out], HP2⟩
          case measure => simp [intOf]; omega
        · have HN := Lib.hid (placedB_no (bs := bs) (ts := ts) fun q => g1 (by have := (q.1.limit hlt).2; rw [X.out, M.out]; exact this))
          go_wp2_with fail
          go_ret
          exact ⟨ret_bool HN.out.symm, Q0.out⟩
      · have HN := Lib.hid (placedB_no (bs := bs) (ts := ts) fun q => g0 (by have := (q.1.limit hlt).1; rw [X.out]; exact this))
        go_wp2_with fail
        go_ret
        exact ⟨ret_bool HN.out.symm, Q0.out⟩
    · obtain rfl : k = ts.length := by omega
      clear hlt hk
      go_wp2_with fail
      go_loopw [31] (fun i wr => ∃ k : Nat, k ≤ bs.length ∧ i = .int .i64 k ∧ Hid (∀ j, j < k → cntAt ts (2 * j + 1) = insN (bs.getD j nb)) ∧ Below W.heap.size W wr) (fun i _ => bs.length - (intOf i).toNat)
      case atStart => exact ⟨0, by omega, rfl, Lib.hid (fun j hj => by omega), Below.refl _ _⟩
      case round =>
        obtain ⟨k, hk, rfl, HK, hbel⟩ := hrel
        by_cases hlt : k < bs.length
        · obtain ⟨b, o, rfl, hb, hcell⟩ := AT.out k hlt
          obtain ⟨e0', e1', e2'⟩ := hcell k hlt
          have hbW : b < W.heap.size := Nat.lt_of_lt_of_le hb Q0.out.size
          have d0 := (hbel.cell (p := ⟨b, o + k * 3, none⟩) hbW).trans ((Q0.out.cell (p := ⟨b, o + k * 3, none⟩) hb).trans e0')
          have d1 : wr.cell? ⟨b, o + k * 3 + 1, none⟩ = _ := (hbel.cell (p := ⟨b, o + k * 3 + 1, none⟩) hbW).trans ((Q0.out.cell (p := ⟨b, o + k * 3 + 1, none⟩) hb).trans e1')
          have d2 : wr.cell? ⟨b, o + k * 3 + 2, none⟩ = _ := (hbel.cell (p := ⟨b, o + k * 3 + 2, none⟩) hbW).trans ((Q0.out.cell (p := ⟨b, o + k * 3 + 2, none⟩) hb).trans e2')
          have hki : (k : Int) < (bs.length : Int) := by omega
          obtain ⟨x, hx⟩ : ∃ x, x = bs.getD k nb := ⟨_, rfl⟩
          rw [← hx] at d0 d1 d2
          have t2 := Tri3.new wr (.int .i64 x.1) (.bool x.2.1) (.bool x.2.2) 33
          have b2 := below_alloc wr (.cells #[.int .i64 x.1, .bool x.2.1, .bool x.2.2] 33)
          obtain ⟨V, hV⟩ : ∃ V, V = wr.alloc (.cells #[.int .i64 x.1, .bool x.2.1, .bool x.2.2] 33) := ⟨_, rfl⟩
          rw [← hV] at t2 b2
          have HV := Lib.hid hV.symm
          have V1 := t2.cell1
          have X := Lib.hid hx
          have cV := hbel.trans (b2.mono hbel.size)
          have pV := P0.out.below cV
          have v0 := pV.cell0
          have v1 := pV.cell1
          have E0 := fun d os => cell_regrown v0 d os
          have E1 := fun d os => cell_regrown v1 d os
          have bV := Q0.out.trans (cV.mono Q0.out.size)
          have CC := Lib.hid (fun d os => Calls.regrown_of (d := d) (os := os) (CN.out (2 * (k : Int) + 1) (grow (redrawn V d) os) (bV.trans ((below_regrown V d os).mono bV.size))))
          have SP := Lib.hid (fun d os => Calls.regrown_of (d := d) (os := os) ((sectionPlace (k : Int) (by omega) (grow (redrawn V d) os)).mono fun _ _ ⟨he, hw⟩ => ⟨he, hw ▸ Below.refl _ _⟩))
          obtain ⟨m, hm⟩ : ∃ m, m = cntAt ts (2 * (k : Int) + 1) := ⟨_, rfl⟩
          rw [← hm] at CC
          have M := Lib.hid hm
          have BV := Lib.hid bV
          have CV := Lib.hid cV
          clear hx hm hV e0' e1' e2' hcell t2 b2 pV cV bV hbel
          obtain ⟨x0, x1, x2⟩ := x
          simp only at d0 d1 d2 HV V1 X
          cases x1
          · by_cases g : m = 0
            · subst g
              have HK2 := Lib.hid (show ∀ j, j < k + 1 → cntAt ts (2 * j + 1) = insN (bs.getD j nb) from fun j hj => by
                by_cases e : j = k
                · subst e; rw [← M.out, ← X.out]; rfl
                · exact HK.out j (by omega))
              go_upto_region 13 with fail
              rw [HV.out]
              go_wp2_with fail
              refine wp_region_quiet_below (by kernel_rfl) (by kernel_rfl) ?_
              repeat (go_big_quiet_step (first | exact SP.out _ _ | exact CC.out _ _))
              refine wpQuiet_nil ?_
              intro _ hw'
              obtain ⟨⟨dq, osq⟩, hw''⟩ := hw'
              subst hw''
              go_wp2_with fail
              go_roundw
              case rel => exact ⟨k + 1, by omega, by go_num, HK2, CV.out.trans ((below_regrown V dq osq).mono CV.out.size)⟩
              case measure => simp [intOf]; omega
            · have g' : decide (m = 0) = false := decide_eq_false g
              have HN := Lib.hid (placedB_no (bs := bs) (ts := ts) fun q => g (by have := q.2 k hlt; rw [← M.out, ← X.out] at this; exact this))
              go_upto_region 13 with fail
              rw [HV.out]
              go_wp2_with fail
              refine wp_region_quiet_below (by kernel_rfl) (by kernel_rfl) ?_
              repeat (go_big_quiet_step (first | exact SP.out _ _ | exact CC.out _ _))
              refine wpQuiet_nil ?_
              intro _ hw'
              obtain ⟨⟨dq, osq⟩, hw''⟩ := hw'
              subst hw''
              go_wp2_with fail
              go_ret
              exact ⟨ret_bool HN.out.symm, BV.out.trans ((below_regrown V dq osq).mono BV.out.size)⟩
          · by_cases g : m = 1
            · subst g
              have HK2 := Lib.hid (show ∀ j, j < k + 1 → cntAt ts (2 * j + 1) = insN (bs.getD j nb) from fun j hj => by
                by_cases e : j = k
                · subst e; rw [← M.out, ← X.out]; rfl
                · exact HK.out j (by omega))
              go_upto_region 13 with fail
              rw [HV.out]
              go_wp2_with fail
              refine wp_region_quiet_below (by kernel_rfl) (by kernel_rfl) ?_
              repeat (go_big_quiet_step (first | exact SP.out _ _ | exact CC.out _ _))
              refine wpQuiet_nil ?_
              intro _ hw'
              obtain ⟨⟨dq, osq⟩, hw''⟩ := hw'
              subst hw''
              go_wp2_with fail
              go_roundw
              case rel => exact ⟨k + 1, by omega, by go_num, HK2, CV.out.trans ((below_regrown V dq osq).mono CV.out.size)⟩
              case measure => simp [intOf]; omega
            · have g' : decide (m = 1) = false := decide_eq_false g
              have HN := Lib.hid (placedB_no (bs := bs) (ts := ts) fun q => g (by have := q.2 k hlt; rw [← M.out, ← X.out] at this; exact this))
              go_upto_region 13 with fail
              rw [HV.out]
              go_wp2_with fail
              refine wp_region_quiet_below (by kernel_rfl) (by kernel_rfl) ?_
              repeat (go_big_quiet_step (first | exact SP.out _ _ | exact CC.out _ _))
              refine wpQuiet_nil ?_
              intro _ hw'
              obtain ⟨⟨dq, osq⟩, hw''⟩ := hw'
              subst hw''
              go_wp2_with fail
              go_ret
              exact ⟨ret_bool HN.out.symm, BV.out.trans ((below_regrown V dq osq).mono BV.out.size)⟩
        · obtain rfl : k = bs.length := by omega
          have HY := Lib.hid (show PlTo bs.length ts ts.length → placedB bs ts = true from fun h => placedB_yes ⟨h, HK.out⟩)
          have HQ := Lib.hid (HY.out HP.out)
          go_wp2_with fail
          go_ret
          exact ⟨ret_bool HQ.out.symm, Q0.out.trans (hbel.mono Q0.out.size)⟩

end Go.Proofs.Ytpofkfcjnhoamaa
