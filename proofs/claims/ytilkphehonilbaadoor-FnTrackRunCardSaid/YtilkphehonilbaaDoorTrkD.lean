/-
  A step at a circuit and the circuits that can change, by the program. For texts of at most 1048576 bytes.
-/
import Derived.Test.YtilkphehonilbaaDoorTrkC
import Derived.Maps.AppendAt
namespace Go.Proofs.YtilkphehonilbaaDoor
open Go.RowKit Go.Sort

/-- What TrackStep hands back. -/
def spB (S : ByteArray) (i : Int) : Bool := trB S && (decide (0 ≤ i ∧ i < S.size) && can S.size (oc S) i.toNat)
def spS (S : ByteArray) (i : Int) : ByteArray := if spB S i then trS S.size (fl (oc S) i.toNat) else ⟨#[]⟩
theorem spS_no {S : ByteArray} {i : Int} (h : spB S i = false) : spS S i = ⟨#[]⟩ := by unfold spS; rw [h]; rfl
theorem spS_yes {S : ByteArray} {i : Int} (h : spB S i = true) : spS S i = trS S.size (fl (oc S) i.toNat) := by unfold spS; rw [h]; rfl
theorem spB_not {S : ByteArray} {i : Int} (h : trB S = false) : spB S i = false := by unfold spB; rw [h]; rfl
theorem spB_out {S : ByteArray} {i : Int} (h : i < 0 ∨ (S.size : Int) ≤ i) : spB S i = false := by unfold spB; rw [decide_eq_false (by omega), Bool.false_and, Bool.and_false]
theorem spB_in {S : ByteArray} {k : Nat} (h : trB S = true) (hk : k < S.size) : spB S k = can S.size (oc S) k := by
  unfold spB
  rw [h, decide_eq_true (by omega), Bool.true_and, Bool.true_and]
  rfl

set_option maxHeartbeats 4000000 in
theorem implTrackStep (S : ByteArray) (i : Int) (hS : S.size ≤ 1048576) (w : World) :
    Calls Tryd.prog 24 #[.string S, .int .i64 i] w fun e w' => e = .returned (.tuple #[.string (spS S i), .bool (spB S i)]) ∧ Below w.heap.size w w' := by
  have T := trackOf_is S hS w
  obtain ⟨t, ht⟩ : ∃ t, t = trB S := ⟨_, rfl⟩
  cases t
  · rw [tkO_no ht.symm, ← ht] at T
    unfold tkc at T
    have T := Lib.hid T
    have N := spB_not (i := i) ht.symm
    have E := Lib.hid (And.intro (spS_no N) N)
    clear ht N
    go_enter Tryd.func24, Tryd.ntmps24
    go_wp2_with (go_at_call 32; refine T.out.mono ?_; rintro e w1 ⟨rfl, b1⟩)
    go_ret2
    exact ⟨by rw [E.out.1, E.out.2]; rfl, b1.alloc b1.size _⟩
  rw [tkO_yes ht.symm, ← ht] at T
  have HT := Lib.hid ht.symm
  have hn := (trB_of ht.symm).1
  obtain ⟨ho1, ho⟩ := oc_lt2 ht.symm
  have IN := Lib.hid (fun (k : Nat) (hk : k < S.size) => spB_in ht.symm hk)
  have OUT := Lib.hid (@spB_out S i)
  obtain ⟨n, hnn⟩ : ∃ n, n = S.size := ⟨_, rfl⟩
  obtain ⟨o, hoo⟩ : ∃ o, o = oc S := ⟨_, rfl⟩
  rw [← hnn, ← hoo] at T IN
  rw [← hnn] at hn OUT ho1
  rw [← hoo] at ho ho1
  have HN := Lib.hid hnn
  have HO := Lib.hid hoo
  have LA := last_is n o hn
  have CA := fun (k : Nat) (hk : k < n) => can_is n o k hn ho hk
  have CH := fun (k : Nat) (hk : k < n) => changed_is n o k ho (by omega)
  unfold tkc at T LA CA CH
  have T := Lib.hid T
  have LA := Lib.hid LA
  have h1 : 1 ≤ (n : Int) := by omega
  have h8 : (n : Int) ≤ 8 := by omega
  clear hnn hoo ht
  have step : ∀ (w1 : World), Below w.heap.size w w1 → ∃ W, W = w1.alloc (.cells #[.int .u64 o, .int .i64 n] 54) ∧ Pair W w1.heap.size (.int .u64 o) (.int .i64 n) 54 ∧ Below w.heap.size w W :=
    fun w1 b1 => ⟨_, rfl, Pair.new _ _ _ _, b1.alloc b1.size _⟩
  by_cases hi0 : i < 0
  · have N := OUT.out (.inl hi0)
    have E := Lib.hid (And.intro (spS_no N) N)
    clear N CA CH
    go_enter Tryd.func24, Tryd.ntmps24
    go_upto_region 2 with (go_at_call 32; refine T.out.mono ?_; rintro e w1 ⟨rfl, b1⟩)
    go_wp2_with fail
    go_ret2
    exact ⟨by rw [E.out.1, E.out.2]; rfl, b1.alloc b1.size _⟩
  have hi1 : 0 ≤ i := by omega
  by_cases hin : (n : Int) - 1 < i
  · have N := OUT.out (.inr (by omega))
    have E := Lib.hid (And.intro (spS_no N) N)
    clear N CA CH hi0
    go_enter Tryd.func24, Tryd.ntmps24
    go_upto_region 2 with (go_at_call 32; refine T.out.mono ?_; rintro e w1 ⟨rfl, b1⟩)
    obtain ⟨W, hW, p, q⟩ := step w1 b1
    rw [← hW]
    have z0 := p.cell0
    have z1 := p.cell1
    clear hW
    go_wp2_with (go_at_call 42; refine (LA.out _).mono ?_; rintro e w2 ⟨rfl, b2⟩)
    go_ret2
    exact ⟨by rw [E.out.1, E.out.2]; rfl, chain q b2⟩
  obtain ⟨k, rfl⟩ : ∃ k : Nat, i = k := ⟨i.toNat, by omega⟩
  have hkn : k < n := by omega
  have hk2 : (k : Int) ≤ (n : Int) - 1 := by omega
  have CA := CA k hkn
  have CH := CH k hkn
  have HB := IN.out k hkn
  have YES := @spS_yes S k
  have TX := text_is n (fl o k) (by omega) (Nat.lt_of_lt_of_le (fl_lt hkn ho1) (show 2 ^ n ≤ 2 ^ 8 from Nat.pow_le_pow_right (by omega) (by omega)))
  rw [Int.toNat_natCast, ← HN.out, ← HO.out] at YES
  unfold tkc at TX
  obtain ⟨r, hr⟩ : ∃ r, r = can n o k := ⟨_, rfl⟩
  rw [← hr] at CA HB
  have CA := Lib.hid CA
  have CH := Lib.hid CH
  have TX := Lib.hid TX
  clear hr hi0 hin ho ho1 hi1
  cases r
  · have E := Lib.hid (And.intro (spS_no HB) HB)
    clear YES HB
    go_enter Tryd.func24, Tryd.ntmps24
    go_upto_region 2 with (go_at_call 32; refine T.out.mono ?_; rintro e w1 ⟨rfl, b1⟩)
    obtain ⟨W, hW, p, q⟩ := step w1 b1
    rw [← hW]
    have z0 := p.cell0
    have z1 := p.cell1
    clear hW
    go_wp2_with (first
      | (go_at_call 42; refine (LA.out _).mono ?_; rintro e w2 ⟨rfl, b2⟩; have y0 := (p.below b2).cell0; have y1 := (p.below b2).cell1)
      | (go_at_call 47; refine (CA.out _).mono ?_; rintro e w3 ⟨rfl, b3⟩))
    go_ret2
    exact ⟨by rw [E.out.1, E.out.2]; rfl, chain q (chain b2 b3)⟩
  · have E := Lib.hid (And.intro (YES HB) HB)
    clear YES HB
    go_enter Tryd.func24, Tryd.ntmps24
    go_upto_region 2 with (go_at_call 32; refine T.out.mono ?_; rintro e w1 ⟨rfl, b1⟩)
    obtain ⟨W, hW, p, q⟩ := step w1 b1
    rw [← hW]
    have z0 := p.cell0
    have z1 := p.cell1
    clear hW
    go_wp2_with (first
      | (go_at_call 42; refine (LA.out _).mono ?_; rintro e w2 ⟨rfl, b2⟩; have y0 := (p.below b2).cell0; have y1 := (p.below b2).cell1)
      | (go_at_call 47; refine (CA.out _).mono ?_; rintro e w3 ⟨rfl, b3⟩; have x0 := (p.below (chain b2 b3)).cell0; have x1 := (p.below (chain b2 b3)).cell1)
      | (go_at_call 37; refine (CH.out _).mono ?_; rintro e w4 ⟨rfl, b4⟩)
      | (go_at_call 34; refine (TX.out _).mono ?_; rintro e w5 ⟨rfl, b5⟩))
    go_ret2
    exact ⟨by rw [E.out.1, E.out.2]; rfl, chain q (chain (chain b2 b3) (chain b4 b5))⟩

theorem cell_one_new (w : World) (v : Value) (t : TypeId) : ∀ j u, [v][j]? = some u → (w.alloc (.cells #[v] t)).cell? ((⟨w.heap.size, 0, none⟩ : Addr).add j) = some u := by
  have hn : (w.alloc (.cells #[v] t)).heap[w.heap.size]? = some (.cells #[v] t (0, 0)) := Go.Deep.blk_alloc_new _ _
  intro j u hu
  cases j with
  | zero =>
    have e : (⟨w.heap.size, 0, none⟩ : Addr).add 0 = ⟨w.heap.size, 0, none⟩ := rfl
    rw [e]
    simp only [World.cell?, hn]
    simpa using hu
  | succ j => simp at hu

theorem own_slice2 {w : World} {base E : Nat} {v : Value} {n : Nat} {ys : List Value} (h : w.ownsRow base E 1 v n ys) : ∃ a c, v = .slice a n c := by
  rcases h.2 with ⟨rfl, h0⟩ | ⟨g, cap, cur, rfl, _⟩
  · exact ⟨none, 0, by rw [h0]⟩
  · exact ⟨_, _, rfl⟩

set_option maxHeartbeats 4000000 in
theorem changes_is (n o : Nat) (hn : 1 ≤ n ∧ n ≤ 8) (ho : o < 256) (w : World) :
    Calls Tryd.prog 44 #[tkc n o] w (MadeInts w (nxC n o n)) := by
  obtain ⟨i0, hi, hz0, hz1, hz2⟩ := info_parts info_int
  have CA := Lib.hid (fun (k : Nat) (hk : k < n) => can_is n o k hn ho hk)
  unfold tkc at *
  have p := Pair.new w (.int .u64 o) (.int .i64 n) 54
  have q := below_alloc w (.cells #[.int .u64 o, .int .i64 n] 54)
  obtain ⟨W, hW⟩ : ∃ W, W = w.alloc (.cells #[.int .u64 o, .int .i64 n] 54) := ⟨_, rfl⟩
  rw [← hW] at p q
  have HW := Lib.hid hW
  have P := Lib.hid p
  have Q := Lib.hid q
  have k1 := p.cell1
  have h8 : (n : Int) ≤ 8 := by omega
  clear hW p q ho
  go_enter Tryd.func44, Tryd.ntmps44
  go_upto_region 1 with fail
  rw [← HW.out]
  go_wp2_with fail
  clear k1
  go_loopw [3, 4, 7] (fun v _ i wr => ∃ k : Nat, k ≤ n ∧ i = .int .i64 k ∧ OwnI wr W.heap.size v (nxC n o k) ∧ Below W.heap.size W wr) (fun _ _ i _ => n - (intOf i).toNat)
  case atStart => exact ⟨0, by omega, rfl, own_nil _, Below.refl _ _⟩
  case round =>
    obtain ⟨k, hk, rfl, hown, hbel⟩ := hrel
    by_cases hlt : k < n
    · have hki : (k : Int) < (n : Int) := by omega
      have z0 := (P.out.below hbel).cell0
      have z1 := (P.out.below hbel).cell1
      have YES := @nxC_yes n o k
      have NO := @nxC_no n o k
      obtain ⟨r, hr⟩ : ∃ r, r = can n o k := ⟨_, rfl⟩
      have C1 := Lib.hid (hr ▸ CA.out k hlt)
      rw [← hr] at YES NO
      have BB := Lib.hid hbel
      clear hr hbel
      obtain ⟨m, hm⟩ : ∃ m, m = (nxC n o k).length := ⟨_, rfl⟩
      have hm8 : m ≤ 8 := by have := nxC_length n o k; omega
      have OW := Lib.hid hown
      cases r
      · have HC := Lib.hid (NO rfl)
        clear YES NO hown hm
        go_wp2_with (go_at_call 47; refine (C1.out _).mono ?_; rintro e w3 ⟨rfl, b3⟩)
        have O3 := Lib.hid (OW.out.below b3)
        have B3 := Lib.hid (BB.out.trans (b3.mono BB.out.size))
        clear b3
        go_roundw
        case rel => exact ⟨k + 1, by omega, by go_num, HC.out ▸ O3.out, B3.out⟩
        case measure => simp [intOf]; omega
      · have HC := Lib.hid (YES rfl)
        have OWM := fun (X : World) (q : Below wr.heap.size wr X) => hown.below q
        unfold OwnI at OWM
        simp only [← hm] at OWM
        have OWM := Lib.hid OWM
        have BX := Lib.hid (fun (X : World) (q : Below wr.heap.size wr X) => BB.out.trans (q.mono BB.out.size))
        have HM := Lib.hid hm
        clear YES NO hown hm
        go_wp2_with (first
          | (go_at_call 47; refine (C1.out _).mono ?_; rintro e w3 ⟨rfl, b3⟩; have hor := OWM.out _ b3; have hsz := (BX.out _ b3).size)
          | (at_builtin; refine wpList_append_own _ rfl _ _ 41 rfl W.heap.size 3 i0 (.int .i64 0) 1 8 Tryd.underlying41 hi hz0 hz1 hz2 rfl (by decide) _ _ _ rfl (hor.alloc _) ⟨w3.heap.size, 0, none⟩ 1 1 [.int .i64 k] rfl rfl ?c1 ?c2 ?c3 ?c4 ?c5 ?_))
        case c1 => exact cell_one_new _ _ _
        case c2 => intro u hu; simp at hu; subst hu; rfl
        case c3 => simp only [maxLen]; omega
        case c4 => omega
        case c5 => simp; omega
        intro v' w4 hown' hgrow _
        have B3 := Lib.hid (BX.out _ b3)
        clear b3
        have HB := Lib.hid ((B3.out.alloc (by omega) _).grown hgrow (by simp; omega) (fun g hg => (World.ownsRow.lt hor g hg).1))
        have HO := Lib.hid (show OwnI w4 W.heap.size v' (nxC n o (k + 1)) by
          unfold OwnI
          rw [HC.out, List.length_append, List.map_append, ← HM.out]
          exact hown')
        clear hown' hgrow hor
        go_wp2_with fail
        go_roundw
        case rel => exact ⟨k + 1, by omega, by go_num, HO.out, HB.out⟩
        case measure => simp [intOf]; omega
    · obtain rfl : k = n := by omega
      have OW := Lib.hid (hown.mono Q.out.size)
      have BB := Lib.hid (chain Q.out hbel)
      clear hown hbel
      go_wp2_with fail
      go_ret
      exact ⟨_, rfl, OW.out, BB.out⟩

theorem nxT_no {S : ByteArray} (h : trB S = false) : nxT S = [] := by unfold nxT; rw [h]; rfl
theorem nxT_yes {S : ByteArray} (h : trB S = true) : nxT S = nxC S.size (oc S) S.size := by unfold nxT; rw [h]; rfl
theorem nxT_length (S : ByteArray) : (nxT S).length ≤ 8 := by
  unfold nxT
  split
  · rename_i h
    have := nxC_length S.size (oc S) S.size
    have := (trB_of h).1.2
    omega
  · exact Nat.zero_le _

set_option maxHeartbeats 1000000 in
theorem implTrackNext (S : ByteArray) (hS : S.size ≤ 1048576) (w : World) : Calls Tryd.prog 23 #[.string S] w (MadeInts w (nxT S)) := by
  have T := trackOf_is S hS w
  obtain ⟨t, ht⟩ : ∃ t, t = trB S := ⟨_, rfl⟩
  cases t
  · rw [tkO_no ht.symm, ← ht] at T
    unfold tkc at T
    have T := Lib.hid T
    have E := Lib.hid (nxT_no ht.symm)
    clear ht
    go_enter Tryd.func23, Tryd.ntmps23
    go_wp2_with (go_at_call 32; refine T.out.mono ?_; rintro e w1 ⟨rfl, b1⟩)
    go_ret
    exact ⟨.slice none 0 0, rfl, by rw [E.out]; exact World.ownsRow_nil _ _ _ _, b1.alloc b1.size _⟩
  rw [tkO_yes ht.symm, ← ht] at T
  have E := Lib.hid (nxT_yes ht.symm)
  have CH := changes_is S.size (oc S) (trB_of ht.symm).1 (oc_lt2 ht.symm).2
  unfold tkc at T CH
  have T := Lib.hid T
  have CH := Lib.hid CH
  clear ht
  go_enter Tryd.func23, Tryd.ntmps23
  go_upto_region 2 with (go_at_call 32; refine T.out.mono ?_; rintro e w1 ⟨rfl, b1⟩)
  have p := Pair.new w1 (.int .u64 (oc S : Nat)) (.int .i64 S.size) 54
  have q := b1.alloc b1.size (.cells #[.int .u64 (oc S : Nat), .int .i64 S.size] 54)
  obtain ⟨W, hW⟩ : ∃ W, W = w1.alloc (.cells #[.int .u64 (oc S : Nat), .int .i64 S.size] 54) := ⟨_, rfl⟩
  rw [← hW] at p q ⊢
  have z0 := p.cell0
  have z1 := p.cell1
  clear hW
  go_wp2_with (go_at_call 44; refine (CH.out _).mono ?_; rintro e w2 ⟨v2, rfl, o2, b2⟩)
  go_ret
  exact ⟨v2, rfl, by rw [E.out]; exact o2.mono q.size, chain q b2⟩

end Go.Proofs.YtilkphehonilbaaDoor
