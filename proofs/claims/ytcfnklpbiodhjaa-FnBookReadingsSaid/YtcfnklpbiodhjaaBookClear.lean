/-
  Is a book clear, by the model and by the program: for lists of at most 1048576 lists, each of at most as many integers.
-/
import Derived.Test.YtcfnklpbiodhjaaBookOf
import Derived.Test.YtcfnklpbiodhjaaBegins
namespace Go.Proofs.Ytcfnklpbiodhjaa
open Go.RowKit Go.Sort

/-- No code of the first i begins another one of the book. -/
def ClearTo (bk : List (List Int)) (i : Nat) : Prop := ∀ l, l < i → ∀ k, k < bk.length → beginsB (bk.getD l []) (bk.getD k []) = false
noncomputable def clearB (bk : List (List Int)) : Bool := bookB bk && @decide (ClearTo bk bk.length) (Classical.propDecidable _)
theorem clearB_book {bk : List (List Int)} (h : ClearTo bk bk.length) : clearB bk = bookB bk := by simp [clearB, h]
theorem clearB_no {bk : List (List Int)} {i k : Nat} (hi : i < bk.length) (hk : k < bk.length) (h : beginsB (bk.getD i []) (bk.getD k []) = true) : clearB bk = false := by
  have : ¬ ClearTo bk bk.length := fun q => by
    have := q i hi k hk
    rw [h] at this
    cases this
  simp [clearB, this]

/-- The code begins none of the first k. -/
def BeginsNo (bk : List (List Int)) (xs : List Int) (k : Nat) : Prop := ∀ l, l < k → beginsB xs (bk.getD l []) = false
theorem BeginsNo.succ {bk : List (List Int)} {xs : List Int} {k : Nat} (h : BeginsNo bk xs k) (e : beginsB xs (bk.getD k []) = false) : BeginsNo bk xs (k + 1) := by
  intro l hl
  by_cases q : l = k
  · subst q; exact e
  · exact h l (by omega)
theorem ClearTo.succ {bk : List (List Int)} {i : Nat} (h : ClearTo bk i) (e : BeginsNo bk (bk.getD i []) bk.length) : ClearTo bk (i + 1) := by
  intro l hl k hk
  by_cases q : l = i
  · subst q; exact e k hk
  · exact h l (by omega) k hk

theorem isDg_code {xs : List Int} (h : groupsB xs 1 5 = true) : IsDg (dgS xs) xs := by
  have := groupsB_ok h
  exact ⟨rfl, this.1, by omega⟩

set_option maxHeartbeats 1000000 in
theorem indexBegins {w : World} {v : Value} {bk : List (List Int)} {xs : List Int} (h : Strs w v (bk.map dgS)) (hb : BookTo bk bk.length) (hx : groupsB xs 1 5 = true) :
    Calls Try.prog 44 #[v, .func (.func 30) #[.string (dgS xs)] #[]] w fun e w' => e = .returned (.int .i64 (firstIdx (fun i => beginsB xs (bk.getD i [])) 0 bk.length)) ∧ w = w' := by
  obtain ⟨a, cap, rfl, hl, hc⟩ := h
  have hbl : (bk.map dgS).length = bk.length := List.length_map ..
  rw [hbl] at hl hc ⊢
  have hl' : (bk.length : Int) ≤ 1048576 := by omega
  rcases hc with hc | ⟨b, o, rfl, hb0, hcell⟩
  · have h0 : bk = [] := by cases bk <;> simp_all
    subst h0
    go_enter Try.func44, Try.ntmps44
    go_wp2_with fail
    refine wp_loop_rounds 1 ?_
    rw [rounds_succ]
    go_wp2_with fail
    go_ret
    exact ⟨rfl, rfl⟩
  · have HC := Lib.hid hcell
    have HB := Lib.hid hb
    have HX := Lib.hid hx
    clear hcell hb hx hbl
    go_enter Try.func44, Try.ntmps44
    go_wp2_with fail
    go_loop [5, 8] (fun _ i => ∃ k : Nat, k ≤ bk.length ∧ i = .int .i64 k ∧ BeginsNo bk xs k) (fun _ i => bk.length - (intOf i).toNat)
    case atStart => exact ⟨0, by omega, rfl, fun l hl => by omega⟩
    case round =>
      obtain ⟨k, hk, rfl, hn⟩ := hrel
      by_cases hlt : k < bk.length
      · obtain ⟨ys, hys⟩ : ∃ ys, ys = bk.getD k [] := ⟨_, rfl⟩
        have hc1 : w.cell? ⟨b, o + k, none⟩ = some (.string (dgS ys)) := by
          rw [HC.out k hlt, hys]
          simp [hlt]
        have hgv : groupsB ys 1 5 = true := by rw [hys]; exact HB.out.1 k hlt
        have hki : (k : Int) < (bk.length : Int) := by omega
        have hg := gBegins (w := w) (isDg_code HX.out) (isDg_code hgv)
        have e0 : (decide (xs.length < ys.length) && decide (xs = ys.take xs.length)) = beginsB xs ys := by simp [beginsB, HX.out, hgv]
        rw [e0] at hg
        have HY := Lib.hid hys
        clear hys hgv e0
        cases hv : beginsB xs ys
        · have HF := Lib.hid (hn.succ (by rw [← HY.out]; exact hv))
          rw [hv] at hg
          have HG := Lib.hid hg
          clear hg hv hn
          go_wp2_with (go_at_call 30; refine HG.out.mono ?_; rintro e w' ⟨rfl, rfl⟩)
          go_round
          case rel => exact ⟨k + 1, by omega, by go_num, HF.out⟩
          case measure => simp [intOf]; omega
        · have HF := Lib.hid (firstIdx_hit (f := fun i => beginsB xs (bk.getD i [])) hn (by show beginsB xs (bk.getD k []) = true; rw [← HY.out]; exact hv) hlt)
          rw [hv] at hg
          have HG := Lib.hid hg
          clear hg hv hn
          go_wp2_with (go_at_call 30; refine HG.out.mono ?_; rintro e w' ⟨rfl, rfl⟩)
          go_ret
          exact ⟨ret_int HF.out.symm, rfl⟩
      · obtain rfl : k = bk.length := by omega
        have HF := Lib.hid (firstIdx_none (f := fun i => beginsB xs (bk.getD i [])) hn)
        go_wp2_with fail
        go_ret
        exact ⟨ret_int HF.out.symm, rfl⟩

/-- Does the code begin one of the book? -/
def beginsAny (bk : List (List Int)) (xs : List Int) : Bool := decide (0 ≤ firstIdx (fun i => beginsB xs (bk.getD i [])) 0 bk.length)

set_option maxHeartbeats 400000 in
theorem containsBegins {w : World} {v : Value} {bk : List (List Int)} {xs : List Int} (h : Strs w v (bk.map dgS)) (hb : BookTo bk bk.length) (hx : groupsB xs 1 5 = true) :
    Calls Try.prog 29 #[v, .func (.func 30) #[.string (dgS xs)] #[]] w fun e w' => e = .returned (.bool (beginsAny bk xs)) ∧ w = w' := by
  have HI := Lib.hid (indexBegins h hb hx)
  clear h hb hx
  cases hv : beginsAny bk xs
  · have h0 : decide (0 ≤ firstIdx (fun i => beginsB xs (bk.getD i [])) 0 bk.length) = false := hv
    clear hv
    obtain ⟨q, hq⟩ : ∃ q, q = firstIdx (fun i => beginsB xs (bk.getD i [])) 0 bk.length := ⟨_, rfl⟩
    rw [← hq] at h0 HI
    clear hq
    go_enter Try.func29, Try.ntmps29
    go_wp2_with (go_at_call 44; refine HI.out.mono ?_; rintro e w' ⟨rfl, rfl⟩)
    go_ret
    exact ⟨rfl, rfl⟩
  · have h0 : 0 ≤ firstIdx (fun i => beginsB xs (bk.getD i [])) 0 bk.length := of_decide_eq_true hv
    clear hv
    obtain ⟨q, hq⟩ : ∃ q, q = firstIdx (fun i => beginsB xs (bk.getD i [])) 0 bk.length := ⟨_, rfl⟩
    rw [← hq] at h0 HI
    clear hq
    go_enter Try.func29, Try.ntmps29
    go_wp2_with (go_at_call 44; refine HI.out.mono ?_; rintro e w' ⟨rfl, rfl⟩)
    go_ret
    exact ⟨rfl, rfl⟩

theorem beginsAny_no {bk : List (List Int)} {xs : List Int} (h : beginsAny bk xs = false) : BeginsNo bk xs bk.length := by
  intro l hl
  cases e : beginsB xs (bk.getD l [])
  · rfl
  · have : beginsAny bk xs = true := decide_eq_true (firstIdx_nonneg.2 ⟨l, hl, e⟩)
    rw [h] at this
    cases this
theorem beginsAny_yes {bk : List (List Int)} {xs : List Int} (h : beginsAny bk xs = true) : ∃ k, k < bk.length ∧ beginsB xs (bk.getD k []) = true := firstIdx_nonneg.1 (of_decide_eq_true h)

set_option maxHeartbeats 1000000 in
theorem implClear {w : World} {v : Value} {bk : List (List Int)} (h : Lists w v bk) :
    Calls Try.prog 10 #[v] w fun e w' => e = .returned (.bool (clearB bk)) ∧ Below w.heap.size w w' := by
  have hbl := h.len
  cases hvb : bookB bk
  · have HE := Lib.hid (show clearB bk = false by simp [clearB, hvb])
    go_enter Try.func10, Try.ntmps10
    go_wp2_with (go_at_call 23; refine (bookOf h).mono ?_)
    rintro e w1 ⟨q, rfl, b1, _⟩
    go_wp2_with fail
    go_ret
    exact ⟨ret_bool HE.out.symm, b1⟩
  · have HB := Lib.hid (bookB_is hvb)
    have hl' : (bk.length : Int) ≤ 1048576 := by omega
    go_enter Try.func10, Try.ntmps10
    go_wp2_with (go_at_call 23; refine (bookOf h).mono ?_)
    rintro e w1 ⟨q, rfl, b1, hst⟩
    have hs1 := hst hvb
    have hs1' := hs1
    obtain ⟨a, cap, rfl, hl, hc⟩ := hs1
    have hmapl : (bk.map dgS).length = bk.length := List.length_map ..
    rw [hmapl] at hl hc hs1' ⊢
    have HV := Lib.hid hvb
    clear hst hmapl
    rcases hc with hc | ⟨b, o, rfl, hb0, hcell⟩
    · have h0 : bk = [] := by cases bk <;> simp_all
      subst h0
      have HE := Lib.hid (show clearB [] = true by rw [clearB_book (fun l hl => by simp at hl)]; exact HV.out)
      go_wp2_with fail
      refine wp_loop_rounds 1 ?_
      rw [rounds_succ]
      go_wp2_with fail
      go_ret
      exact ⟨ret_bool HE.out.symm, b1⟩
    · have HC := Lib.hid hcell
      have HS := Lib.hid hs1'
      clear hcell hs1'
      go_wp2_with fail
      go_loop [6, 16] (fun _ i => ∃ k : Nat, k ≤ bk.length ∧ i = .int .i64 k ∧ ClearTo bk k) (fun _ i => bk.length - (intOf i).toNat)
      case atStart => exact ⟨0, by omega, rfl, fun l hl => by omega⟩
      case round =>
        obtain ⟨k, hk, rfl, hn⟩ := hrel
        by_cases hlt : k < bk.length
        · obtain ⟨xs, hxs⟩ : ∃ xs, xs = bk.getD k [] := ⟨_, rfl⟩
          have hc1 : w1.cell? ⟨b, o + k, none⟩ = some (.string (dgS xs)) := by
            rw [HC.out k (by simpa using hlt), hxs]
            simp [hlt]
          have hgv : groupsB xs 1 5 = true := by rw [hxs]; exact HB.out.1.1 k hlt
          have hki : (k : Int) < (bk.length : Int) := by omega
          have HG := Lib.hid (containsBegins HS.out HB.out.1 hgv)
          have HX := Lib.hid hxs
          clear hxs hgv
          cases hv : beginsAny bk xs
          · have HF := Lib.hid (hn.succ (by rw [← HX.out]; exact beginsAny_no hv))
            rw [hv] at HG
            clear hv hn
            go_wp2_with (go_at_call 29; refine HG.out.mono ?_; rintro e w' ⟨rfl, rfl⟩)
            go_round
            case rel => exact ⟨k + 1, by omega, by go_num, HF.out⟩
            case measure => simp [intOf]; omega
          · have HF := Lib.hid (show clearB bk = false by
              obtain ⟨j, hj, e⟩ := beginsAny_yes hv
              exact clearB_no hlt hj (by rw [← HX.out]; exact e))
            rw [hv] at HG
            clear hv hn
            go_wp2_with (go_at_call 29; refine HG.out.mono ?_; rintro e w' ⟨rfl, rfl⟩)
            go_ret
            exact ⟨ret_bool HF.out.symm, b1⟩
        · obtain rfl : k = bk.length := by omega
          have HF := Lib.hid (show clearB bk = true by rw [clearB_book hn]; exact HV.out)
          go_wp2_with fail
          go_ret
          exact ⟨ret_bool HF.out.symm, b1⟩

end Go.Proofs.Ytcfnklpbiodhjaa
