/-
  Offsets and slacks of two registers, plainly: exchanged, of one register with itself, with more slack, three minutes later; a register later and earlier again. No walk.
-/
import Derived.Test.YtphadofigcipcaaNoteP
import Derived.Test.YtphadofigcipcaaRegL
namespace Go.Proofs.Ytphadofigcipcaa

theorem lat_turn (ms ns : List Mv) (i : Nat) : latN ns ms i = - latN ms ns i := by unfold latN; omega
theorem off_turn (ms ns : List Mv) (sl : Int) : ∀ k, offL ns ms sl k = - offG ms ns sl k ∧ offG ns ms sl k = - offL ms ns sl k
  | 0 => ⟨rfl, rfl⟩
  | k + 1 => by
    obtain ⟨h1, h2⟩ := off_turn ms ns sl k
    simp only [offL, offG]
    rw [h1, h2, lat_turn ms ns k]
    omega
theorem offO_turn (ms ns : List Mv) (sl : Int) : (offO ns ms sl).isSome = (offO ms ns sl).isSome := by
  have key : ∀ ms ns : List Mv, (offO ms ns sl).isSome = true → (offO ns ms sl).isSome = true := by
    intro ms ns h
    obtain ⟨o, ho⟩ := Option.isSome_iff_exists.1 h
    obtain ⟨⟨h1, h2, h3⟩, ⟨h4, h5⟩, h6, -⟩ := offO_is ho
    have hl := text_length h1 h2 h3
    obtain ⟨e1, e2⟩ := off_turn ms ns sl ms.length
    rw [offO_yes h2 h1 h3.symm h4 h5 (by rw [hl, e1, e2]; omega)]
    rfl
  cases a : (offO ms ns sl).isSome
  · cases b : (offO ns ms sl).isSome
    · rfl
    · rw [key _ _ b] at a; cases a
  · exact key _ _ a
theorem slkO_turn (ms ns : List Mv) : slkO ns ms = slkO ms ns := by
  unfold slkO
  congr 2
  funext k
  exact offO_turn ms ns k
theorem off_self (ms : List Mv) (sl : Int) (h0 : 0 ≤ sl) : ∀ k, offL ms ms sl k ≤ 0 ∧ 0 ≤ offG ms ms sl k
  | 0 => by simp [offL, offG]
  | k + 1 => by
    obtain ⟨h1, h2⟩ := off_self ms sl h0 k
    have : latN ms ms k = 0 := by unfold latN; omega
    simp only [offL, offG]
    omega
theorem offO_self {ms : List Mv} {sl : Int} (h : regB ms = true) (h0 : 0 ≤ sl) (h5 : sl ≤ 5) : offO ms ms sl = some (offL ms ms sl ms.length) ∧ offL ms ms sl ms.length ≤ 0 := by
  obtain ⟨a, b⟩ := off_self ms sl h0 ms.length
  exact ⟨offO_yes h h rfl h0 h5 (by omega), a⟩
theorem slkO_self {ms : List Mv} (h : regB ms = true) : slkO ms ms = some 0 := by
  have q := slkO_at (ms := ms) (ns := ms) (k := 0) (by omega) (fun j hj => absurd hj (Nat.not_lt_zero j)) (by
    show (offO ms ms 0).isSome = true
    rw [(offO_self h (Int.le_refl 0) (by omega)).1]; rfl)
  exact q
theorem slkO_is {ms ns : List Mv} {o : Int} (h : slkO ms ns = some o) : 0 ≤ o ∧ o ≤ 5 ∧ (offO ms ns o).isSome = true ∧ (offO ms ns (o - 1)).isSome = false := by
  unfold slkO at h
  cases e : (List.range 6).find? (fun (k : Nat) => (offO ms ns (k : Int)).isSome) with
  | none => rw [e] at h; cases h
  | some k =>
    rw [e] at h
    simp only [Option.map_some, Option.some.injEq] at h
    subst h
    rw [List.find?_range_eq_some] at e
    obtain ⟨e1, e2, e3⟩ := e
    have hk := List.mem_range.1 e2
    refine ⟨by omega, by omega, e1, ?_⟩
    rcases Nat.eq_zero_or_pos k with c | c
    · subst c
      rw [offO_slack (.inl (by omega))]; rfl
    · have := e3 (k - 1) (by omega)
      rw [show ((k : Nat) : Int) - 1 = ((k - 1 : Nat) : Int) by omega]
      simpa using this
theorem slkO_reg {ms ns : List Mv} {o : Int} (h : slkO ms ns = some o) : regB ms = true ∧ regB ns = true ∧ ns.length = ms.length := by
  obtain ⟨x, hx⟩ := Option.isSome_iff_exists.1 (slkO_is h).2.2.1
  obtain ⟨⟨h1, h2, h3⟩, -⟩ := offO_is hx
  exact ⟨h1, h2, text_length h1 h2 h3⟩
theorem off_more (ms ns : List Mv) (sl : Int) : ∀ k, offL ms ns (sl + 1) k ≤ offL ms ns sl k ∧ offG ms ns sl k ≤ offG ms ns (sl + 1) k
  | 0 => ⟨Int.le_refl _, Int.le_refl _⟩
  | k + 1 => by
    obtain ⟨h1, h2⟩ := off_more ms ns sl k
    simp only [offL, offG]
    omega
/-- What a found offset says. -/
theorem offO_facts {ms ns : List Mv} {sl o : Int} (h : offO ms ns sl = some o) : regB ms = true ∧ regB ns = true ∧ nTx ms = nTx ns ∧ ns.length = ms.length ∧ 0 ≤ sl ∧ sl ≤ 5 ∧ o = offL ms ns sl ms.length ∧ o ≤ offG ms ns sl ms.length ∧ -30 ≤ o ∧ o ≤ 30 ∧ (∀ i, i < ms.length → -sl ≤ latN ms ns i - o ∧ latN ms ns i - o ≤ sl) := by
  obtain ⟨⟨h1, h2, h3⟩, ⟨h4, h5⟩, h6, h7⟩ := offO_is h
  obtain ⟨a, b, c⟩ := (off_agree ms ns sl o ms.length).2 ⟨by rw [h7]; exact Int.le_refl _, by rw [h7]; exact h6⟩
  exact ⟨h1, h2, h3, text_length h1 h2 h3, h4, h5, h7, by rw [h7]; exact h6, b, c, a⟩
theorem offO_more {ms ns : List Mv} {sl o : Int} (h : offO ms ns sl = some o) (hs : sl ≠ 5) : ∃ x, offO ms ns (sl + 1) = some x ∧ x ≤ o := by
  obtain ⟨h1, h2, h3, -, h4, h5, h6, h7, -⟩ := offO_facts h
  obtain ⟨a, b⟩ := off_more ms ns sl ms.length
  exact ⟨_, offO_yes h1 h2 h3 (by omega) (by omega) (by omega), by omega⟩
theorem off_later {ms ns ls : List Mv} {sl : Int} {c : Int} (hc : 0 ≤ c) (n : Nat) (hd : ∀ i, i < n → latN ms ls i = latN ms ns i + c) : ∀ k, k ≤ n →
    (-30 < offL ms ns sl k → offL ms ls sl k = offL ms ns sl k + c) ∧ (offL ms ns sl k = -30 → offL ms ls sl k ≤ -30 + c) ∧ -30 ≤ offL ms ns sl k ∧ -30 ≤ offL ms ls sl k ∧ offG ms ls sl k ≤ 30 ∧ (∀ o, o ≤ offG ms ns sl k → o + c ≤ 30 → o + c ≤ offG ms ls sl k)
  | 0, _ => by
    simp only [offL, offG]
    exact ⟨fun q => absurd q (by omega), fun _ => by omega, by omega, by omega, by omega, fun o _ h => h⟩
  | k + 1, hk => by
    obtain ⟨h1, h2, h3, h4, h5, h6⟩ := off_later (sl := sl) hc n hd k (by omega)
    have e := hd k (by omega)
    refine ⟨?_, ?_, ?_, ?_, ?_, ?_⟩
    · simp only [offL]; rw [e]; omega
    · simp only [offL]; rw [e]; omega
    · simp only [offL]; omega
    · simp only [offL]; omega
    · simp only [offG]; omega
    · intro o ho hoc
      simp only [offG] at ho ⊢
      rw [e]
      have := h6 o (by omega) hoc
      omega
theorem latL_at {ns : List Mv} {k : Int} (h : regB ns = true) (hk : -2000 ≤ k ∧ k ≤ 2000) {i : Nat} (hi : i < ns.length) : (latL ns k).getD i noMv = ((ns.getD i noMv).1 + k, (ns.getD i noMv).2) := by
  rw [latL_get hi, IntWalk.wrap64_in _ (by have := reg_note h hi; omega)]
theorem latL_text {ns : List Mv} {k : Int} : ∀ j, j ≤ ns.length → ntx (latL ns k) j = ntx ns j
  | 0, _ => rfl
  | j + 1, hj => by
    simp only [ntx]
    rw [latL_text j (by omega), latL_get (by omega)]
theorem latL_nTx' (ns : List Mv) (k : Int) : nTx (latL ns k) = nTx ns := by
  unfold nTx; rw [latL_length]; exact latL_text _ (Nat.le_refl _)
theorem latB_is {ns : List Mv} {k : Int} (h : latB ns k = true) : regB ns = true ∧ regB (latL ns k) = true ∧ latV ns k = latL ns k := by
  unfold latB at h
  rw [Bool.and_eq_true] at h
  exact ⟨h.1, h.2, by unfold latV; rw [h.1, if_pos rfl, regL_yes h.2]⟩
/-- The offset of a register that is three minutes later. -/
theorem offO_late {ms ns : List Mv} {sl o : Int} (h : offO ms ns sl = some o) (hl : latB ns 3 = true) (ho : o ≠ -30) : (o + 3 ≤ 30 ∧ offO ms (latV ns 3) sl = some (o + 3)) ∨ (30 < o + 3 ∧ offO ms (latV ns 3) sl = none) := by
  obtain ⟨h1, h2, h3, h4, h5, h6, h7, h8, h9, h10, -⟩ := offO_facts h
  obtain ⟨a, b, c⟩ := latB_is hl
  rw [c]
  have ht : nTx ms = nTx (latL ns 3) := by rw [latL_nTx', h3]
  have hd : ∀ i, i < ms.length → latN ms (latL ns 3) i = latN ms ns i + 3 := by
    intro i hi
    unfold latN
    rw [latL_at a (by omega) (by omega)]
    simp only; omega
  obtain ⟨q1, q2, q3, q4, q5, q6⟩ := off_later (sl := sl) (c := 3) (by omega) ms.length hd ms.length (Nat.le_refl _)
  have e := q1 (by omega)
  rcases Int.lt_or_le 30 (o + 3) with c30 | c30
  · exact .inr ⟨c30, offO_no (by omega)⟩
  · have := q6 o h8 c30
    exact .inl ⟨c30, by rw [offO_yes h1 b ht h5 h6 (by omega), e, h7]⟩
end Go.Proofs.Ytphadofigcipcaa
