/-
  Trains, missing notes, later notes, joined ones, those of one section, plainly. No walk.
-/
import Derived.Test.YtodknakemgmhkabNoteO
namespace Go.Proofs.Ytodknakemgmhkab
open Go.RowKit

/-- The byte of a letter. -/
theorem ntx_get {ns : List Mv} {n : Nat} (h : ∀ i, i < ns.length → evB (ns.getD i noMv).2 = true) (hn : n ≤ ns.length) {i : Nat} (hi : i < n) : bt (ntx ns n) i = bt (ns.getD i noMv).2 0 := by
  induction n with
  | zero => omega
  | succ n ih =>
    have hs := ntx_size h (show n ≤ ns.length by omega)
    have hl := evB_size (h n (by omega))
    simp only [ntx]
    by_cases e : i < n
    · rw [← ih (by omega) e]
      unfold bt
      congr 2
      rw [getElem?_pos _ i (by rw [ByteArray.size_append]; omega), getElem?_pos _ i (by omega)]
      rw [ByteArray.getElem_append_left (by omega)]
    · obtain rfl : i = n := by omega
      unfold bt
      congr 2
      rw [getElem?_pos _ i (by rw [ByteArray.size_append]; omega), getElem?_pos _ 0 (by omega)]
      rw [ByteArray.getElem_append_right (by omega)]
      simp only [hs, Nat.sub_self]
theorem reg_bt {ns : List Mv} (h : regB ns = true) {i : Nat} (hi : i < ns.length) : bt (nTx ns) i = bt (ns.getD i noMv).2 0 := ntx_get (fun _ hi => (reg_note h hi).2.2) (Nat.le_refl _) hi
theorem evB_bt {s t : ByteArray} (h : evB s = true) (h' : evB t = true) : s = t ↔ bt s 0 = bt t 0 := by
  obtain ⟨k, hk, rfl⟩ := evB_is h
  obtain ⟨j, hj, rfl⟩ := evB_is h'
  rw [ltr_bt, ltr_bt]
  constructor
  · intro e; rw [← ltr_bt, ← ltr_bt, e]
  · have h1 : k = 0 ∨ k = 1 ∨ k = 2 ∨ k = 3 ∨ k = 4 ∨ k = 5 ∨ k = 6 := by omega
    have h2 : j = 0 ∨ j = 1 ∨ j = 2 ∨ j = 3 ∨ j = 4 ∨ j = 5 ∨ j = 6 := by omega
    rcases h1 with rfl | rfl | rfl | rfl | rfl | rfl | rfl <;> rcases h2 with rfl | rfl | rfl | rfl | rfl | rfl | rfl <;> first | (intro; rfl) | (intro e; exact absurd e (by decide))

/-- In a legal text trains leave just behind their entry. -/
theorem legal_state {S : ByteArray} (h : bkLegal S = true) {k : Nat} (hk : k ≤ S.size) : ∃ x, bkTo nb S k = some x := by
  cases e : bkTo nb S k with
  | none =>
    unfold bkLegal at h
    rw [bkRun_none hk e] at h
    cases h
  | some x => exact ⟨x, rfl⟩
theorem legal_el {S : ByteArray} (h : bkLegal S = true) {i : Nat} (hi : i + 1 < S.size) : bt S i = 101 ↔ bt S (i + 1) = 108 := by
  obtain ⟨x, hx⟩ := legal_state h (k := i) (by omega)
  obtain ⟨y, hy⟩ := legal_state h (k := i + 1) (by omega)
  obtain ⟨z, hz⟩ := legal_state h (k := i + 2) (by omega)
  have hz' := bkTo_succ hy
  rw [hz] at hz'
  have hy' := bkTo_succ hx
  rw [hy] at hy'
  rcases bkStep_cases hy'.symm with ⟨e, _, f⟩ | ⟨e, _, f⟩ | ⟨e, _, f⟩ | ⟨e, _, f⟩ | ⟨e, _, f⟩ | ⟨e, _, f⟩ | ⟨e, _, f⟩ <;> rcases bkStep_cases hz'.symm with ⟨e', f', _⟩ | ⟨e', f', _⟩ | ⟨e', f', _⟩ | ⟨e', f', _⟩ | ⟨e', f', _⟩ | ⟨e', f', _⟩ | ⟨e', f', _⟩ <;> (rw [e, e']; first | (exact absurd (f.symm.trans f') (by decide)) | decide)
theorem legal_l0 {S : ByteArray} (h : bkLegal S = true) (hi : 0 < S.size) : bt S 0 ≠ 108 := by
  obtain ⟨y, hy⟩ := legal_state h (k := 1) (by omega)
  rw [bkTo_succ (show bkTo nb S 0 = some nb from rfl)] at hy
  rcases bkStep_cases hy with ⟨e, f, _⟩ | ⟨e, f, _⟩ | ⟨e, f, _⟩ | ⟨e, f, _⟩ | ⟨e, f, _⟩ | ⟨e, f, _⟩ | ⟨e, f, _⟩ <;> (rw [e]; first | decide | exact absurd f (by decide))

/-- The minutes of all trains that have left among the first k notes. -/
def trT (ns : List Mv) : Nat → List Int
  | 0 => []
  | 1 => []
  | k + 2 => if (ns.getD (k + 1) noMv).2 = ltS 4 then trT ns (k + 1) ++ [(ns.getD (k + 1) noMv).1 - (ns.getD k noMv).1] else trT ns (k + 1)
theorem trT_yes {ns : List Mv} {k : Nat} (h : (ns.getD (k + 1) noMv).2 = ltS 4) : trT ns (k + 2) = trT ns (k + 1) ++ [(ns.getD (k + 1) noMv).1 - (ns.getD k noMv).1] := by simp only [trT]; rw [if_pos h]
theorem trT_no {ns : List Mv} {k : Nat} (h : (ns.getD (k + 1) noMv).2 ≠ ltS 4) : trT ns (k + 2) = trT ns (k + 1) := by simp only [trT]; rw [if_neg h]
theorem trT_length (ns : List Mv) (k : Nat) : (trT ns k).length ≤ k := by
  match k with
  | 0 => simp [trT]
  | 1 => simp [trT]
  | k + 2 =>
    have := trT_length ns (k + 1)
    simp only [trT]
    split
    · rw [List.length_append, List.length_singleton]; omega
    · omega
theorem sound_is {ns : List Mv} (h : soundB ns = true) : regB ns = true ∧ bkLegal (nTx ns) = true := by
  unfold soundB at h
  rwa [Bool.and_eq_true] at h
theorem sound_el {ns : List Mv} (h : soundB ns = true) {i : Nat} (hi : i + 1 < ns.length) : (ns.getD i noMv).2 = ltS 2 ↔ (ns.getD (i + 1) noMv).2 = ltS 4 := by
  obtain ⟨h1, h2⟩ := sound_is h
  have e2 : evB (ltS 2) = true := evB_yes (k := 2) (by omega) rfl
  have e4 : evB (ltS 4) = true := evB_yes (k := 4) (by omega) rfl
  rw [evB_bt (reg_note h1 (i := i) (by omega)).2.2 e2, evB_bt (reg_note h1 hi).2.2 e4, ← reg_bt h1 (i := i) (by omega), ← reg_bt h1 hi, ltr_bt, ltr_bt]
  exact legal_el h2 (by rw [nTx_size h1]; exact hi)
theorem sound_l0 {ns : List Mv} (h : soundB ns = true) (hi : 0 < ns.length) : (ns.getD 0 noMv).2 ≠ ltS 4 := by
  obtain ⟨h1, h2⟩ := sound_is h
  have e4 : evB (ltS 4) = true := evB_yes (k := 4) (by omega) rfl
  intro e
  rw [evB_bt (reg_note h1 hi).2.2 e4, ← reg_bt h1 hi, ltr_bt] at e
  exact legal_l0 h2 (by rw [nTx_size h1]; exact hi) e
def trL (ns : List Mv) : List Int := if soundB ns = true then trT ns ns.length else []

/-- A part of a register is one. -/
theorem reg_pair {ns : List Mv} (h : regB ns = true) {i j : Nat} (hij : i ≤ j) (hj : j < ns.length) : (ns.getD i noMv).1 ≤ (ns.getD j noMv).1 := by
  induction j with
  | zero => obtain rfl : i = 0 := by omega
            exact Int.le_refl _
  | succ j ih =>
    by_cases e : i = j + 1
    · rw [e]; exact Int.le_refl _
    · have h1 := ih (by omega) (by omega)
      have h2 := (fwdAt_is ((regB_is h).2 (j + 1) hj)).1
      simp only [lastM] at h2
      omega
theorem reg_of_pick {ns ms : List Mv} (h : regB ns = true) (f : Nat → Nat) (hl : ms.length ≤ ns.length) (hf : ∀ i, i < ms.length → f i < ns.length ∧ ms.getD i noMv = ns.getD (f i) noMv) (hm : ∀ i, i + 1 < ms.length → f i ≤ f (i + 1)) : regB ms = true := by
  have h30 := (regB_is h).1
  rw [regB_yes ?_, decide_eq_true (by omega)]
  intro i hi
  obtain ⟨f1, f2⟩ := hf i hi
  obtain ⟨n1, n2, n3⟩ := reg_note h f1
  refine fwdAt_of ?_ (by rw [f2]; exact n2) (by rw [f2]; exact n3)
  cases i with
  | zero => rw [f2]; exact n1
  | succ i =>
    obtain ⟨g1, g2⟩ := hf i (by omega)
    simp only [lastM]
    rw [g2, f2]
    exact reg_pair h (hm i hi) f1
theorem reg_but {ns : List Mv} (h : regB ns = true) {i : Nat} (hi : i < ns.length) : regB (ns.eraseIdx i) = true := by
  refine reg_of_pick h (fun j => if j < i then j else j + 1) (by rw [List.length_eraseIdx]; split <;> omega) (fun j hj => ?_) (fun j _ => ?_)
  · rw [List.length_eraseIdx, if_pos hi] at hj
    by_cases q : j < i
    · simp only [if_pos q]
      refine ⟨by omega, ?_⟩
      simp only [List.getD_eq_getElem?_getD, List.getElem?_eraseIdx, if_pos q]
    · simp only [if_neg q]
      refine ⟨by omega, ?_⟩
      simp only [List.getD_eq_getElem?_getD, List.getElem?_eraseIdx, if_neg q]
  · show (if j < i then j else j + 1) ≤ if j + 1 < i then j + 1 else j + 1 + 1
    split <;> split <;> omega
theorem reg_take {ns : List Mv} (h : regB ns = true) (k : Nat) : regB (ns.take k) = true := by
  refine reg_of_pick h (fun j => j) (by rw [List.length_take]; omega) (fun j hj => ?_) (fun j _ => by omega)
  rw [List.length_take] at hj
  refine ⟨by omega, ?_⟩
  simp only [List.getD_eq_getElem?_getD, List.getElem?_take, if_pos (show j < k by omega)]
theorem reg_drop {ns : List Mv} (h : regB ns = true) (k : Nat) : regB (ns.drop k) = true := by
  refine reg_of_pick h (fun j => k + j) (by rw [List.length_drop]; omega) (fun j hj => ?_) (fun j _ => by omega)
  rw [List.length_drop] at hj
  refine ⟨by omega, ?_⟩
  simp only [List.getD_eq_getElem?_getD, List.getElem?_drop]
theorem reg_joined {ms ns : List Mv} (h : regB (ms ++ ns) = true) : regB ms = true ∧ regB ns = true := by
  have h1 := reg_take h ms.length
  have h2 := reg_drop h ms.length
  rw [List.take_left] at h1
  rw [List.drop_left] at h2
  exact ⟨h1, h2⟩
theorem reg_unt {ns : List Mv} (h : regB ns = true) (m : Int) : regB (untL ns m) = true := by
  have e : untL ns m = ns.take (untL ns m).length := by
    have hp : untL ns m <+: ns := List.takeWhile_prefix _
    exact List.prefix_iff_eq_take.1 hp
  rw [e]
  exact reg_take h _

/-- The indexes without which two registers agree. -/
def misTo (ms ns : List Mv) (sl : Int) : Nat → List Int
  | 0 => []
  | k + 1 => if (offO (ms.eraseIdx k) ns sl).isSome then misTo ms ns sl k ++ [(k : Int)] else misTo ms ns sl k
theorem misTo_yes {ms ns : List Mv} {sl : Int} {k : Nat} (h : (offO (ms.eraseIdx k) ns sl).isSome = true) : misTo ms ns sl (k + 1) = misTo ms ns sl k ++ [(k : Int)] := by simp only [misTo]; rw [if_pos h]
theorem misTo_no {ms ns : List Mv} {sl : Int} {k : Nat} (h : (offO (ms.eraseIdx k) ns sl).isSome = false) : misTo ms ns sl (k + 1) = misTo ms ns sl k := by simp only [misTo]; rw [if_neg (by simp [h])]
theorem misTo_length (ms ns : List Mv) (sl : Int) (k : Nat) : (misTo ms ns sl k).length ≤ k := by
  induction k with
  | zero => exact Nat.le_refl _
  | succ k ih => simp only [misTo]; split <;> first | omega | (simp only [List.length_append, List.length_cons, List.length_nil]; omega)
def misL (ms ns : List Mv) (sl : Int) : List Int := if regB ms = true then misTo ms ns sl ms.length else []
theorem misTo_none {ms ns : List Mv} {sl : Int} (h : regB ns = false) (k : Nat) : misTo ms ns sl k = [] := by
  induction k with
  | zero => rfl
  | succ k ih => rw [misTo_no (by rw [offO_second h]; rfl), ih]

/-- All notes later. -/
def latL (ns : List Mv) (k : Int) : List Mv := ns.map fun x => (wrap64 (x.1 + k), x.2)
theorem latL_length (ns : List Mv) (k : Int) : (latL ns k).length = ns.length := List.length_map ..
theorem latL_get {ns : List Mv} {k : Int} {i : Nat} (hi : i < ns.length) : (latL ns k).getD i noMv = (wrap64 ((ns.getD i noMv).1 + k), (ns.getD i noMv).2) := by
  simp [latL, hi]
theorem latL_far {ns : List Mv} {k : Int} (h : regB ns = true) (hk : -9223372036854775808 ≤ k ∧ k ≤ 9223372036854775807) (hf : k < -2000 ∨ 2000 < k) (h0 : ns ≠ []) : regB (latL ns k) = false := by
  have hpos : 0 < ns.length := List.length_pos_iff.2 h0
  obtain ⟨n1, n2, _⟩ := reg_note h hpos
  cases e : regB (latL ns k) with
  | false => rfl
  | true =>
    obtain ⟨m1, m2, _⟩ := reg_note e (i := 0) (by rw [latL_length]; exact hpos)
    rw [latL_get hpos] at m1 m2
    simp only at m1 m2
    unfold wrap64 at m1 m2
    omega

end Go.Proofs.Ytodknakemgmhkab
