/-
  Maps whose keys are blocks. No condition; no walk.
-/
import Derived.Test.YtedbfmmklmidjabTally
import Derived.Test.YtedbfmmklmidjabBlockB
import Derived.Maps.Ext
import Derived.Maps.OwnOps
import Derived.Maps.RangeWalk
import Derived.DeepKeys4
import Derived.WideKeyEntry
namespace Go.Proofs.Ytedbfmmklmidjab
open Go.RowKit Go.ChangeMaps Go.MapKept
open Go.WideElems (Fit rd rg rd_val rd_key rg_of findIdx_arr findIdx_born modify_last set_self)
open Go.Maps (Keyed)

theorem laid_out : laidOutB Try.prog = true := by kernel_rfl
theorem key_law : WideMaps.KeyLaw Try.prog 25 := deep_law_laid laid_out (m := 10) (by decide) (of_decide_eq_true (by kernel_rfl)) (by kernel_rfl) (by kernel_rfl)
theorem keyed : Keyed Try.prog 25 := Keyed.of_law key_law

/-- What the i-th block reads as, as a key. -/
def kd (i : Nat) : Lit := .string (([[0, 0, 0, 0, 0, 0, 0, 0, 0, 0], [0, 0, 0, 0, 0, 0, 0, 0, 0, 1], [0, 0, 0, 0, 0, 0, 0, 1, 0, 0], [0, 0, 0, 0, 0, 0, 0, 2, 0, 0], [0, 0, 0, 0, 0, 0, 0, 2, 1, 0]] : List (List UInt8)).getD i [])
theorem keyOf_kd {i : Nat} (h : i < 5) : keyOf Try.prog 25 (bkV (bkAt i)) = some (kd i) := by
  match i, h with
  | 0, _ | 1, _ | 2, _ | 3, _ | 4, _ => (show _ = _; kernel_rfl)
theorem bkV_inj {x y : Blk} (h : bkV x = bkV y) : x = y := by
  obtain ⟨a, b, c⟩ := x
  obtain ⟨a', b', c'⟩ := y
  simpa [bkV] using h
theorem kd_inj {i j : Nat} (hi : i < 5) (hj : j < 5) (h : kd i = kd j) : i = j := by
  have e := keyed.inj (h ▸ keyOf_kd hi) (keyOf_kd hj)
  have := bkV_inj e
  rw [← (bkIx_at hi).2, ← (bkIx_at hj).2, this]
theorem kd_key {i : Nat} (h : i < 5) : WideAt.IsKeyLit (kd i) := keyed.key (keyOf_kd h)
theorem kd_ne {i j : Nat} (hi : i < 5) (hj : j < 5) (h : i ≠ j) : kd i ≠ kd j := fun e => h (kd_inj hi hj e)

/-- What a map holds, block by block: D's element at the i-th is what g says of f i. -/
def HoldsB {α : Type} (lit : α → Lit) (f : Nat → Option α) (D : DataW Unit) : Prop :=
  (∀ i, i < 5 → Maps.has D (kd i) = (f i).isSome) ∧ (∀ i, i < 5 → ∀ c, f i = some c → ∀ z, D.atKey (kd i) z = .lit (lit c)) ∧ ∀ kl, Maps.has D kl = true → ∃ i, i < 5 ∧ kl = kd i

def setE {α : Type} (f : Nat → Option α) (y : Nat) (m : α) : Nat → Option α := fun x => if x = y then some m else f x

theorem HoldsB.put {α : Type} {lit : α → Lit} {f : Nat → Option α} {D : DataW Unit} (h : HoldsB lit f D) (hD : Maps.IsMap D) {y : Nat} (hy : y < 5) (m : α) : HoldsB lit (setE f y m) (D.put (kd y) (.lit (lit m))) := by
  obtain ⟨h1, h2, h3⟩ := h
  refine ⟨fun i hi => ?_, fun i hi c hc z => ?_, fun kl hk => ?_⟩
  · by_cases e : i = y
    · subst e; rw [Maps.has_put_same hD (kd_key hi)]; simp [setE]
    · rw [Maps.has_put_other (kd_ne hi hy e), h1 i hi]; simp [setE, e]
  · by_cases e : i = y
    · subst e
      simp only [setE, if_true, Option.some.injEq] at hc
      rw [Maps.atKey_put_same hD (kd_key hi), hc]
    · rw [Maps.atKey_put_other (kd_ne hi hy e)]
      simp only [setE, e, if_false] at hc
      exact h2 i hi c hc z
  · by_cases e : kl = kd y
    · exact ⟨y, hy, e⟩
    · rw [Maps.has_put_other e] at hk
      exact h3 kl hk
theorem HoldsB.empty {α : Type} (lit : α → Lit) : HoldsB lit (fun _ => none) (.map []) :=
  ⟨fun _ _ => rfl, fun _ _ _ h => (by cases h), fun _ h => (by cases h)⟩
theorem HoldsB.congr {α : Type} {lit : α → Lit} {f g : Nat → Option α} {D : DataW Unit} (h : HoldsB lit f D) (e : ∀ i, i < 5 → f i = g i) : HoldsB lit g D :=
  ⟨fun i hi => by rw [h.1 i hi, e i hi], fun i hi c hc z => h.2.1 i hi c (by rw [e i hi]; exact hc) z, h.2.2⟩

/-- A map of numbers, of at most n entries, in block M. -/
def MapI (w : World) (M n : Nat) (f : Tx) : Prop := ∃ D : DataW Unit, w.ownsMap Try.prog 25 (plainElem Try.prog 3) M n D ∧ HoldsB (Lit.int .i64) f D

theorem zero_int (w : World) : (zeroValue 3).run Try.prog w = .ok (.int .i64 0) w := by kernel_rfl

theorem MapI.lt {w : World} {M n : Nat} {f : Tx} (h : MapI w M n f) : M < w.heap.size := by obtain ⟨D, h, _⟩ := h; exact h.lt
theorem MapI.kept {w w' : World} {M n : Nat} {f : Tx} {row : Option Nat} (h : MapI w M n f) (hg : w.grownBy w' row) (hne : some M ≠ row) : MapI w' M n f := by
  obtain ⟨D, h, hf⟩ := h; exact ⟨D, h.kept hg hne, hf⟩
theorem MapI.below {w w' : World} {M n : Nat} {f : Tx} (h : MapI w M n f) (hb : Below w.heap.size w w') : MapI w' M n f :=
  h.kept (below_grown hb) (by simp)
theorem MapI.mono {w : World} {M n n' : Nat} {f : Tx} (h : MapI w M n f) (hn : n ≤ n') : MapI w M n' f := by
  obtain ⟨D, h, hf⟩ := h; exact ⟨D, h.mono hn, hf⟩
theorem MapI.congr {w : World} {M n : Nat} {f g : Tx} (h : MapI w M n f) (e : ∀ i, i < 5 → f i = g i) : MapI w M n g := by
  obtain ⟨D, h, hf⟩ := h; exact ⟨D, h, hf.congr e⟩
theorem MapI.new (w : World) : MapI (w.alloc (.map #[] 0)) w.heap.size 0 (fun _ => none) :=
  ⟨_, World.ownsMap_made _ _ _ _, HoldsB.empty _⟩

theorem MapI.lookup {w : World} {M n : Nat} {f : Tx} (h : MapI w M n f) {i : Nat} (hi : i < 5) :
    (Instr.lookup 60 (.map (some M)) (bkV (bkAt i)) false).run Try.prog w = .ok (.int .i64 ((f i).getD 0)) w := by
  obtain ⟨D, h, h1, h2, _⟩ := h
  obtain ⟨c, hrun, hat, _⟩ := h.lookup_int keyed Try.underlying60 Try.underlying3 (zero_int _) (keyOf_kd hi)
  rw [hrun]
  cases e : f i with
  | some c' =>
    have := h2 i hi c' e (.lit (.int .i64 0))
    rw [hat] at this
    simp only [DataW.lit.injEq, Lit.int.injEq, true_and] at this
    rw [this]; rfl
  | none =>
    have h0 := h1 i hi
    rw [e] at h0
    rw [Maps.atKey_of_not_has h0] at hat
    simp only [DataW.lit.injEq, Lit.int.injEq, true_and] at hat
    rw [← hat]; rfl

theorem MapI.update {w : World} {M n : Nat} {f : Tx} (h : MapI w M n f) (hn : n < maxLen) {i : Nat} (hi : i < 5) {m : Int} (hm : (Lit.int .i64 m).wf = true) :
    ∃ w', (Instr.mapUpdate 60 (.map (some M)) (bkV (bkAt i)) (.int .i64 m)).run Try.prog w = .ok () w' ∧ MapI w' M (n + 1) (setE f i m) ∧ w.grownBy w' (some M) := by
  obtain ⟨D, h, hf⟩ := h
  obtain ⟨w', hrun, ho, hg⟩ := h.update keyed Try.underlying60 hn (keyOf_kd hi) (plainElem_int Try.underlying3 hm)
  exact ⟨w', hrun, ⟨_, ho, hf.put (let ⟨_, _, _, _, _, e⟩ := h; ⟨_, e⟩) hi m⟩, hg⟩

/-- The entry of an update with an operation: found or made, and then stored into; a look-up between reads the same. -/
theorem MapI.entry {w : World} {M n : Nat} {f : Tx} (h : MapI w M n f) (hn : n < maxLen) {i : Nat} (hi : i < 5) :
    ∃ (st : Nat) (W1 : World), (Instr.mapEntry 60 (.map (some M)) (bkV (bkAt i))).run Try.prog w = .ok (.tuple #[.int .i64 ((f i).getD 0), .int .i64 st]) W1 ∧
      (Instr.lookup 60 (.map (some M)) (bkV (bkAt i)) false).run Try.prog W1 = .ok (.int .i64 ((f i).getD 0)) W1 ∧
      ∀ s, (Lit.int .i64 s).wf = true → ∃ W2, (Instr.entryStore 60 (.map (some M)) (.int .i64 st) (.int .i64 s)).run Try.prog W1 = .ok () W2 ∧ MapI W2 M (n + 1) (setE f i s) ∧ w.grownBy W2 (some M) := by
  have hkey := keyOf_kd hi
  have ht := Try.underlying60
  have hlk := h.lookup hi
  have hup := fun m hm => MapI.update h hn hi (m := m) hm
  have hwf : (Lit.int .i64 ((f i).getD 0)).wf = true := by
    obtain ⟨D, ho, _⟩ := h
    obtain ⟨c, hrun, _, hw⟩ := ho.lookup_int keyed ht Try.underlying3 (zero_int _) hkey
    rw [hrun] at hlk
    simp only [Result.ok.injEq, Value.int.injEq, true_and, and_true] at hlk
    rw [← hlk]; exact hw
  obtain ⟨D, ⟨es, clock, hb, F, hs, hD⟩, hf⟩ := h
  obtain ⟨s1, s2, _⟩ := F.stamped
  have hsame : ∀ (W : World) (o o2 : Obj), setBlock (setBlock W M o) M o2 = setBlock W M o2 := by
    intro W o o2
    unfold setBlock
    simp
  rcases key_law.find w hkey es.toList F.keys with ⟨h1, h2⟩ | ⟨j, e0, h1, h2, h3⟩
  · have hz : Value.int .i64 ((f i).getD 0) = .int .i64 0 := by
      have : (Instr.lookup 60 (.map (some M)) (bkV (bkAt i)) false).run Try.prog w = .ok (.int .i64 0) w := by
        simp [Instr.lookup, run_underlying ht, MapKept.run_getObj_map hb, key_law.check w _ hkey, h1, Result.andThen]
      rw [hlk] at this
      simpa using this
    have hW1 : (setBlock w M (.map (es.push ⟨bkV (bkAt i), .int .i64 0, clock⟩) (clock + 1))).heap[M]? = some (.map (es.push ⟨bkV (bkAt i), .int .i64 0, clock⟩) (clock + 1)) := heap_setBlock_same hb _
    have hU : ∀ v : Value, (Instr.mapUpdate 60 (.map (some M)) (bkV (bkAt i)) v).run Try.prog w = .ok () (setBlock w M (.map (es.push ⟨bkV (bkAt i), v, clock⟩) (clock + 1))) := by
      intro v
      simp [Instr.mapUpdate, run_underlying ht, MapKept.run_getObj_map hb, key_law.check w false hkey, h1, MapKept.run_setObj_map _ hb, Result.andThen, setBlock]
    refine ⟨clock, setBlock w M (.map (es.push ⟨bkV (bkAt i), .int .i64 0, clock⟩) (clock + 1)), ?_, ?_, fun s hsw => ?_⟩
    · rw [hz]
      simp [Instr.mapEntry, run_underlying ht, MapKept.run_getObj_map hb, key_law.check w false hkey, h1, MapKept.run_setObj_map _ hb, Result.andThen, setBlock, goInt]
    · obtain ⟨W', hr, hm, _⟩ := hup _ hwf
      rw [hU, hz] at hr
      simp only [Result.ok.injEq, true_and] at hr
      rw [hr]
      have := hm.lookup hi
      simpa [setE] using this
    · obtain ⟨W', hr, hm, hg⟩ := hup s hsw
      rw [hU] at hr
      simp only [Result.ok.injEq, true_and] at hr
      refine ⟨W', ?_, hm, hg⟩
      rw [← hr]
      have hidx : (es.push ⟨bkV (bkAt i), .int .i64 0, clock⟩).findIdx? (fun e => ((e.born : Nat) : Int) == ((clock : Nat) : Int)) = some es.size := by
        rw [findIdx_arr]
        have := findIdx_born (l := (es.push ⟨bkV (bkAt i), .int .i64 0, clock⟩).toList) (j := es.size) (e0 := ⟨bkV (bkAt i), .int .i64 0, clock⟩) (by
          simp only [Array.toList_push, List.map_append, List.map_cons, List.map_nil]
          refine List.nodup_append.2 ⟨s2, by simp, fun a ha c hc e1 => ?_⟩
          simp only [List.mem_singleton] at hc
          obtain ⟨x, hx, rfl⟩ := List.mem_map.1 ha
          have := s1 x hx
          omega) (by simp)
        exact this
      have hmod : (es.push ⟨bkV (bkAt i), .int .i64 0, clock⟩).modify es.size (fun e => { e with val := .int .i64 s }) = es.push ⟨bkV (bkAt i), .int .i64 s, clock⟩ := by
        apply Array.ext'
        rw [Array.toList_modify, Array.toList_push, Array.toList_push, ← Array.length_toList, modify_last]
      rw [← hsame w (.map (es.push ⟨bkV (bkAt i), .int .i64 0, clock⟩) (clock + 1)) (.map (es.push ⟨bkV (bkAt i), .int .i64 s, clock⟩) (clock + 1))]
      generalize setBlock w M (.map (es.push ⟨bkV (bkAt i), .int .i64 0, clock⟩) (clock + 1)) = W1 at hW1 ⊢
      simp [Instr.entryStore, MapKept.run_getObj_map hW1, asInt, asIntOf, hidx, hmod, MapKept.run_setObj_map _ hW1, Result.andThen, setBlock]
  · have hj : es[j]? = some e0 := by simpa using h2
    have hval : e0.val = .int .i64 ((f i).getD 0) := by
      have : (Instr.lookup 60 (.map (some M)) (bkV (bkAt i)) false).run Try.prog w = .ok e0.val w := by
        simp [Instr.lookup, run_underlying ht, MapKept.run_getObj_map hb, key_law.check w _ hkey, h1, Result.andThen]
      rw [hlk] at this
      simpa using this.symm
    have hkeep : es.modify j (fun e => { e with key := bkV (bkAt i) }) = es := by
      apply Array.ext'
      rw [Array.toList_modify, modify_eq_set _ _ _ _ h2]
      have : ({ e0 with key := bkV (bkAt i) } : MapEntry) = e0 := by rw [← h3]
      rw [this]
      exact set_self _ _ _ h2
    have hW1 : (setBlock w M (.map es clock)).heap[M]? = some (.map es clock) := heap_setBlock_same hb _
    have hU : ∀ v : Value, (Instr.mapUpdate 60 (.map (some M)) (bkV (bkAt i)) v).run Try.prog w = .ok () (setBlock w M (.map (es.modify j (fun e' => { e' with key := bkV (bkAt i), val := v })) clock)) := by
      intro v
      simp [Instr.mapUpdate, run_underlying ht, MapKept.run_getObj_map hb, key_law.check w false hkey, h1, hj, h3, key_law.stays w hkey, MapKept.run_setObj_map _ hb, Result.andThen, setBlock]
    have hmod : ∀ v : Value, es.modify j (fun e => { e with val := v }) = es.modify j (fun e' => { e' with key := bkV (bkAt i), val := v }) := by
      intro v
      apply Array.ext'
      rw [Array.toList_modify, Array.toList_modify, modify_eq_set _ _ _ _ h2, modify_eq_set _ _ _ _ h2, ← h3]
    refine ⟨e0.born, setBlock w M (.map es clock), ?_, ?_, fun s hsw => ?_⟩
    · rw [← hval]
      simp [Instr.mapEntry, run_underlying ht, MapKept.run_getObj_map hb, key_law.check w false hkey, h1, hj, h3, key_law.stays w hkey, hkeep, MapKept.run_setObj_map _ hb, Result.andThen, setBlock, goInt]
    · rw [← hval]
      simp [Instr.lookup, run_underlying ht, MapKept.run_getObj_map hW1, key_law.check _ _ hkey, Result.andThen]
      rcases key_law.find (setBlock w M (.map es clock)) hkey es.toList F.keys with ⟨q1, q2⟩ | ⟨j', e', q1, q2, q3⟩
      · exact absurd h3 (q2 e0 (List.mem_of_getElem? h2))
      · rw [q1]
        have : e' = e0 := entry_eq_of_key ((stamped_iff es clock).1 F.stamped).2.2 (List.mem_of_getElem? q2) (List.mem_of_getElem? h2) (q3.trans h3.symm)
        simp [this]
    · obtain ⟨W', hr, hm, hg⟩ := hup s hsw
      rw [hU] at hr
      simp only [Result.ok.injEq, true_and] at hr
      refine ⟨W', ?_, hm, hg⟩
      rw [← hr, ← hsame w (.map es clock) (.map (es.modify j (fun e' => { e' with key := bkV (bkAt i), val := .int .i64 s })) clock), ← hmod]
      have hidx : es.findIdx? (fun e => ((e.born : Nat) : Int) == ((e0.born : Nat) : Int)) = some j := by
        rw [findIdx_arr]
        exact findIdx_born s2 h2
      generalize setBlock w M (.map es clock) = W1 at hW1 ⊢
      simp [Instr.entryStore, MapKept.run_getObj_map hW1, asInt, asIntOf, hidx, MapKept.run_setObj_map _ hW1, Result.andThen, setBlock]

end Go.Proofs.Ytedbfmmklmidjab
