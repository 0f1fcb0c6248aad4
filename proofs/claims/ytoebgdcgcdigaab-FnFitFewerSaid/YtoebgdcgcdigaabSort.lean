/-
  The one order of the numbers of trains, plainly; rows of numbers below a bound that the library sorts. No walk.
-/
import Derived.Test.YtoebgdcgcdigaabPathP
import Derived.Test.YtoebgdcgcdigaabShelf
import Derived.Sort.OwnSortedInts
import Derived.Test.YtoebgdcgcdigaabBusy
import Derived.Test.YtoebgdcgcdigaabOrd
namespace Go.Proofs.Ytoebgdcgcdigaab
open Go.RowKit Go.Sort

theorem insI_perm (f : Int → Int) (x : Int) (ys : List Int) : (insI f x ys).Perm (x :: ys) := by
  induction ys with
  | nil => exact List.Perm.refl _
  | cons y ys ih =>
    unfold insI
    split
    · exact ((List.Perm.cons y ih).trans (List.Perm.swap x y ys))
    · exact List.Perm.refl _
/-- The numbers below i. -/
def upTo (i : Nat) : List Int := (List.range i).map fun (j : Nat) => (j : Int)
theorem upTo_succ (i : Nat) : upTo (i + 1) = upTo i ++ [(i : Int)] := by simp [upTo, List.range_succ]
theorem ordTo_perm (f : Int → Int) (i : Nat) : (ordTo f i).Perm (upTo i) := by
  induction i with
  | zero => exact List.Perm.refl _
  | succ i ih =>
    rw [upTo_succ]
    refine (insI_perm f i (ordTo f i)).trans ((List.Perm.cons (i : Int) ih).trans ?_)
    exact (List.perm_append_singleton (i : Int) (upTo i)).symm
/-- A list of these numbers, none ahead of a lesser one, is the order. -/
theorem order_one {f : Int → Int} {i : Nat} {L : List Int} (hp : L.Perm (upTo i)) (hs : L.Pairwise (fun a b => f a ≤ f b)) (hf : ∀ a, a ∈ upTo i → ∀ b, b ∈ upTo i → f a = f b → a = b) : L = ordTo f i := by
  refine List.Perm.eq_of_pairwise (le := fun a b => f a ≤ f b) (fun a b ha hb h1 h2 => ?_) hs ((ordTo_pairs f i).imp fun h => h.2) (hp.trans (ordTo_perm f i).symm)
  exact hf a (hp.mem_iff.1 ha) b ((ordTo_perm f i).mem_iff.1 hb) (Int.le_antisymm h1 h2)
theorem upTo_mem {i : Nat} {a : Int} : a ∈ upTo i ↔ ∃ j : Nat, j < i ∧ a = j := by
  simp only [upTo, List.mem_map, List.mem_range]
  constructor
  · rintro ⟨j, h, e⟩; exact ⟨j, h, e.symm⟩
  · rintro ⟨j, h, e⟩; exact ⟨j, h, e.symm⟩

/-! ### Numbers below a bound, as values -/

def encF (m : Nat) (i : Fin (m + 1)) : Value := .int .i64 ((i.val : Nat) : Int)
def asI {m : Nat} (i : Fin (m + 1)) : Int := ((i.val : Nat) : Int)
theorem putRowF (m : Nat) (w : World) (blk : Nat) (d : Array (Fin (m + 1))) : putRow (encF m) w blk 0 d = putRow (Value.int .i64) w blk 0 (d.map asI) := by
  unfold putRow
  congr 1
  funext c
  unfold putCells
  apply Array.ext_getElem?
  intro k
  simp only [Array.getElem?_mapIdx, Array.size_map]
  cases c[k]? with
  | none => rfl
  | some x =>
    simp only [Option.map_some, Nat.zero_add, Nat.zero_le, true_and, Nat.sub_zero]
    by_cases h : k < d.size
    · rw [if_pos h, if_pos h]
      simp [encF, asI, h]
    · rw [if_neg h, if_neg h]
/-- All of them, ascending. -/
def allF (m : Nat) : Array (Fin (m + 1)) := Array.ofFn (fun i : Fin (m + 1) => i)
theorem allF_size (m : Nat) : (allF m).size = m + 1 := by simp [allF]
theorem allF_asI (m : Nat) : ((allF m).map asI).toList = upTo (m + 1) := by
  apply List.ext_getElem
  · simp [allF, upTo]
  · intro i h1 h2
    simp only [Array.getElem_toList, Array.getElem_map, allF, Array.getElem_ofFn, asI, upTo, List.getElem_map, List.getElem_range]
theorem holdsF {m : Nat} {w : World} {g : Nat} (h : Holds (Value.int .i64) w g 0 ((allF m).map asI)) : Holds (encF m) w g 0 (allF m) := by
  intro j hj
  have := h j (by simpa using hj)
  simpa [encF, asI, hj] using this
/-- What the library hands back, as numbers. -/
theorem sorted_is {m : Nat} {f : Int → Int} {cf : Fin (m + 1) → Fin (m + 1) → Int} (hcf : ∀ x y, cf x y = f (asI x) - f (asI y)) (hf : ∀ a, a ∈ upTo (m + 1) → ∀ b, b ∈ upTo (m + 1) → f a = f b → a = b)
    {d' : Array (Fin (m + 1))} (hp : PermIn 0 (allF m).size (allF m) d') (hs : SortedIn (ltOf cf) 0 (allF m).size d') : (d'.map asI).toList = ordTo f (m + 1) := by
  obtain ⟨h1, _, h3⟩ := hp
  rw [Array.extract_size] at h3
  rw [← h1, Array.extract_size] at h3
  refine order_one ?_ ?_ hf
  · rw [← allF_asI, Array.toList_map, Array.toList_map]
    exact h3.map asI
  · rw [List.pairwise_iff_getElem]
    intro i j hi hj hij
    have hi' : i < d'.size := by simpa using hi
    have hj' : j < d'.size := by simpa using hj
    have q := hs i j (Nat.zero_le _) hij (by rw [← h1]; exact hj')
    unfold ltOf at q
    have q := of_decide_eq_false q
    rw [hcf] at q
    simp only [Array.getElem_toList, Array.getElem_map]
    simp only [getElem!_pos d' i hi', getElem!_pos d' j hj'] at q
    omega
/-- The difference of two numbers is a weak order. -/
theorem swoF {m : Nat} {f : Int → Int} {cf : Fin (m + 1) → Fin (m + 1) → Int} (hcf : ∀ x y, cf x y = f (asI x) - f (asI y)) : SWO (ltOf cf) := by
  constructor
  · intro x; unfold ltOf; rw [hcf]; exact decide_eq_false (by omega)
  · intro x y z h1 h2
    unfold ltOf at *
    have h1 := of_decide_eq_true h1
    have h2 := of_decide_eq_true h2
    rw [hcf] at h1 h2 ⊢
    exact decide_eq_true (by omega)
  · intro x y z h1 h2
    unfold ltOf at *
    have h1 := of_decide_eq_false h1
    have h2 := of_decide_eq_false h2
    rw [hcf] at h1 h2 ⊢
    exact decide_eq_false (by omega)
/-- In the worlds that the sort passes through, what lies elsewhere. -/
theorem cell_sortWorld {α : Type} [Inhabited α] (enc : α → Value) {w : World} {blk m : Nat} {dk : Array α} {os : Array Obj} {a : Addr} {v : Value} (h : w.cell? a = some v) (hb : a.block ≠ blk) : (sortWorld enc w blk 0 m dk os).cell? a = some v := by
  have hlt := block_lt_of_cell h
  unfold sortWorld
  rw [cell?_grow _ _ _ (by simpa [putRow, mapBlock] using hlt), cell?_putRow_other _ _ _ _ _ _ (.inl hb), cell?_ahead]
  exact h
end Go.Proofs.Ytoebgdcgcdigaab

/-
  The order of the trains of a section, by the program. For all lists of at most 1048576 paths.
-/
namespace Go.Proofs.Ytoebgdcgcdigaab
open Go.RowKit Go.Sort

set_option maxHeartbeats 4000000 in
theorem closure {W : World} {b o m cap P4 P5 k x y b1 o1 k1 b2 o2 k2 l1 l2 : Nat} {s t : Int} (c4 : W.cell? ⟨P4, 0, none⟩ = some (.slice (some ⟨b, o, none⟩) m cap)) (c5 : W.cell? ⟨P5, 0, none⟩ = some (.int .i64 k)) (hx : x < m) (hy : y < m)
    (f1 : W.cell? ⟨b, o + x * 2, none⟩ = some (.slice (some ⟨b1, o1, none⟩) l1 k1)) (f2 : W.cell? ⟨b, o + y * 2, none⟩ = some (.slice (some ⟨b2, o2, none⟩) l2 k2)) (g1 : W.cell? ⟨b1, o1 + k, none⟩ = some (.int .i64 s)) (g2 : W.cell? ⟨b2, o2 + k, none⟩ = some (.int .i64 t))
    (hk1 : k < l1) (hk2 : k < l2) (hs : 0 ≤ s ∧ s ≤ 2000) (ht : 0 ≤ t ∧ t ≤ 2000) :
    Calls Try.prog 34 #[.int .i64 x, .int .i64 y, .pointer (some ⟨P4, 0, none⟩), .pointer (some ⟨P5, 0, none⟩)] W fun e w' => e = .returned (.int .i64 (s - t)) ∧ ∃ q, w' = W.drewN q := by
  have hxi : (x : Int) < (m : Int) := by omega
  have hyi : (y : Int) < (m : Int) := by omega
  have hk1i : (k : Int) < (l1 : Int) := by omega
  have hk2i : (k : Int) < (l2 : Int) := by omega
  obtain ⟨hs0, hs1⟩ := hs
  obtain ⟨ht0, ht1⟩ := ht
  have w1 : IntKind.i64.wrap (s - t) = s - t := IntWalk.i64_in _ (by omega)
  go_enter Try.func34, Try.ntmps34
  go_wp2_with fail
  go_quiet (fail)
  go_wp2_with fail
  go_ret
  exact ⟨rfl, _, rfl⟩

set_option maxHeartbeats 4000000 in
theorem insertion0 (a : Option Addr) (c : Nat) (f : Value) (w : World) :
    Calls Try.prog 58 #[.slice a 0 c, .int .i64 0, .int .i64 0, f] w fun e w' => e = .returned (.tuple #[]) ∧ w = w' := by
  go_enter Try.func58, Try.ntmps58
  go_wp2_with fail
  refine wp_loop_rounds 1 ?_
  rw [rounds_succ]
  go_wp2_with fail
  go_end0
  exact ⟨rfl, rfl⟩
set_option maxHeartbeats 4000000 in
theorem pdq0 (a : Option Addr) (c : Nat) (f : Value) (l : Int) (w : World) :
    Calls Try.prog 53 #[.slice a 0 c, .int .i64 0, .int .i64 0, .int .i64 l, f] w fun e w' => e = .returned (.tuple #[]) ∧ w = w' := by
  go_enter Try.func53, Try.ntmps53
  go_wp2_with fail
  refine wp_loop_rounds 1 ?_
  rw [rounds_succ]
  go_wp2_with (go_at_call 58; refine (insertion0 _ _ _ _).mono ?_; rintro e w' ⟨rfl, rfl⟩)
  exact bodyPost_ret (v := .tuple #[]) (by simp [results, Try.results53]) rfl ⟨rfl, rfl⟩
set_option maxHeartbeats 4000000 in
theorem sort0 (a : Option Addr) (c : Nat) (f : Value) (w : World) :
    Calls Try.prog 33 #[.slice a 0 c, f] w fun e w' => e = .returned (.tuple #[]) ∧ w = w' := by
  have BL := Lib.hid (Try.bits_Len 0 w (by omega) (by omega))
  go_enter Try.func33, Try.ntmps33
  go_wp2_with (first | (go_at_call 54; refine BL.out.mono ?_; rintro e w' ⟨rfl, rfl⟩) | (go_at_call 53; refine (pdq0 _ _ _ _ _).mono ?_; rintro e w' ⟨rfl, rfl⟩))
  go_end0
  exact ⟨rfl, rfl⟩

/-- The library's sort of a row of the numbers below m + 1, by what a closure reads. -/
theorem sortRow {wr : World} {g m base : Nat} {cb : Array Value} {f : Int → Int} (hg : base ≤ g) (hm : m + 1 ≤ 12) (hrow : wr.rowIs g 3 (m + 1) (fun j => .int .i64 ((j : Nat) : Int)))
    (hcl : ∀ (x y : Nat), x < m + 1 → y < m + 1 → ∀ W : World, (∀ a v, wr.cell? a = some v → a.block ≠ g → W.cell? a = some v) → Calls Try.prog 34 (#[.int .i64 x, .int .i64 y] ++ cb) W fun e w' => e = .returned (.int .i64 (f x - f y)) ∧ ∃ q, w' = W.drewN q)
    (hf : ∀ a, a ∈ upTo (m + 1) → ∀ b, b ∈ upTo (m + 1) → f a = f b → a = b) :
    Calls Try.prog 33 #[.slice (some ⟨g, 0, none⟩) (m + 1) (m + 1), .func (.func 34) #[] cb] wr fun e w' => e = .returned (.tuple #[]) ∧ OwnI w' base (.slice (some ⟨g, 0, none⟩) (m + 1) (m + 1)) (ordTo f (m + 1)) ∧ wr.grownBy w' (some g) := by
  obtain ⟨cur, hh, hs, hc⟩ := hrow
  have eg : ∀ args w, (callFunc 34 args).run Try.prog w = .ok (.enter 34 args) w := enters_of Try.func34 (by kernel_rfl) rfl
  have htake : cur.toList.take (upTo (m + 1)).length = (upTo (m + 1)).map (Value.int .i64) := by
    apply List.ext_getElem?
    intro i
    have hl : (upTo (m + 1)).length = m + 1 := by simp [upTo]
    by_cases h : i < m + 1
    · rw [List.getElem?_take_of_lt (by omega), Array.getElem?_toList, hc i h]
      simp [upTo, h]
    · rw [List.getElem?_eq_none (by rw [List.length_take]; omega), List.getElem?_eq_none (by rw [List.length_map]; omega)]
  have hH := holds_of_blockI hh htake
  have hF : Holds (encF m) wr g 0 (allF m) := holdsF (by
    have e : (allF m).map asI = (upTo (m + 1)).toArray := by rw [← allF_asI]
    rw [e]; exact hH)
  have h0 := Try.slices_SortFunc_small_sorted (encF m) (fun _ => rfl) (fun x y => f (asI x) - f (asI y)) (swoF (fun _ _ => rfl)) 34 cb g 0 (m + 1) (allF m) wr eg
    (fun q os dk hdk x y => hcl x.val y.val x.isLt y.isLt _ (fun a v ha hb => cell_sortWorld (encF m) ha hb)) hF (by rw [allF_size]; exact hm) (fun n W hn => (Try.bits_Len n W (by omega) (by omega)).mono fun _ _ ⟨he, hw⟩ => ⟨⟨_, he⟩, hw⟩)
  rw [allF_size] at h0
  refine h0.mono ?_
  rintro e w' ⟨he, d', q, hp, hsr, rfl⟩
  have hsz := allF_size m
  have hL := sorted_is (f := f) (fun _ _ => rfl) hf (by rw [hsz]; exact hp) (by rw [hsz]; exact hsr)
  have hd : d'.map asI = (ordTo f (m + 1)).toArray := by rw [← hL]
  have hw : (putRow (encF m) wr g 0 d').drewN q = grow (putRow (Value.int .i64) (Sort.ahead wr q) g 0 (ordTo f (m + 1)).toArray) #[] := by
    rw [putRowF, hd, grow_empty]
    rfl
  rw [hw]
  have hlen : (ordTo f (m + 1)).length = (upTo (m + 1)).length := by rw [ordTo_length]; simp [upTo]
  have hul : (upTo (m + 1)).length = m + 1 := by simp [upTo]
  refine ⟨he, ?_, grownBy_sortedI _⟩
  have := ownsRow_sortedI (w := wr) (base := base) (g := g) (cap := m + 1) (n := q) (os := #[]) (ss := upTo (m + 1)) hlen hg hh (by omega) (by simp only [maxLen]; omega) (by rw [hs]; omega)
  rw [hul] at this
  unfold OwnI
  rw [ordTo_length]
  exact this

/-- The order that the program hands back, or nothing. -/
def ordV (n : Int) (ps : List (List Int × List Int)) (k : Int) : List Int := if hasB n ps k then orderOf ps k.toNat else []

set_option maxRecDepth 100000 in
set_option maxHeartbeats 8000000 in
theorem implOrder {w : World} {v : Value} {n k : Int} {ps : List (List Int × List Int)} (h : Paths w v ps) :
    Calls Try.prog 11 #[.int .i64 n, v, .int .i64 k] w (MadeIntsB w (ordV n ps k) (hasB n ps k)) := by
  have hh := h
  obtain ⟨a, cap, rfl, hl, -⟩ := h
  obtain ⟨W, hW⟩ : ∃ W, W = (w.alloc (.cells #[.slice a ps.length cap] 23)).alloc (.cells #[.int .i64 k] 3) := ⟨_, rfl⟩
  have s0 : (w.alloc (.cells #[.slice a ps.length cap] 23)).heap.size = w.heap.size + 1 := Go.Deep.nblk_alloc _ _
  have sW : W.heap.size = w.heap.size + 2 := by rw [hW, Go.Deep.nblk_alloc, s0]
  have qW : Below w.heap.size w W := by rw [hW]; exact (below_alloc w _).alloc (by omega) _
  have c4 : W.cell? ⟨w.heap.size, 0, none⟩ = some (.slice a ps.length cap) := by
    have e : W.heap[w.heap.size]? = some (.cells #[.slice a ps.length cap] 23 (0, 0)) := by rw [hW, Go.Deep.blk_alloc_lt _ _ _ (by omega)]; exact Go.Deep.blk_alloc_new _ _
    simp only [World.cell?, e]; rfl
  have c5 : W.cell? ⟨w.heap.size + 1, 0, none⟩ = some (.int .i64 k) := by
    have e : W.heap[w.heap.size + 1]? = some (.cells #[.int .i64 k] 3 (0, 0)) := by rw [hW, ← s0]; exact Go.Deep.blk_alloc_new _ _
    simp only [World.cell?, e]; rfl
  have HWW := Lib.hid hW
  have SW := Lib.hid sW
  have QW := Lib.hid qW
  have C4 := Lib.hid c4
  have C5 := Lib.hid c5
  have SV := Lib.hid (hasSection (n := n) (k := k) (hh.below qW))
  clear hW s0 sW qW c4 c5
  cases hp : hasB n ps k
  · have HN := Lib.hid (show ordV n ps k = [] by unfold ordV; rw [hp]; rfl)
    rw [hp] at SV
    clear hp hh
    go_enter Try.func11, Try.ntmps11
    go_wp2_with (rw [← HWW.out]; go_at_call 32; refine SV.out.mono ?_)
    rintro e w1 ⟨rfl, b1⟩
    go_wp2_with fail
    go_ret2
    exact ⟨_, rfl, HN.out ▸ World.ownsRow_nil _ _ _ _, QW.out.trans (b1.mono QW.out.size)⟩
  · rw [hp] at SV
    have HN := Lib.hid (show ordV n ps k = orderOf ps k.toNat by unfold ordV; rw [hp]; rfl)
    obtain ⟨hpp, hk0, hkn⟩ := hasB_is hp
    obtain ⟨⟨hn1, hn5⟩, h8, _⟩ := pathsB_is hpp
    obtain ⟨k, rfl⟩ : ∃ m : Nat, k = (m : Int) := ⟨k.toNat, by omega⟩
    have HP := Lib.hid hpp
    have HH := Lib.hid (fun (i : Nat) (hi : i < ps.length) => paths_at hh hi)
    clear hp hpp hh hk0
    have hinj : ∀ a, a ∈ upTo ps.length → ∀ b, b ∈ upTo ps.length → inF ps k a = inF ps k b → a = b := by
      intro a ha b hb e
      obtain ⟨i, hi, rfl⟩ := upTo_mem.1 ha
      obtain ⟨j, hj, rfl⟩ := upTo_mem.1 hb
      by_cases q : i = j
      · rw [q]
      · exfalso
        have ap := apart_at HP.out hi hj q hkn
        have b1 := sec_bounds HP.out hi hkn
        have b2 := sec_bounds HP.out hj hkn
        unfold inF at e
        rw [Int.toNat_natCast, Int.toNat_natCast] at e
        unfold inAt at e
        refine ap ⟨?_, ?_⟩
        · show (ps.getD i noPath).1.getD k 0 < (ps.getD j noPath).2.getD k 0
          rw [e]; exact b2.2.2.2.1
        · show (ps.getD j noPath).1.getD k 0 < (ps.getD i noPath).2.getD k 0
          rw [← e]; exact b1.2.2.2.1
    have INJ := Lib.hid hinj
    clear hinj
    have hmk := run_make_row' (P := Try.prog) 27 3 (.int .i64 0) 8 Try.underlying27 info_int rfl .i64 .i64 ps.length (by omega) (by omega)
    by_cases hz : ps.length = 0
    · have hmk0 : ∀ w : World, (Instr.makeSlice 27 (.int .i64 0) (.int .i64 0)).run Try.prog w = .ok (.slice (some ⟨w.heap.size, 0, none⟩) 0 0) (w.alloc (.cells (madeCells #[.int .i64 0] 0) 3)) := by rw [hz] at hmk; exact hmk
      have ho : orderOf ps k = [] := List.eq_nil_of_length_eq_zero (by rw [order_len]; exact hz)
      have HO := Lib.hid (show ordV n ps (k : Int) = [] by rw [HN.out, Int.toNat_natCast, ho])
      rw [hz] at HWW SV C4
      clear hmk ho
      have HZ := Lib.hid hz
      rw [hz]
      clear hz
      go_enter Try.func11, Try.ntmps11
      go_wp2_with (rw [← HWW.out]; go_at_call 32; refine SV.out.mono ?_)
      rintro e w1 ⟨rfl, b1⟩
      have d4 := (b1.cell (p := ⟨w.heap.size, 0, none⟩) (by have := SW.out; simp only; omega)).trans C4.out
      have B1 := Lib.hid (QW.out.trans (b1.mono QW.out.size))
      go_wp2_with fail
      refine wp_loop_rounds 1 ?_
      rw [rounds_succ]
      go_wp2_with (go_at_call 33; refine (sort0 _ _ _ _).mono ?_; rintro e w' ⟨rfl, rfl⟩)
      go_ret2
      refine ⟨_, rfl, ?_, B1.out.alloc (B1.out.size) _⟩
      rw [HO.out]
      exact (own_of_rowIs (f := fun _ => 0) (World.rowIs_made w1 _ 0 _) B1.out.size (by simp [maxLen]) rfl (fun i hi => by omega))
    · obtain ⟨m, hm⟩ : ∃ m, ps.length = m + 1 := ⟨ps.length - 1, by omega⟩
      have HM := Lib.hid hm
      clear hz hm
      go_enter Try.func11, Try.ntmps11
      go_wp2_with (rw [← HWW.out]; go_at_call 32; refine SV.out.mono ?_)
      rintro e w1 ⟨rfl, b1⟩
      have d4 := (b1.cell (p := ⟨w.heap.size, 0, none⟩) (by have := SW.out; simp only; omega)).trans C4.out
      have D4 := Lib.hid d4
      have D5 := Lib.hid ((b1.cell (p := ⟨w.heap.size + 1, 0, none⟩) (by have := SW.out; simp only; omega)).trans C5.out)
      have B1 := Lib.hid (QW.out.trans (b1.mono QW.out.size))
      have S1 := Lib.hid (show w.heap.size + 2 ≤ w1.heap.size by have := b1.size; have := SW.out; omega)
      clear b1
      go_wp2_with fail
      go_loopw [20] (fun i wr => ∃ j : Nat, j ≤ ps.length ∧ i = .int .i64 j ∧ wr.rowIs w1.heap.size 3 ps.length (fun x => .int .i64 (if x < j then (x : Int) else 0)) ∧ Below w1.heap.size w1 wr) (fun i _ => ps.length - (intOf i).toNat)
      case atStart =>
        exact ⟨0, by omega, rfl, (World.rowIs_made w1 _ _ _).congr (fun i _ => by simp), (Below.refl _ _).alloc (Nat.le_refl _) _⟩
      case round =>
        obtain ⟨j, hj, rfl, hrow, hbel⟩ := hrel
        have hsz : w1.heap.size < wr.heap.size := hrow.lt
        by_cases hlt : j < ps.length
        · have hc2 : wr.cell? ⟨w1.heap.size, j, none⟩ = some _ := hrow.cell hlt
          have hf2 : wr.frozen? ⟨w1.heap.size, j, none⟩ = false := hrow.frozen j
          have HR := Lib.hid hrow
          clear hrow d4
          go_wp2_with fail
          go_roundw
          case rel =>
            refine ⟨j + 1, by omega, by go_num, ?_, hbel.setCell (by simp) _⟩
            refine (HR.out.set j _).congr (fun x hx => ?_)
            by_cases e : x = j
            · subst e; simp
            · by_cases l : x < j
              · rw [if_neg e, if_pos l, if_pos (by omega)]
              · rw [if_neg e, if_neg l, if_neg (by omega)]
          case measure => simp [intOf]; omega
        · obtain rfl : j = ps.length := by omega
          have hrow2 : wr.rowIs w1.heap.size 3 (m + 1) (fun x => .int .i64 ((x : Nat) : Int)) := by
            rw [← HM.out]
            exact hrow.congr (fun x hx => by rw [if_pos hx])
          have k4 := (hbel.cell (p := ⟨w.heap.size, 0, none⟩) (by have := S1.out; simp only; omega)).trans D4.out
          have k5 := (hbel.cell (p := ⟨w.heap.size + 1, 0, none⟩) (by have := S1.out; simp only; omega)).trans D5.out
          have hwr : Below w.heap.size w wr := B1.out.trans (hbel.mono B1.out.size)
          have SR := sortRow (wr := wr) (g := w1.heap.size) (m := m) (base := w.heap.size) (cb := #[.pointer (some ⟨w.heap.size, 0, none⟩), .pointer (some ⟨w.heap.size + 1, 0, none⟩)]) (f := inF ps k) B1.out.size (by have := HM.out; omega) hrow2
            (by
              intro x y hx hy W' same
              have hx' : x < ps.length := by rw [HM.out]; exact hx
              have hy' : y < ps.length := by rw [HM.out]; exact hy
              obtain ⟨b, o, rfl, hb, hat⟩ := HH.out x hx'
              obtain ⟨b1', o1, k1, b2, o2, k2, q1, -, -, hb1, -, d1, -⟩ := paths_cells hat HP.out hx' hkn
              obtain ⟨b3, o3, k3, b4, o4, k4', q3, -, -, hb3, -, d3, -⟩ := paths_cells hat HP.out hy' hkn
              obtain ⟨r1, r2, r3, r4, r5⟩ := sec_bounds HP.out hx' hkn
              obtain ⟨u1, u2, u3, u4, u5⟩ := sec_bounds HP.out hy' hkn
              have old : ∀ (a : Addr) (v : Value), a.block < w.heap.size → w.cell? a = some v → W'.cell? a = some v := fun a v ha hv => same a v ((hwr.cell ha).trans hv) (by have := S1.out; omega)
              have e1 : inF ps k (x : Int) = (ps.getD x noPath).1.getD k 0 := by unfold inF; rw [Int.toNat_natCast]; rfl
              have e2 : inF ps k (y : Int) = (ps.getD y noPath).1.getD k 0 := by unfold inF; rw [Int.toNat_natCast]; rfl
              rw [e1, e2]
              exact closure (same _ _ k4 (by have := S1.out; simp only; omega)) (same _ _ k5 (by have := S1.out; simp only; omega)) hx' hy' (old _ _ hb q1) (old _ _ hb q3) (old _ _ hb1 d1) (old _ _ hb3 d3) r1 u1 ⟨r3, by omega⟩ ⟨u3, by omega⟩)
            (by rw [← HM.out]; exact INJ.out)
          rw [← HM.out] at SR
          have HSR := Lib.hid SR
          have HB := Lib.hid hwr
          clear SR hrow hrow2 k4 k5 hbel hwr d4
          go_wp2_with (go_at_call 33; refine HSR.out.mono ?_; rintro e w' ⟨rfl, own, gr⟩)
          go_ret2
          refine ⟨_, rfl, ?_, HB.out.grown gr HB.out.size (fun b hb => by have := S1.out; simp only [Option.some.injEq] at hb; omega)⟩
          rw [HN.out, Int.toNat_natCast]
          exact own

end Go.Proofs.Ytoebgdcgcdigaab

/-
  The order of the trains of a section, by the model. For all lists of at most 1048576 paths.
-/
namespace Go.Proofs.Ytoebgdcgcdigaab
open Go.RowKit Go.Sort

theorem ordV_length (n : Int) (ps : List (List Int × List Int)) (k : Int) : (ordV n ps k).length ≤ ps.length := by
  unfold ordV
  split
  · rw [order_len]; exact Nat.le_refl _
  · simp

end Go.Proofs.Ytoebgdcgcdigaab
