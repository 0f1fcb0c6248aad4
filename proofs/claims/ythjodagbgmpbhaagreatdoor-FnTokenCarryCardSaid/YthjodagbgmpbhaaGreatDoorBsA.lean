/-
  What a replacer of single bytes by texts is built as: U by ap, D by bp. No condition.
-/
import Derived.Test.YthjodagbgmpbhaaGreatDoorRplC
import Derived.OneCell
namespace Go.Proofs.YthjodagbgmpbhaaGreatDoor
open Go.RowKit

/-- 256 texts of bytes and the list of what is replaced, in a block. -/
def BS (w : World) (g : Nat) (f : Nat → Value) (t : Value) : Prop := ∃ cs : Array Value, w.heap[g]? = some (.cells cs 106 (0, 0)) ∧ cs.size = 257 ∧ (∀ i, i < 256 → cs[i]? = some (f i)) ∧ cs[256]? = some t
section
variable {w w' : World} {g : Nat} {f : Nat → Value} {t : Value}
theorem BS.lt (h : BS w g f t) : g < w.heap.size := by obtain ⟨cs, h, _⟩ := h; exact (Array.getElem?_eq_some_iff.1 h).1
theorem BS.cell (h : BS w g f t) {i : Nat} (hi : i < 256) : w.cell? ⟨g, i, none⟩ = some (f i) := by
  obtain ⟨cs, h, hs, hc, ht⟩ := h
  simp only [World.cell?, h]
  exact hc i hi
theorem BS.list (h : BS w g f t) : w.cell? ⟨g, 256, none⟩ = some t := by
  obtain ⟨cs, h, hs, hc, ht⟩ := h
  simp only [World.cell?, h]
  exact ht
theorem BS.frozen (h : BS w g f t) (i : Nat) : w.frozen? ⟨g, i, none⟩ = false := by
  obtain ⟨cs, h, hs, hc⟩ := h
  simp [World.frozen?, h]
theorem BS.of (h : BS w g f t) (e : w'.heap[g]? = w.heap[g]?) : BS w' g f t := by obtain ⟨cs, h, hs, hc⟩ := h; exact ⟨cs, e.trans h, hs, hc⟩
theorem BS.below (h : BS w g f t) (hb : Below w.heap.size w w') : BS w' g f t := h.of (hb.block _ h.lt)
theorem BS.other (h : BS w g f t) {a : Addr} (ha : g ≠ a.block) (v : Value) : BS (w.setCell a v) g f t := h.of (Go.Deep.blk_setCell_other _ _ _ _ ha)
theorem BS.set (h : BS w g f t) {k : Nat} (hk : k < 256) (x : Value) {f' : Nat → Value} (e : ∀ i, i < 256 → f' i = if i = k then x else f i) : BS (w.setCell ⟨g, k, none⟩ x) g f' t := by
  obtain ⟨cs, h, hs, hc, ht⟩ := h
  refine ⟨cs.setIfInBounds k x, ?_, by simp [hs], fun i hi => ?_, ?_⟩
  · simp [World.setCell, Array.getElem?_modify, h]
  · rw [e i hi, Array.getElem?_setIfInBounds]
    by_cases q : k = i
    · subst q; rw [if_pos rfl, if_pos (by omega), if_pos rfl]
    · rw [if_neg q, if_neg (fun z => q z.symm)]; exact hc i hi
  · rw [Array.getElem?_setIfInBounds, if_neg (by omega)]; exact ht
theorem BS.setList (h : BS w g f t) (x : Value) : BS (w.setCell ⟨g, 256, none⟩ x) g f x := by
  obtain ⟨cs, h, hs, hc, ht⟩ := h
  refine ⟨cs.setIfInBounds 256 x, ?_, by simp [hs], fun i hi => ?_, ?_⟩
  · simp [World.setCell, Array.getElem?_modify, h]
  · rw [Array.getElem?_setIfInBounds, if_neg (by omega)]; exact hc i hi
  · rw [Array.getElem?_setIfInBounds, if_pos rfl, if_pos (by omega)]
end

theorem zero_bs : Tryz.zeroCells106 = Array.replicate 257 (.slice none 0 0) := by kernel_rfl
theorem size_bs : (Tryz.prog.info? 106).map (·.size) = some 257 := by kernel_rfl
theorem BS.new (w : World) (v : Value) : BS (w.alloc (.cells (Tryz.zeroCells106.set! 256 v) 106)) w.heap.size (fun _ => .slice none 0 0) v := by
  rw [zero_bs]
  refine ⟨_, Go.Deep.blk_alloc_new _ _, by simp, fun i hi => ?_, by simp⟩
  rw [Array.set!_eq_setIfInBounds, Array.getElem?_setIfInBounds, if_neg (by omega), Array.getElem?_replicate, if_pos (by omega)]

theorem make_two (w : World) : (Instr.makeSlice 59 (.int .i64 0) (.int .i64 2)).run Tryz.prog w = .ok (.slice (some ⟨w.heap.size, 0, none⟩) 0 2) (w.alloc (.cells (madeCells #[.string ⟨#[]⟩] 2) 9)) := by
  obtain ⟨i, hi, hz0, hz1, hz2⟩ := info_parts info_strT
  have hr := run_make (P := Tryz.prog) w 59 9 i (.string ⟨#[]⟩) Tryz.underlying59 hi hz0 .i64 .i64 0 2 (by omega) (by omega) (by rw [hz2]; omega) (by omega)
  rw [hr, hz1]
  rfl

set_option maxRecDepth 1000000 in
theorem store_bs (w : World) (v : Value) (hv : v.oneCell' = true) (n : Nat) (hn : n = w.heap.size) : (storeCells ⟨n, 0, none⟩ (Tryz.zeroCells106.toList.set 256 v) 0).run Tryz.prog (w.alloc (.cells Tryz.zeroCells106 106)) = .ok () (w.alloc (.cells (Tryz.zeroCells106.set! 256 v) 106)) := by
  subst hn
  have e := run_storeCells_new (P := Tryz.prog) w 106 Tryz.zeroCells106 (Tryz.zeroCells106.set! 256 v) (by rw [size_bs, zero_bs]; simp) (by simp) (by
    rw [zero_bs, Array.set!_eq_setIfInBounds, Array.all_eq_true]
    intro i hi
    have hi' : i < (Array.replicate 257 (Value.slice none 0 0)).size := by simpa using hi
    rw [Array.getElem_setIfInBounds hi']
    split
    · exact hv
    · rw [Array.getElem_replicate]; rfl)
  rw [Array.set!_eq_setIfInBounds, Array.toList_setIfInBounds] at e
  rw [Array.set!_eq_setIfInBounds]
  exact e
theorem own_two (w : World) : (w.alloc (.cells (madeCells #[.string ⟨#[]⟩] 2) 9)).ownsRow w.heap.size 9 1 (.slice (some ⟨w.heap.size, 0, none⟩) 0 2) 0 [] :=
  ⟨rfl, .inr ⟨_, 2, _, rfl, Nat.le_refl _, Go.Deep.blk_alloc_new _ _, by omega, by simp only [maxLen]; omega, by kernel_rfl, rfl⟩⟩

set_option maxRecDepth 100000 in
theorem conv_one (W : World) (x : UInt8) : (convert 22 9 (.slice (some ⟨W.heap.size, 0, none⟩) 1 1)).run Tryz.prog (W.alloc (.cells #[.int .u8 x.toNat] 5)) = .ok (.string ⟨#[x]⟩) (W.alloc (.cells #[.int .u8 x.toNat] 5)) :=
  Lib.run_convert_whole (P := Tryz.prog) _ 22 5 9 Tryz.underlying22 Tryz.underlying5 Tryz.underlying9 W.heap.size 0 ⟨#[x]⟩ (fun i hi => by
    have h0 : i = 0 := by have : (⟨#[x]⟩ : ByteArray).size = 1 := rfl; omega
    subst h0
    have hn : (W.alloc (.cells #[.int .u8 x.toNat] 5)).heap[W.heap.size]? = some (.cells #[.int .u8 x.toNat] 5 (0, 0)) := Go.Deep.blk_alloc_new _ _
    simp only [World.cell?, hn]
    rfl) 1

theorem str_new (W : World) (o : Obj) (s : ByteArray) (t : TypeId) (j : Nat) (u : Value) (hu : [Value.string s][j]? = some u) : ((W.alloc o).alloc (.cells #[.string s] t)).cell? ((⟨W.heap.size + 1, 0, none⟩ : Addr).add j) = some u := by
  have hj : j = 0 := by
    have := (List.getElem?_eq_some_iff.1 hu).1
    simp only [List.length_cons, List.length_nil] at this
    omega
  subst hj
  cases hu
  have hn := Go.Deep.blk_alloc_new (W.alloc o) (.cells #[.string s] t (0, 0))
  rw [Go.Deep.nblk_alloc] at hn
  have e : (⟨W.heap.size + 1, 0, none⟩ : Addr).add 0 = ⟨W.heap.size + 1, 0, none⟩ := by unfold Addr.add; split <;> simp_all
  rw [e]
  simp only [World.cell?, hn]
  rfl
theorem own_form {W : World} {base : Nat} {e : TypeId} {size n : Nat} {v : Value} {xs : List Value} (h : W.ownsRow base e size v (n + 1) xs) : ∃ g cap cur, v = .slice (some ⟨g, 0, none⟩) (n + 1) cap ∧ base ≤ g ∧ W.heap[g]? = some (.cells cur e (0, 0)) := by
  rcases h.2 with ⟨_, h0⟩ | ⟨g, cap, cur, rfl, hb, hg, _⟩
  · omega
  · exact ⟨g, cap, cur, rfl, hb, hg⟩

theorem own_of {W W' : World} {base : Nat} {e : TypeId} {size n : Nat} {v : Value} {xs : List Value} (h : W.ownsRow base e size v n xs) (hk : ∀ g, v.ownBlock = some g → W'.heap[g]? = W.heap[g]?) : W'.ownsRow base e size v n xs := by
  refine ⟨h.1, ?_⟩
  rcases h.2 with h2 | ⟨g, cap, cur, rfl, hb, hg, r⟩
  · exact .inl h2
  · exact .inr ⟨g, cap, cur, rfl, hb, (hk g rfl).trans hg, r⟩
/-- The table behind the first and the second pair. -/
def fD (q K : Nat) (i : Nat) : Value := if i = 68 then .slice (some ⟨q, 0, none⟩) 2 K else .slice none 0 0
def fU (q K p L : Nat) (i : Nat) : Value := if i = 85 then .slice (some ⟨p, 0, none⟩) 2 L else fD q K i
theorem Buf.of' {w w' : World} {q n : Nat} {f : Nat → Int} (h : Buf w q n f) (e : w'.heap[q]? = w.heap[q]?) : Buf w' q n f := by
  obtain ⟨C, m, h, r⟩ := h
  exact ⟨C, m, e.trans h, r⟩

set_option maxRecDepth 1000000 in
set_option maxHeartbeats 2000000 in
theorem build_trains (b h c : Nat) (w : World) (hf : w.cell? ⟨b, 4, none⟩ = some (.slice (some ⟨h, 0, none⟩) 4 c)) (hp : Pairs w h [⟨#[85]⟩, ⟨#[97, 112]⟩, ⟨#[68]⟩, ⟨#[98, 112]⟩]) :
    Calls Tryz.prog 55 #[.pointer (some ⟨b, 0, none⟩)] w fun e w' => e = .returned (.iface 107 (.pointer (some ⟨w.heap.size + 1, 0, none⟩))) ∧
      ∃ q K p L g2 k2, BS w' (w.heap.size + 1) (fU q K p L) (.slice (some ⟨g2, 0, none⟩) 2 k2) ∧ w'.ownsRow w.heap.size 9 1 (.slice (some ⟨g2, 0, none⟩) 2 k2) 2 [.string ⟨#[68]⟩, .string ⟨#[85]⟩] ∧ Buf w' q 2 (bt ⟨#[98, 112]⟩) ∧ Buf w' p 2 (bt ⟨#[97, 112]⟩) ∧ Below w.heap.size w w' := by
  have p0 := hp 0 _ rfl
  have p1 := hp 1 _ rfl
  have p2 := hp 2 _ rfl
  have p3 := hp 3 _ rfl
  have HP := Lib.hid hp
  clear hp
  obtain ⟨i0, hi, hz0, hz1, hz2⟩ := info_parts info_strT
  have MK := make_two
  have HS := Lib.hid (store_bs (w.alloc (.cells (madeCells #[.string ⟨#[]⟩] 2) 9)) (.slice (some ⟨w.heap.size, 0, none⟩) 0 2) rfl (w.heap.size + 1) (Go.Deep.nblk_alloc _ _).symm)
  go_enter Tryz.func55, Tryz.ntmps55
  go_wp2_with fail
  refine wp_loop_rounds 3 ?_
  rw [rounds_succ]
  go_wp2_with fail
  rw [rounds_succ]
  go_wp2_with fail
  rw [rounds_succ]
  go_wp2_with fail
  rw [HS.out]
  simp only [Result.andThen]
  rw [Oper.upon_skip]
  obtain ⟨W, hW⟩ : ∃ W, W = (w.alloc (.cells (madeCells #[.string ⟨#[]⟩] 2) 9)).alloc (.cells (Tryz.zeroCells106.set! 256 (.slice (some ⟨w.heap.size, 0, none⟩) 0 2)) 106) := ⟨_, rfl⟩
  have BW := Lib.hid (show BS W (w.heap.size + 1) (fun _ => .slice none 0 0) (.slice (some ⟨w.heap.size, 0, none⟩) 0 2) by
    rw [hW]
    have := BS.new (w.alloc (.cells (madeCells #[.string ⟨#[]⟩] 2) 9)) (.slice (some ⟨w.heap.size, 0, none⟩) 0 2)
    rw [Go.Deep.nblk_alloc] at this
    exact this)
  have OW := Lib.hid (show W.ownsRow w.heap.size 9 1 (.slice (some ⟨w.heap.size, 0, none⟩) 0 2) 0 [] by
    rw [hW]
    exact (own_two w).alloc _)
  have B0 := Lib.hid (show Below w.heap.size w W by
    rw [hW]
    exact chain (below_alloc _ _) (below_alloc _ _))
  have HZ := Lib.hid (show W.heap.size = w.heap.size + 2 by rw [hW, Go.Deep.nblk_alloc, Go.Deep.nblk_alloc])
  rw [← hW]
  clear hW HS MK
  have q0 := (HP.out.below B0.out) 0 _ rfl
  have q1 := (HP.out.below B0.out) 1 _ rfl
  have q2 := (HP.out.below B0.out) 2 _ rfl
  have q3 := (HP.out.below B0.out) 3 _ rfl
  have c68 := BW.out.cell (i := 68) (by omega)
  have cl := BW.out.list
  have x68 := byte_68
  have x85 := byte_85
  have EQ := eql_nil
  have CV : (convert 22 9 (.slice (some ⟨W.heap.size, 0, none⟩) 1 1)).run Tryz.prog (W.alloc (.cells #[.int .u8 68] 5)) = .ok (.string ⟨#[68]⟩) (W.alloc (.cells #[.int .u8 68] 5)) := conv_one W 68
  go_wp2_with fail
  refine wp_loop_rounds 3 ?_
  rw [rounds_succ]
  go_wp2_with (at_builtin; refine wpList_append_own _ rfl _ _ 59 rfl w.heap.size 9 i0 (.string .empty) 1 16 Tryz.underlying59 hi hz0 hz1 hz2 rfl (by decide) _ 0 [] rfl ((OW.out.alloc _).alloc _) ⟨W.heap.size + 1, 0, none⟩ 1 1 [.string ⟨#[68]⟩] rfl rfl ?c1 ?c2 ?c3 ?c4 ?c5 ?_)
  case c1 => exact str_new W _ _ _
  case c2 => intro u hu; simp only [List.mem_cons, List.not_mem_nil, or_false] at hu; subst hu; rfl
  case c3 => simp only [maxLen]; omega
  case c4 => omega
  case c5 => have := HZ.out; simp; omega
  intro v1 w2 hown hgrow _
  have hgrow' : World.grownBy _ w2 (some w.heap.size) := hgrow
  have hz := HZ.out
  have b1 : BS w2 (w.heap.size + 1) (fun _ => .slice none 0 0) (.slice (some ⟨w.heap.size, 0, none⟩) 0 2) :=
    ((BW.out.below (below_alloc _ _)).below (below_alloc _ _)).of (hgrow'.block _ (by simp; omega) (by simp))
  have e1 : Below w.heap.size w w2 := (B0.out.trans ((chain (below_alloc W _) (below_alloc _ _)).mono (by omega))).grown hgrow' (by simp; omega) (fun g hg => by simp only [Option.some.injEq] at hg; omega)
  obtain ⟨g1, k1, cur1, rfl, hg1, hc1⟩ := own_form hown
  have cl := b1.list
  have fl := b1.frozen 256
  have B1 := Lib.hid (b1.setList (.slice (some ⟨g1, 0, none⟩) 1 k1))
  have E1 := Lib.hid (e1.setCell (p := ⟨w.heap.size + 1, 256, none⟩) (Nat.le_succ w.heap.size) (.slice (some ⟨g1, 0, none⟩) 1 k1))
  have hne1 : w.heap.size + 1 ≠ g1 := by
    rintro rfl
    obtain ⟨cs, hcs, _⟩ := b1
    rw [hcs] at hc1
    simp at hc1
  have O1 := Lib.hid (Go.ownsRow_setCell_other hown (a := ⟨w.heap.size + 1, 256, none⟩) (by simp [Value.ownBlock]; omega) (.slice (some ⟨g1, 0, none⟩) 1 k1))
  clear hown hgrow hgrow' b1 e1 hz hc1 q0 q1 q2 q3 c68 CV
  go_upto_region 34 with fail
  obtain ⟨W3, hW3⟩ : ∃ X, X = w2.setCell ⟨w.heap.size + 1, 256, none⟩ (.slice (some ⟨g1, 0, none⟩) 1 k1) := ⟨_, rfl⟩
  rw [← hW3] at B1 E1 O1 ⊢
  clear hW3 cl fl
  have hcv := Lib.run_convert_string_bytes (P := Tryz.prog) W3 9 22 5 ⟨#[98, 112]⟩ Tryz.underlying9 Tryz.underlying22 Tryz.underlying5
  have bn := buf_new W3 ⟨#[98, 112]⟩
  have bb := bytes_below W3 ⟨#[98, 112]⟩
  obtain ⟨K, hK⟩ : ∃ K, K = grownCap W3 (⟨#[98, 112]⟩ : ByteArray).size 0 5 := ⟨_, rfl⟩
  obtain ⟨W4, hW4⟩ : ∃ X, X = Lib.bytesWorld W3 5 ⟨#[98, 112]⟩ := ⟨_, rfl⟩
  rw [← hK, ← hW4] at hcv
  rw [← hW4] at bn bb
  have g1lt : g1 < W3.heap.size := by
    obtain ⟨g, k, c', e', _, hh⟩ := own_form O1.out
    simp only [Value.slice.injEq, Option.some.injEq, Addr.mk.injEq] at e'
    rw [e'.1.1]
    exact (Array.getElem?_eq_some_iff.1 hh).1
  have blt := B1.out.lt
  have b4 := B1.out.below bb
  have e4 := E1.out.trans (bb.mono E1.out.size)
  have o4 := own_of (W' := W4) O1.out (fun g hg => by cases hg; exact bb.block _ g1lt)
  have c68 := b4.cell (i := 68) (by omega)
  have z68 := b4.frozen 68
  have B5 := Lib.hid (b4.set (k := 68) (by omega) (.slice (some ⟨W3.heap.size, 0, none⟩) 2 K) (f' := fD W3.heap.size K) (fun i hi => rfl))
  have E5 := Lib.hid (e4.setCell (p := ⟨w.heap.size + 1, 68, none⟩) (Nat.le_succ w.heap.size) (.slice (some ⟨W3.heap.size, 0, none⟩) 2 K))
  have O5 := Lib.hid (Go.ownsRow_setCell_other o4 (a := ⟨w.heap.size + 1, 68, none⟩) (by simp [Value.ownBlock]; omega) (.slice (some ⟨W3.heap.size, 0, none⟩) 2 K))
  have F5 := Lib.hid (bn.of' (w' := W4.setCell ⟨w.heap.size + 1, 68, none⟩ (.slice (some ⟨W3.heap.size, 0, none⟩) 2 K)) (Go.Deep.blk_setCell_other _ _ _ _ (by simp only; omega)))
  clear bn bb b4 e4 o4 hW4 hK
  go_wp2_with fail
  rw [rounds_succ]
  obtain ⟨q, hq⟩ : ∃ q, q = W3.heap.size := ⟨_, rfl⟩
  obtain ⟨W5, hW5⟩ : ∃ X, X = W4.setCell ⟨w.heap.size + 1, 68, none⟩ (.slice (some ⟨q, 0, none⟩) 2 K) := ⟨_, rfl⟩
  rw [← hq] at B5 E5 O5 F5 blt g1lt ⊢
  rw [← hW5] at B5 E5 O5 F5 ⊢
  clear hW5 hq c68 z68 hcv B1 E1 O1
  have q0 := (HP.out.below E5.out) 0 _ rfl
  have q1 := (HP.out.below E5.out) 1 _ rfl
  have c85 := B5.out.cell (i := 85) (by omega)
  rw [show fD q K 85 = .slice none 0 0 from rfl] at c85
  have cl := B5.out.list
  have CV : (convert 22 9 (.slice (some ⟨W5.heap.size, 0, none⟩) 1 1)).run Tryz.prog (W5.alloc (.cells #[.int .u8 85] 5)) = .ok (.string ⟨#[85]⟩) (W5.alloc (.cells #[.int .u8 85] 5)) := conv_one W5 85
  go_wp2_with (at_builtin; refine wpList_append_own _ rfl _ _ 59 rfl w.heap.size 9 i0 (.string .empty) 1 16 Tryz.underlying59 hi hz0 hz1 hz2 rfl (by decide) _ 1 [.string ⟨#[68]⟩] rfl ((O5.out.alloc _).alloc _) ⟨W5.heap.size + 1, 0, none⟩ 1 1 [.string ⟨#[85]⟩] rfl rfl ?d1 ?d2 ?d3 ?d4 ?d5 ?_)
  case d1 => exact str_new W5 _ _ _
  case d2 => intro u hu; simp only [List.mem_cons, List.not_mem_nil, or_false] at hu; subst hu; rfl
  case d3 => simp only [maxLen]; omega
  case d4 => omega
  case d5 => have := E5.out.size; simp; omega
  intro v2 w6 hown hgrow _
  have hgrow' : World.grownBy _ w6 (some g1) := hgrow
  have hs5 := E5.out.size
  have hb5 := B5.out.lt
  have hq5 := F5.out.lt
  have b6 : BS w6 (w.heap.size + 1) (fD q K) (.slice (some ⟨g1, 0, none⟩) 1 k1) :=
    ((B5.out.below (below_alloc _ _)).below (below_alloc _ _)).of (hgrow'.block _ (by simp; omega) (by simp; omega))
  have e6 : Below w.heap.size w w6 := (E5.out.trans ((chain (below_alloc W5 _) (below_alloc _ _)).mono hs5)).grown hgrow' (by simp; omega) (fun g hg => by simp only [Option.some.injEq] at hg; omega)
  have f6 : Buf w6 q 2 (bt ⟨#[98, 112]⟩) := (F5.out.of' ((chain (below_alloc W5 _) (below_alloc _ _)).block _ hq5)).of' (hgrow'.block _ (by simp; omega) (by simp; omega))
  obtain ⟨g2, k2, cur2, rfl, hg2, hc2⟩ := own_form hown
  have cl := b6.list
  have fl := b6.frozen 256
  have hne2 : w.heap.size + 1 ≠ g2 := by
    rintro rfl
    obtain ⟨cs, hcs, _⟩ := b6
    rw [hcs] at hc2
    simp at hc2
  have hne3 : q ≠ g2 := by
    rintro rfl
    obtain ⟨cs, m, hcs, _⟩ := f6
    rw [hcs] at hc2
    simp at hc2
  have B7 := Lib.hid (b6.setList (.slice (some ⟨g2, 0, none⟩) 2 k2))
  have E7 := Lib.hid (e6.setCell (p := ⟨w.heap.size + 1, 256, none⟩) (Nat.le_succ w.heap.size) (.slice (some ⟨g2, 0, none⟩) 2 k2))
  have O7 := Lib.hid (Go.ownsRow_setCell_other hown (a := ⟨w.heap.size + 1, 256, none⟩) (by simp [Value.ownBlock]; omega) (.slice (some ⟨g2, 0, none⟩) 2 k2))
  have F7 := Lib.hid (f6.of' (w' := w6.setCell ⟨w.heap.size + 1, 256, none⟩ (.slice (some ⟨g2, 0, none⟩) 2 k2)) (Go.Deep.blk_setCell_other _ _ _ _ (by simp only; omega)))
  clear hown hgrow hgrow' b6 e6 f6 hc2 q0 q1 c85 CV hs5 hb5 hq5
  go_upto_region 34 with fail
  obtain ⟨W7, hW7⟩ : ∃ X, X = w6.setCell ⟨w.heap.size + 1, 256, none⟩ (.slice (some ⟨g2, 0, none⟩) 2 k2) := ⟨_, rfl⟩
  rw [← hW7] at B7 E7 O7 F7 ⊢
  clear hW7 cl fl
  have hcv := Lib.run_convert_string_bytes (P := Tryz.prog) W7 9 22 5 ⟨#[97, 112]⟩ Tryz.underlying9 Tryz.underlying22 Tryz.underlying5
  have bn := buf_new W7 ⟨#[97, 112]⟩
  have bb := bytes_below W7 ⟨#[97, 112]⟩
  obtain ⟨L, hL⟩ : ∃ K, K = grownCap W7 (⟨#[97, 112]⟩ : ByteArray).size 0 5 := ⟨_, rfl⟩
  obtain ⟨W8, hW8⟩ : ∃ X, X = Lib.bytesWorld W7 5 ⟨#[97, 112]⟩ := ⟨_, rfl⟩
  rw [← hL, ← hW8] at hcv
  rw [← hW8] at bn bb
  have g2lt : g2 < W7.heap.size := by
    obtain ⟨g, k, c', e', _, hh⟩ := own_form O7.out
    simp only [Value.slice.injEq, Option.some.injEq, Addr.mk.injEq] at e'
    rw [e'.1.1]
    exact (Array.getElem?_eq_some_iff.1 hh).1
  have blt7 := B7.out.lt
  have b8 := B7.out.below bb
  have e8 := E7.out.trans (bb.mono E7.out.size)
  have o8 := own_of (W' := W8) O7.out (fun g hg => by cases hg; exact bb.block _ g2lt)
  have f8 := F7.out.of' (bb.block _ F7.out.lt)
  have c85 := b8.cell (i := 85) (by omega)
  have z85 := b8.frozen 85
  have B9 := Lib.hid (b8.set (k := 85) (by omega) (.slice (some ⟨W7.heap.size, 0, none⟩) 2 L) (f' := fU q K W7.heap.size L) (fun i hi => rfl))
  have E9 := Lib.hid (e8.setCell (p := ⟨w.heap.size + 1, 85, none⟩) (Nat.le_succ w.heap.size) (.slice (some ⟨W7.heap.size, 0, none⟩) 2 L))
  have O9 := Lib.hid (Go.ownsRow_setCell_other o8 (a := ⟨w.heap.size + 1, 85, none⟩) (by simp [Value.ownBlock]; omega) (.slice (some ⟨W7.heap.size, 0, none⟩) 2 L))
  have F9 := Lib.hid (f8.of' (w' := W8.setCell ⟨w.heap.size + 1, 85, none⟩ (.slice (some ⟨W7.heap.size, 0, none⟩) 2 L)) (Go.Deep.blk_setCell_other _ _ _ _ (by simp only; omega)))
  have G9 := Lib.hid (bn.of' (w' := W8.setCell ⟨w.heap.size + 1, 85, none⟩ (.slice (some ⟨W7.heap.size, 0, none⟩) 2 L)) (Go.Deep.blk_setCell_other _ _ _ _ (by simp only; omega)))
  clear bn bb b8 e8 o8 f8 hW8 hL
  go_wp2_with fail
  rw [rounds_succ]
  go_wp2_with fail
  go_ret
  exact ⟨rfl, q, K, W7.heap.size, L, g2, k2, B9.out, O9.out, F9.out, G9.out, E9.out⟩

end Go.Proofs.YthjodagbgmpbhaaGreatDoor
