/-
  A fitted path behind all others, by the program.
-/
import Derived.Test.YtoebgdcgcdigaabAddI
import Derived.Test.YtoebgdcgcdigaabGrowP
import Derived.Test.YtoebgdcgcdigaabFit
namespace Go.Proofs.Ytoebgdcgcdigaab
open Go.RowKit Go.Sort

def addB (n : Int) (ps : List (List Int × List Int)) (s : Int) (rs : List Int) : Bool := fitB n ps s rs && decide (ps.length < 8)
def addV (n : Int) (ps : List (List Int × List Int)) (s : Int) (rs : List Int) : List (List Int × List Int) := if addB n ps s rs then ps ++ [fitPath n ps s rs rs.length] else []
def MadeAdd (w : World) (ps : List (List Int × List Int)) (b : Bool) (e : Ending) (w' : World) : Prop := ∃ x, e = .returned (.tuple #[x, .bool b]) ∧ GrowP w' w.heap.size x ps ∧ Below w.heap.size w w'
theorem addV_no {n : Int} {ps : List (List Int × List Int)} {s : Int} {rs : List Int} (h : addB n ps s rs = false) : addV n ps s rs = [] := by unfold addV; rw [h]; rfl
theorem addV_yes {n : Int} {ps : List (List Int × List Int)} {s : Int} {rs : List Int} (h : addB n ps s rs = true) : addV n ps s rs = ps ++ [fitPath n ps s rs rs.length] := by unfold addV; rw [h]; rfl
theorem made_add {w w' : World} {x : Value} {ps qs : List (List Int × List Int)} {b b' : Bool} (h : GrowP w' w.heap.size x qs) (hb : Below w.heap.size w w') (e : qs = ps) (eb : b = b') : MadeAdd w ps b' (.returned (.tuple #[x, .bool b])) w' := by
  subst e
  subst eb
  exact ⟨_, rfl, h, hb⟩
theorem GrowP.nil (w : World) (base : Nat) : GrowP w base (.slice none 0 0) [] :=
  ⟨[], World.ownsRow_nil _ _ _ _, fun i hi => by simp at hi, fun i j _ hj => by simp at hj, fun i hi => by simp at hi⟩
theorem cell_two_new (w : World) (x y : Value) (t : TypeId) : ∀ j u, [x, y][j]? = some u → (w.alloc (.cells #[x, y] t)).cell? ((⟨w.heap.size, 0, none⟩ : Addr).add j) = some u := by
  intro j u hu
  have b := box_cells w x y t
  match j, hu with
  | 0, hu => simp at hu; subst hu; simp [Addr.add, b.1]
  | 1, hu => simp at hu; subst hu; simp [Addr.add, b.2.1]
  | j + 2, hu => simp at hu

set_option maxRecDepth 100000 in
set_option maxHeartbeats 4000000 in
theorem implAdd {w : World} {u v : Value} {n s : Int} {ps : List (List Int × List Int)} {rs : List Int} (hu : Paths w u ps) (h : Ints w v rs) :
    Calls Try.prog 22 #[.int .i64 n, u, .int .i64 s, v] w (MadeAdd w (addV n ps s rs) (addB n ps s rs)) := by
  have FT := Lib.hid (implFit (n := n) (s := s) hu h)
  have HH := Lib.hid (fun (i : Nat) (hi : i < ps.length) (a : Option Addr) (m cap : Nat) (e : u = .slice a m cap) => paths_at (e ▸ hu) hi)
  obtain ⟨a, cap, rfl, hl, -⟩ := hu
  obtain ⟨a', cap', rfl, -, -⟩ := h
  cases hf : fitB n ps s rs
  · have HN := Lib.hid (show addB n ps s rs = false by unfold addB; rw [hf]; rfl)
    rw [hf] at FT
    clear hf
    go_enter Try.func22, Try.ntmps22
    go_wp2_with (go_at_call 17; refine FT.out.mono ?_)
    rintro e w1 ⟨vf, rfl, of, b1⟩
    obtain ⟨a1, n1, c1, a2, n2, c2, rfl⟩ := of.form
    have bb := b1.trans ((below_alloc w1 (.cells #[.slice a1 n1 c1, .slice a2 n2 c2] 32)).mono b1.size)
    clear of b1
    go_wp2_with fail
    go_ret2
    exact made_add (GrowP.nil _ _) bb (addV_no HN.out).symm HN.out.symm
  · rw [hf] at FT
    have his := fitB_is hf
    have hp := (hasB_is (freeB_is (his.2.2 0 (by omega))).1).1
    have hp8 : ps.length ≤ 8 := (pathsB_is hp).2.1
    have HFV := Lib.hid (fitV_yes hf)
    have HP := Lib.hid hp
    by_cases h8 : ps.length < 8
    · have HY := Lib.hid (show addB n ps s rs = true by unfold addB; rw [hf, decide_eq_true h8]; rfl)
      have hd8 : ((ps.length : Int) == 8) = false := by simp; omega
      obtain ⟨i0, hi, hz0, hz1, hz2⟩ := info_parts info_path
      have hw1 : IntKind.i64.wrap ((ps.length : Int) + 1) = ((ps.length + 1 : Nat) : Int) := by rw [IntWalk.i64_in _ (by omega)]; rfl
      have hw1' : wrap64 ((ps.length : Int) + 1) = ((ps.length + 1 : Nat) : Int) := (IntWalk.i64_left _).symm.trans hw1
      have HMK := Lib.hid (show i0.bytes * (ps.length + 1) ≤ 281474976710656 by rw [hz2]; omega)
      clear hf hp his
      go_enter Try.func22, Try.ntmps22
      go_wp2_with (go_at_call 17; refine FT.out.mono ?_)
      rintro e w1 ⟨vf, rfl, of, b1⟩
      obtain ⟨a1, n1, c1, a2, n2, c2, rfl⟩ := of.form
      have e2 := below_alloc w1 (.cells #[.slice a1 n1 c1, .slice a2 n2 c2] 32)
      have p2 := Pair.new w1 (.slice a1 n1 c1) (.slice a2 n2 c2) 32
      obtain ⟨w2, h2⟩ : ∃ X, X = w1.alloc (.cells #[.slice a1 n1 c1, .slice a2 n2 c2] 32) := ⟨_, rfl⟩
      rw [← h2] at e2 p2
      have H2 := Lib.hid h2.symm
      have OF := Lib.hid (of.below e2)
      have IF := Lib.hid of.isIn
      have P2 := Lib.hid p2
      have B2 := Lib.hid (b1.trans (e2.mono b1.size))
      have ZZ := Lib.hid e2.size
      clear h2 of e2 p2 b1
      go_upto_region 2 with fail
      rw [H2.out]
      go_wp2_with (at_make; refine wpList_make_own _ rfl _ _ 23 rfl w2.heap.size 32 i0 (.agg #[.slice none 0 0, .slice none 0 0]) 2 Try.underlying23 hi hz0 hz1 .i64 .i64 _ (ps.length + 1) rfl rfl rfl HMK.out (by simp only [maxLen]; omega) (Nat.le_refl _) ?_)
      intro w3 hown3 hg3
      have b3 : Below w2.heap.size w2 w3 := ⟨hg3.os, hg3.tape, hg3.output, hg3.size, fun k hk => hg3.block k hk (by simp)⟩
      have G0 := Lib.hid (show GrowP w3 w2.heap.size (.slice (some ⟨w2.heap.size, 0, none⟩) 0 (ps.length + 1)) (ps.take 0) from ⟨[], hown3, fun i hi => by simp at hi, fun i j _ hj => by simp at hj, fun i hi => by simp at hi⟩)
      clear hown3 hg3
      go_wp2_with fail
      go_loopw [12, 35] (fun x i wr => ∃ k : Nat, k ≤ ps.length ∧ i = .int .i64 k ∧ GrowP wr w2.heap.size x (ps.take k) ∧ Below w2.heap.size w2 wr) (fun _ i _ => ps.length - (intOf i).toNat)
      case atStart => exact ⟨0, by omega, rfl, G0.out, b3⟩
      case round =>
        obtain ⟨k, hk, rfl, hgr, hbel⟩ := hrel
        have hbw := B2.out.trans (hbel.mono B2.out.size)
        have HTK := Lib.hid (show (ps.take k).length = k by rw [List.length_take]; omega)
        obtain ⟨vs, ho, hi1, hd1, hv1⟩ := hgr
        rw [HTK.out] at ho
        obtain ⟨av, cv, rfl⟩ : ∃ a c, u12 = .slice a k c := by
          rcases ho.2 with ⟨e, h0⟩ | ⟨g, c, cur, e, _⟩
          · exact ⟨none, 0, by rw [e, h0]⟩
          · exact ⟨_, _, e⟩
        have KD := Lib.hid (And.intro hi1 (And.intro hd1 hv1))
        clear hi1 hd1 hv1
        by_cases hlt : k < ps.length
        · obtain ⟨b, o, rfl, hb, hat⟩ := HH.out k hlt a ps.length cap rfl
          have CP := Lib.hid (clonePath ((hat k hlt).below hbw) (pathsB_at HP.out hlt))
          have hki : (k : Int) < (ps.length : Int) := by omega
          have hks : w2.heap.size ≤ wr.heap.size := hbel.size
          clear hat
          go_wp2_with (go_at_call 49; refine CP.out.mono ?_)
          rintro e w4 ⟨vp, rfl, op, b4⟩
          obtain ⟨a3, n3, c3, a4, n4, c4, rfl⟩ := op.form
          have ho4 : w4.ownsRow w2.heap.size 32 2 (.slice av k cv) k vs := World.ownsRow.kept ho (below_grown b4) (by cases (Value.slice av k cv).ownBlock <;> simp)
          have OP := Lib.hid op
          have B4 := Lib.hid b4
          have HO := Lib.hid ho
          have s4 := b4.size
          clear op b4 ho
          go_wp2_with (at_builtin; refine wpList_append_own_at _ rfl _ _ 23 rfl w2.heap.size 32 i0 (.agg #[.slice none 0 0, .slice none 0 0]) 2 48 Try.underlying23 hi hz0 hz1 hz2 rfl (by decide) _ k vs rfl (ho4.alloc _) ⟨w4.heap.size, 0, none⟩ 1 1 [.slice a3 n3 c3, .slice a4 n4 c4] rfl rfl ?c1 ?c2 ?c3 ?c4 ?c5 ?_)
          case c1 => exact cell_two_new _ _ _ _
          case c2 => intro u hu; simp at hu; rcases hu with rfl | rfl <;> rfl
          case c3 => simp only [maxLen]; omega
          case c4 => omega
          case c5 => rw [Go.Deep.nblk_alloc]; omega
          intro v' w5 hown hgrow _ hat'
          have GP := GrowP.push (w := wr) (w1 := w4) (base := w2.heap.size) (base' := w2.heap.size) (ps := ps.take k) (p := ps.getD k noPath) (by rw [HTK.out]; exact HO.out) KD.out.1 KD.out.2.1 KD.out.2.2 (Nat.le_refl _) B4.out (OP.out.mono hks) (fun b hb => .inr (by
            obtain ⟨x1, x2, e, k1, k2⟩ := OP.out.isIn
            simp only [Value.agg.injEq, Array.mk.injEq, List.cons.injEq, and_true] at e
            obtain ⟨rfl, rfl⟩ := e
            rcases hb with hb | hb
            · exact (k1 b hb).1
            · exact (k2 b hb).1)) rfl hgrow (by rw [HTK.out]; exact hown) (by first | exact hat' | (rw [Go.Deep.nblk_alloc]; exact hat'))
          have ht : ps.take k ++ [ps.getD k noPath] = ps.take (k + 1) := by
            rw [List.take_add_one, List.getD_eq_getElem?_getD, List.getElem?_eq_getElem hlt]
            rfl
          rw [ht] at GP
          have BL := Lib.hid (((hbel.trans (B4.out.mono hks)).alloc (Nat.le_trans hks s4) (.cells #[.slice a3 n3 c3, .slice a4 n4 c4] 32)).grown hgrow (by rw [Go.Deep.nblk_alloc]; omega) (fun c hc => (World.ownsRow.lt ho4 c hc).1))
          have GG := Lib.hid GP
          clear GP ht hown hgrow hat' ho4
          go_wp2_with fail
          go_roundw
          case rel => exact ⟨k + 1, by omega, by go_num, GG.out, BL.out⟩
          case measure => simp [intOf]; omega
        · obtain rfl : k = ps.length := by omega
          have k0 := (P2.out.below hbel).cell0
          have k1 := (P2.out.below hbel).cell1
          have hks : w2.heap.size ≤ wr.heap.size := hbel.size
          have HO := Lib.hid ho
          have OW := Lib.hid (OF.out.below hbel)
          have hws : w.heap.size ≤ w2.heap.size := B2.out.size
          go_wp2_with (at_builtin; refine wpList_append_own_at _ rfl _ _ 23 rfl w2.heap.size 32 i0 (.agg #[.slice none 0 0, .slice none 0 0]) 2 48 Try.underlying23 hi hz0 hz1 hz2 rfl (by decide) _ ps.length vs rfl (ho.alloc _) ⟨wr.heap.size, 0, none⟩ 1 1 [.slice a1 n1 c1, .slice a2 n2 c2] rfl rfl ?d1 ?d2 ?d3 ?d4 ?d5 ?_)
          case d1 => exact cell_two_new _ _ _ _
          case d2 => intro u hu; simp at hu; rcases hu with rfl | rfl <;> rfl
          case d3 => simp only [maxLen]; omega
          case d4 => omega
          case d5 => rw [Go.Deep.nblk_alloc]; omega
          intro v' w5 hown hgrow _ hat'
          have GP := GrowP.push (w := wr) (w1 := wr) (base := w2.heap.size) (base' := w.heap.size) (ps := ps.take ps.length) (p := fitV n ps s rs) (by rw [HTK.out]; exact HO.out) KD.out.1 KD.out.2.1 KD.out.2.2 hws (Below.refl _ _) OW.out (fun b hb => .inl (by
            obtain ⟨x1, x2, e, k1, k2⟩ := IF.out
            simp only [Value.agg.injEq, Array.mk.injEq, List.cons.injEq, and_true] at e
            obtain ⟨rfl, rfl⟩ := e
            have := ZZ.out
            rcases hb with hb | hb
            · have := (k1 b hb).2; omega
            · have := (k2 b hb).2; omega)) rfl hgrow (by rw [HTK.out]; exact hown) (by first | exact hat' | (rw [Go.Deep.nblk_alloc]; exact hat'))
          rw [List.take_length, HFV.out] at GP
          have BL := Lib.hid (B2.out.trans (((hbel.alloc hks (.cells #[.slice a1 n1 c1, .slice a2 n2 c2] 32)).grown hgrow (by rw [Go.Deep.nblk_alloc]; omega) (fun c hc => (World.ownsRow.lt ho c hc).1)).mono B2.out.size))
          have GG := Lib.hid GP
          obtain ⟨av', cv', rfl⟩ : ∃ a c, v' = .slice a (ps.length + 1) c := by
            rcases hown.2 with ⟨e, h0⟩ | ⟨g, c, cur, e, _⟩
            · exact ⟨none, 0, by rw [e, h0]⟩
            · exact ⟨_, _, e⟩
          clear GP hown hgrow hat' ho k0 k1
          go_wp2_with fail
          go_ret2
          exact made_add GG.out BL.out (addV_yes HY.out).symm HY.out.symm
    · have h8' : ps.length = 8 := by omega
      have HN := Lib.hid (show addB n ps s rs = false by unfold addB; rw [hf, decide_eq_false h8]; rfl)
      have hd8 : ((ps.length : Int) == 8) = true := by rw [h8']; rfl
      clear hf hp his h8'
      go_enter Try.func22, Try.ntmps22
      go_wp2_with (go_at_call 17; refine FT.out.mono ?_)
      rintro e w1 ⟨vf, rfl, of, b1⟩
      obtain ⟨a1, n1, c1, a2, n2, c2, rfl⟩ := of.form
      have bb := b1.trans ((below_alloc w1 (.cells #[.slice a1 n1 c1, .slice a2 n2 c2] 32)).mono b1.size)
      clear of b1
      go_wp2_with fail
      go_ret2
      exact made_add (GrowP.nil _ _) bb (addV_no HN.out).symm HN.out.symm

end Go.Proofs.Ytoebgdcgcdigaab
