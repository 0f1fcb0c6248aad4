/-
  The program's blocks behind a text of events: BlockPossible, BlockRun, BlockStep, BlockLegal, BlockNormal. For texts of at most 2097152 bytes.
-/
import Derived.Test.YtpofkfcjnhoamaaBlockC
namespace Go.Proofs.Ytpofkfcjnhoamaa
open Go.RowKit Go.Sort

theorem Tri3.stored {w : World} {b : Nat} {x y z : Value} {t : TypeId} (h : Tri3 w b x y z t) (x' y' z' : Value) : Tri3 (((w.setCell ⟨b, 0, none⟩ x').setCell ⟨b, 1, none⟩ y').setCell ⟨b, 2, none⟩ z') b x' y' z' t := by
  unfold Tri3 at h ⊢
  simp [World.setCell, Array.getElem?_modify, h]
theorem stored_below {w w' : World} {n b : Nat} (h : Below n w w') (hb : n ≤ b) (x y z : Value) : Below n w (((w'.setCell ⟨b, 0, none⟩ x).setCell ⟨b, 1, none⟩ y).setCell ⟨b, 2, none⟩ z) :=
  ((h.setCell (p := ⟨b, 0, none⟩) hb x).setCell (p := ⟨b, 1, none⟩) hb y).setCell (p := ⟨b, 2, none⟩) hb z

/-- The two blocks that a function with a block to hand back begins with. -/
theorem two_tri (w : World) (x y z : Value) (t : TypeId) (x' y' z' : Value) (t' : TypeId) (W : World) (hW : W = (w.alloc (.cells #[x, y, z] t)).alloc (.cells #[x', y', z'] t')) :
    Tri3 W w.heap.size x y z t ∧ Tri3 W (w.heap.size + 1) x' y' z' t' ∧ Below w.heap.size w W ∧ W.heap.size = w.heap.size + 2 := by
  have hs : (w.alloc (.cells #[x, y, z] t)).heap.size = w.heap.size + 1 := Go.Deep.nblk_alloc _ _
  have h2 := Tri3.new (w.alloc (.cells #[x, y, z] t)) x' y' z' t'
  rw [hs] at h2
  subst hW
  exact ⟨(Tri3.new w x y z t).alloc _, h2, (below_alloc w _).alloc (by omega) _, by rw [Go.Deep.nblk_alloc, hs]⟩

theorem instrument_no {b : Blk} (h : bkPos b = false) (w : World) :
    Calls Try.prog 58 #[bkV b] w fun e w' => (∃ v, e = .returned (.tuple #[v, .bool false])) ∧ Below w.heap.size w w' :=
  (instrumentOf b w).mono fun e w' ⟨⟨v, he, _⟩, hb⟩ => ⟨⟨v, by rw [he, h]⟩, hb⟩
theorem instrument_yes {b : Blk} (h : bkPos b = true) (w : World) :
    Calls Try.prog 58 #[bkV b] w fun e w' => e = .returned (.tuple #[insV b, .bool true]) ∧ Below w.heap.size w w' :=
  (instrumentOf b w).mono fun e w' ⟨⟨v, he, hv⟩, hb⟩ => ⟨by rw [he, h, hv h], hb⟩

set_option maxHeartbeats 1000000 in
theorem implPossible (b : Blk) (w : World) :
    Calls Try.prog 89 #[bkV b] w fun e w' => e = .returned (.bool (bkPos b)) ∧ Below w.heap.size w w' := by
  have q0 := below_alloc w (.cells #[.int .i64 b.1, .bool b.2.1, .bool b.2.2] 33)
  unfold bkV
  go_enter Try.func89, Try.ntmps89
  go_wp2_with (go_at_call 58; refine (instrumentOf b _).mono ?_)
  rintro e w1 ⟨⟨v, rfl, -⟩, b1⟩
  go_wp2_with fail
  go_ret
  exact ⟨rfl, q0.trans (b1.mono q0.size)⟩

set_option maxHeartbeats 2000000 in
theorem implRun (b : Blk) (S : ByteArray) (hS : S.size ≤ 2097152) (w : World) :
    Calls Try.prog 26 #[bkV b, .string S] w fun e w' => e = .returned (bkR (bkRun b S)) ∧ Below w.heap.size w w' := by
  unfold bkV
  obtain ⟨W, hW⟩ : ∃ W, W = (w.alloc (.cells #[.int .i64 b.1, .bool b.2.1, .bool b.2.2] 33)).alloc (.cells #[.int .i64 0, .bool false, .bool false] 33) := ⟨_, rfl⟩
  obtain ⟨-, T2, B0, SZ⟩ := two_tri _ _ _ _ _ _ _ _ _ W hW
  have HW := Lib.hid hW
  have HB := Lib.hid B0
  have HS := Lib.hid SZ
  have HT := Lib.hid T2
  clear hW B0 SZ T2
  have zero : ∀ (wr : World), Below W.heap.size W wr → bkRun b S = none →
      (Below w.heap.size w (((wr.setCell ⟨w.heap.size + 1, 0, none⟩ (.int .i64 0)).setCell ⟨w.heap.size + 1, 1, none⟩ (.bool false)).setCell ⟨w.heap.size + 1, 2, none⟩ (.bool false))) ∧ Ending.returned (.tuple #[.agg #[.int .i64 0, .bool false, .bool false], .bool false]) = .returned (bkR (bkRun b S)) :=
    fun wr c e => ⟨stored_below (HB.out.trans (c.mono HB.out.size)) (by omega) _ _ _, by rw [e]; rfl⟩
  have Z := Lib.hid zero
  clear zero
  cases hb : bkPos b
  · have N := Lib.hid (bkRun_not (S := S) hb)
    have HI := Lib.hid (instrument_no hb)
    clear hb
    go_enter Try.func26, Try.ntmps26
    go_wp2_with (rw [← HW.out]; go_at_call 58; refine (HI.out _).mono ?_)
    rintro e w1 ⟨⟨v, rfl⟩, b1⟩
    have t1 := HT.out.below b1
    have c0 := t1.cell0
    have c1 := t1.cell1
    have c2 := t1.cell2
    have f0 := t1.frozen 0
    have f1 := t1.frozen 1
    have f2 := t1.frozen 2
    have st := t1.stored (.int .i64 0) (.bool false) (.bool false)
    have l0 := st.cell0
    have l1 := st.cell1
    have l2 := st.cell2
    go_wp2_with fail
    exact bodyPost_ret (v := .tuple #[.agg #[.int .i64 0, .bool false, .bool false], .bool false]) (by simp [results, Try.results26, go_sem, l0, l1, l2]) rfl ⟨(Z.out _ b1 N.out).2, (Z.out _ b1 N.out).1⟩
  · have HI := Lib.hid (instrument_yes hb)
    have HP := Lib.hid hb
    clear hb
    rcases Nat.lt_or_ge 30 S.size with hbig | hsm
    · have hbi : (30 : Int) < (S.size : Int) := by omega
      have N := Lib.hid (bkRun_long (b := b) hbi)
      go_enter Try.func26, Try.ntmps26
      go_wp2_with (rw [← HW.out]; go_at_call 58; refine (HI.out _).mono ?_)
      rintro e w1 ⟨rfl, b1⟩
      have t1 := HT.out.below b1
      have c0 := t1.cell0
      have c1 := t1.cell1
      have c2 := t1.cell2
      have f0 := t1.frozen 0
      have f1 := t1.frozen 1
      have f2 := t1.frozen 2
      have st := t1.stored (.int .i64 0) (.bool false) (.bool false)
      have l0 := st.cell0
      have l1 := st.cell1
      have l2 := st.cell2
      go_wp2_with fail
      exact bodyPost_ret (v := .tuple #[.agg #[.int .i64 0, .bool false, .bool false], .bool false]) (by simp [results, Try.results26, go_sem, l0, l1, l2]) rfl ⟨(Z.out _ b1 N.out).2, (Z.out _ b1 N.out).1⟩
    · have hsi : (S.size : Int) ≤ 30 := by omega
      have R := Lib.hid (bkRun_is HP.out hsi)
      go_enter Try.func26, Try.ntmps26
      go_wp2_with (rw [← HW.out]; go_at_call 58; refine (HI.out _).mono ?_)
      rintro e w1 ⟨rfl, b1⟩
      have B1 := Lib.hid b1
      clear b1
      go_wp2_with fail
      go_loopw [6, 24] (fun v i wr => ∃ (k : Nat) (x : Blk), k ≤ S.size ∧ v = insV x ∧ i = .int .i64 k ∧ bkTo b S k = some x ∧ bkPos x = true ∧ Below w1.heap.size w1 wr) (fun _ i _ => S.size - (intOf i).toNat)
      case atStart => exact ⟨0, b, by omega, rfl, rfl, rfl, HP.out, Below.refl _ _⟩
      case round =>
        obtain ⟨k, x, hk, rfl, rfl, hto, hx, hbel⟩ := hrel
        have TO := Lib.hid hto
        have HX := Lib.hid hx
        clear hto hx
        have hbw : Below W.heap.size W wr := B1.out.trans (hbel.mono B1.out.size)
        have t1 := HT.out.below hbw
        by_cases hlt : k < S.size
        · have hki : (k : Int) < (S.size : Int) := by omega
          have hix : ∀ (w : World), (Instr.index 9 (.string S) (.int .i64 k)).run Try.prog w = .ok (.int .u8 (bt S k)) w := by
            intro w
            rw [run_index_string _ _ _ _ _ Try.underlying9, dif_pos ⟨by omega, hki⟩, ← bt_get hlt]
            rfl
          have AF := Lib.hid (after x HX.out (bt S k))
          have SU := Lib.hid (bkTo_succ TO.out)
          have NO := Lib.hid (fun (e : bkTo b S (k + 1) = none) => bkRun_none (b := b) (S := S) (k := k + 1) (by omega) e)
          obtain ⟨st', hst⟩ : ∃ o, o = bkStep x (bt S k) := ⟨_, rfl⟩
          rw [← hst] at AF SU
          have HSt := Lib.hid hst
          clear hst
          cases st' with
          | none =>
            have N := Lib.hid (NO.out SU.out)
            have c0 := t1.cell0
            have c1 := t1.cell1
            have c2 := t1.cell2
            have f0 := t1.frozen 0
            have f1 := t1.frozen 1
            have f2 := t1.frozen 2
            have st := t1.stored (.int .i64 0) (.bool false) (.bool false)
            have l0 := st.cell0
            have l1 := st.cell1
            have l2 := st.cell2
            clear t1 st
            go_wp2_with (go_at_call 59; refine (AF.out _).mono ?_; rintro e w2 ⟨⟨v, rfl, -⟩, rfl⟩)
            exact bodyPost_ret (v := .tuple #[.agg #[.int .i64 0, .bool false, .bool false], .bool false]) (by simp [results, Try.results26, go_sem, l0, l1, l2]) rfl ⟨(Z.out _ hbw N.out).2, (Z.out _ hbw N.out).1⟩
          | some y =>
            clear t1
            go_wp2_with (go_at_call 59; refine (AF.out _).mono ?_; rintro e w2 ⟨⟨v, rfl, hv⟩, rfl⟩; obtain rfl := hv y rfl; clear hv)
            go_roundw
            case rel => exact ⟨k + 1, y, by omega, rfl, by go_num, SU.out, (bkStep_pos HSt.out.symm).2, hbel⟩
            case measure => simp [intOf]; omega
        · obtain rfl : k = S.size := by omega
          have BO := Lib.hid (blockOf x HX.out)
          go_wp2_with (go_at_call 60; refine (BO.out _).mono ?_)
          rintro e w2 ⟨rfl, b2⟩
          have hb2 := hbw.trans (b2.mono hbw.size)
          have t2 := t1.below b2
          have c0 := t2.cell0
          have c1 := t2.cell1
          have c2 := t2.cell2
          have f0 := t2.frozen 0
          have f1 := t2.frozen 1
          have f2 := t2.frozen 2
          have st := t2.stored (.int .i64 x.1) (.bool x.2.1) (.bool x.2.2)
          have l0 := st.cell0
          have l1 := st.cell1
          have l2 := st.cell2
          clear t1 t2 st
          unfold bkV
          go_wp2_with fail
          exact bodyPost_ret (v := .tuple #[.agg #[.int .i64 x.1, .bool x.2.1, .bool x.2.2], .bool true]) (by simp [results, Try.results26, go_sem, l0, l1, l2]) rfl ⟨by rw [R.out, TO.out]; rfl, stored_below (HB.out.trans (hb2.mono HB.out.size)) (by omega) _ _ _⟩

end Go.Proofs.Ytpofkfcjnhoamaa
