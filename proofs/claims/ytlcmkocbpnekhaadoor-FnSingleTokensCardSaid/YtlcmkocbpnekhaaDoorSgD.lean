/-
  The ready times in an order, and the starts: the program's. For texts of at most 1048576 bytes.
-/
import Derived.Test.YtlcmkocbpnekhaaDoorSgC
import Derived.Test.YtlcmkocbpnekhaaDoorCpyI
namespace Go.Proofs.YtlcmkocbpnekhaaDoor
open Go.RowKit Go.Sort

theorem below_zero (w : World) : Below 0 w w := Below.refl _ _
/-- The first of a list that is not empty, and the rest. -/
theorem drop_first {w : World} {u : Value} {xs : List Int} {m : Nat} (h : Ints w u (xs.drop m)) (hm : m < xs.length) :
    ∃ b o n c u', u = .slice (some ⟨b, o, none⟩) n c ∧ 0 < n ∧ n ≤ 1048576 ∧ b < w.heap.size ∧ w.cell? ⟨b, o, none⟩ = some (.int .i64 (xs.getD m 0)) ∧
      (∀ X : World, (Instr.slice 23 u (some (.int .i64 1)) none none).run Tryd.prog X = .ok u' X) ∧ Ints w u' (xs.drop (m + 1)) := by
  have hl : (xs.drop m).length = xs.length - m := List.length_drop
  obtain ⟨a, c, rfl, h1, h2⟩ := h
  have h0 : Ints w (.slice a (xs.drop m).length c) (xs.drop m) := ⟨a, c, rfl, h1, h2⟩
  rcases h2 with e | ⟨b, o, rfl, hb, hcell⟩
  · rw [e] at hl; simp at hl; omega
  obtain ⟨u', p1, p2⟩ := part_tail (a := some ⟨b, o, none⟩) (c := c) (xs := xs.drop m) (m := 1) (by omega) (by omega)
  have hc := hcell 0 (by omega)
  refine ⟨b, o, _, c, u', rfl, by omega, by omega, hb, ?_, p1, ?_⟩
  · have e : (xs.drop m).getD 0 0 = xs.getD m 0 := by simp [List.getD_eq_getElem?_getD, List.getElem?_drop]
    rw [← e]; exact hc
  · have := p2 w h0
    rw [List.drop_drop] at this
    exact this

set_option maxHeartbeats 4000000 in
theorem readyTimes {w : World} {v : Value} {s : Sg} {S : ByteArray} (h : SgV w v s) (ho : OrdOk s.A.length s.B.length S) (hS : S.size ≤ 1048576) :
    Calls Tryd.prog 16 #[v, .string S] w (MadeInts w (rdL s S S.size)) := by
  obtain ⟨a, n, c, a', n', c', rfl, i1, i2⟩ := h.form
  have FS := Lib.hid (fun (k : Nat) => @rdL_succ s S k)
  have RU := Lib.hid (fun (k : Nat) => @rdy_U s S k)
  have RD := Lib.hid (fun (k : Nat) => @rdy_D s S k)
  have LL := Lib.hid (fun (k : Nat) => rdL_len s S k)
  obtain ⟨r, hr⟩ : ∃ r, r = s.run := ⟨_, rfl⟩
  obtain ⟨hd, hh⟩ : ∃ r, r = s.head := ⟨_, rfl⟩
  rw [← hr, ← hh]
  have ea := below_alloc w (.cells #[.slice a n c, .slice a' n' c', .int .i64 r, .int .i64 hd] 25)
  have pa := Quad.new w (.slice a n c) (.slice a' n' c') (.int .i64 r) (.int .i64 hd) 25
  obtain ⟨W, hW⟩ : ∃ W, W = w.alloc (.cells #[.slice a n c, .slice a' n' c', .int .i64 r, .int .i64 hd] 25) := ⟨_, rfl⟩
  rw [← hW] at ea pa
  have MR := make_room S.size hS W
  have eb := below_alloc W (.cells (madeCells #[.int .i64 0] S.size) 3)
  have ob := room_own S.size hS W
  obtain ⟨W2, hW2⟩ : ∃ X, X = W.alloc (.cells (madeCells #[.int .i64 0] S.size) 3) := ⟨_, rfl⟩
  rw [← hW2] at eb ob MR
  have p0 := (pa.below eb).cell0
  have p1 := (pa.below eb).cell1
  have HW := Lib.hid hW.symm
  have EA := Lib.hid ea
  have EB := Lib.hid eb
  have OB := Lib.hid ob
  have hS' : (S.size : Int) ≤ 1048576 := by omega
  have HSZ := Lib.hid hS
  have J1 := Lib.hid i1
  have J2 := Lib.hid i2
  have UA := Lib.hid (fun (k : Nat) (hk : k < S.size) => @OrdOk.upAt _ _ _ ho k hk)
  have DA := Lib.hid (fun (k : Nat) (hk : k < S.size) => @OrdOk.downAt _ _ _ ho k hk)
  have E1 := fun d os => cell_regrown p0 d os
  have E2 := fun d os => cell_regrown p1 d os
  have P0 := Lib.hid (And.intro p0 p1)
  clear hW hW2 ob eb ea pa h i1 i2 ho hS hr hh p0 p1
  go_enter Tryd.func16, Tryd.ntmps16
  go_upto_region 1 with fail
  rw [HW.out]
  go_wp2_with fail
  refine wp_region_quiet_below (by kernel_rfl) (by kernel_rfl) ?_
  repeat (go_big_quiet_step (skip))
  refine wpQuiet_nil ?_
  intro _ hw'
  obtain ⟨⟨dq, osq⟩, hw''⟩ := hw'
  subst hw''
  have BR := (below_regrown W2 dq osq)
  obtain ⟨V, hV⟩ : ∃ X, X = grow (redrawn W2 dq) osq := ⟨_, rfl⟩
  rw [← hV] at BR ⊢
  have OV := Lib.hid (OB.out.below BR)
  have BV := Lib.hid ((EA.out.trans (EB.out.mono EA.out.size)).trans (BR.mono (Nat.le_trans EA.out.size EB.out.size)))
  have SZ := Lib.hid (Nat.le_trans EB.out.size BR.size)
  have SW := Lib.hid EA.out.size
  clear E1 E2 BR hV MR OB
  have AV := Lib.hid (below_self V)
  go_wp2_with fail
  go_loopw [5, 6, 7, 18] (fun t ua ub i wr => ∃ (k : Nat), k ≤ S.size ∧ i = .int .i64 k ∧ Hid (OwnI wr W.heap.size t (rdL s S k)) ∧ Hid (Ints w ua (s.A.drop (upTo S k))) ∧ Hid (Ints w ub (s.B.drop (k - upTo S k))) ∧ Hid (Below w.heap.size w wr) ∧ Hid (W.heap.size ≤ wr.heap.size)) (fun _ _ _ i _ => S.size - (intOf i).toNat)
  case atStart => exact ⟨0, by omega, rfl, OV, J1, J2, BV, SZ⟩
  case round =>
    obtain ⟨k, hk, rfl, hot, hia, hib, hbel, hsz⟩ := hrel
    by_cases hlt : k < S.size
    · have hki : (k : Int) < (S.size : Int) := by omega
      have hix := index_at hlt
      have UU := Lib.hid (@upTo_U S k)
      have UD := Lib.hid (@upTo_D S k)
      have hup := upTo_le S k
      have LK := LL.out k
      have FK := FS.out k
      have uk := UA.out k hlt
      have dk := DA.out k hlt
      have ru := RU.out k
      have rd := RD.out k
      obtain ⟨m, hm⟩ : ∃ m, m = upTo S k := ⟨_, rfl⟩
      rw [← hm] at UU UD hup uk dk ru rd hia hib
      obtain ⟨x, hx⟩ : ∃ x, x = bt S k := ⟨_, rfl⟩
      rw [← hx] at hix UU UD uk dk ru rd
      clear hx hm
      by_cases h1 : x = 85
      · obtain ⟨b, o, n1, c1, u', hua, hn1, hn2, hb, hcell, hsl, hu'⟩ := drop_first hia.out (uk h1)
        subst hua
        have E := Lib.hid (UU.out h1)
        have F := Lib.hid (FK.trans (by rw [ru h1]))
        obtain ⟨y, hy⟩ : ∃ y, y = s.A.getD m 0 := ⟨_, rfl⟩
        rw [← hy] at hcell F
        have hcell := (hbel.out.cell (p := ⟨b, o, none⟩) hb).trans hcell
        have hn1' : (0 : Int) < (n1 : Int) := by omega
        have U1 := Lib.hid hu'
        have LK2 := Lib.hid (show (rdL s S k).length ≤ 1048576 by rw [LK]; have := HSZ.out; omega)
        have HK := Lib.hid (show k + 1 - (m + 1) = k - m by omega)
        clear hu' uk dk ru rd LK FK UD hy hia hup
        subst h1
        go_wp2_with (at_builtin; refine wpList_addI _ _ rfl rfl rfl rfl hot.out LK2.out hsz.out ?_; intro v' w' o' b')
        go_roundw
        case rel => exact ⟨k + 1, by omega, by go_num, Lib.hid (by rw [F.out]; exact o'), Lib.hid (by rw [E.out]; exact U1.out), Lib.hid (by rw [E.out, HK.out]; exact hib.out), Lib.hid (b' _ _ hbel.out SW.out), Lib.hid (Nat.le_trans hsz.out (b' 0 _ (below_zero _) (Nat.zero_le _)).size)⟩
        case measure => simp [intOf]; omega
      · obtain ⟨b, o, n1, c1, u', hua, hn1, hn2, hb, hcell, hsl, hu'⟩ := drop_first hib.out (dk h1)
        subst hua
        have E := Lib.hid (UD.out h1)
        have F := Lib.hid (FK.trans (by rw [rd h1]))
        obtain ⟨y, hy⟩ : ∃ y, y = s.B.getD (k - m) 0 := ⟨_, rfl⟩
        rw [← hy] at hcell F
        have hcell := (hbel.out.cell (p := ⟨b, o, none⟩) hb).trans hcell
        have hn1' : (0 : Int) < (n1 : Int) := by omega
        have U1 := Lib.hid hu'
        have LK2 := Lib.hid (show (rdL s S k).length ≤ 1048576 by rw [LK]; have := HSZ.out; omega)
        have HK := Lib.hid (show k + 1 - m = k - m + 1 by omega)
        have t1 : (x == 85) = false := by simp [h1]
        clear hu' uk dk ru rd LK FK hy hib hup h1 UU
        go_wp2_with (at_builtin; refine wpList_addI _ _ rfl rfl rfl rfl hot.out LK2.out hsz.out ?_; intro v' w' o' b')
        go_roundw
        case rel => exact ⟨k + 1, by omega, by go_num, Lib.hid (by rw [F.out]; exact o'), Lib.hid (by rw [E.out]; exact hia.out), Lib.hid (by rw [E.out, HK.out]; exact U1.out), Lib.hid (b' _ _ hbel.out SW.out), Lib.hid (Nat.le_trans hsz.out (b' 0 _ (below_zero _) (Nat.zero_le _)).size)⟩
        case measure => simp [intOf]; omega
    · obtain rfl : k = S.size := by omega
      go_wp2_with fail
      go_ret
      exact ⟨_, rfl, hot.out.mono SW.out, hbel.out⟩

end Go.Proofs.YtlcmkocbpnekhaaDoor
