/-
  RegisterFix, by the program and by the model. For lists of at most 1048576 notes.
-/
import Derived.Test.YtodknakemgmhkaaRegL
import Derived.Test.YtodknakemgmhkaaRegR
import Derived.Test.YtodknakemgmhkaaNoteF
import Derived.Test.YtodknakemgmhkaaRepI
import Derived.Test.YtodknakemgmhkaaRepS
import Derived.Test.YtodknakemgmhkaaRepP
namespace Go.Proofs.Ytodknakemgmhkaa
open Go.RowKit Go.Sort

theorem one_part {T : ByteArray} {k : Nat} (h : k < T.size) (w : World) : (Instr.slice 9 (.string T) (some (.int .i64 k)) (some (.int .i64 ((k : Int) + 1))) none).run Try.prog w = .ok (.string (T.extract k (k + 1))) w := by
  rw [run_slice_string _ _ _ _ _ _ _ Try.underlying9 (by omega) (by omega) (by omega)]
  have e1 : (k : Int).toNat = k := by omega
  have e2 : ((k : Int) + 1).toNat = k + 1 := by omega
  rw [e1, e2]

set_option maxRecDepth 100000 in
set_option maxHeartbeats 4000000 in
theorem implRepairAt {w : World} {p : Value} {ns : List Mv} (h : Chain w p ns) (hr : regB ns = true) {T : ByteArray} (hT : T.size = ns.length + 1) :
    Calls Try.prog 82 #[p, .string T] w fun e w' => e = .returned (.tuple #[.agg #[.int .i64 (lastM ns (dif (nTx ns) T)), .string (T.extract (dif (nTx ns) T) (dif (nTx ns) T + 1))], .int .i64 ((dif (nTx ns) T : Nat) : Int)]) ∧ Below w.heap.size w w' := by
  have h30 := (regB_is hr).1
  have q := below_alloc w (.cells #[.int .i64 0, .string ⟨#[]⟩] 65)
  have pb := Pair.new w (.int .i64 0) (.string ⟨#[]⟩) 65
  have hc0 := h.below q
  obtain ⟨W, hW⟩ : ∃ W, W = w.alloc (.cells #[.int .i64 0, .string ⟨#[]⟩] 65) := ⟨_, rfl⟩
  rw [← hW] at q pb hc0
  have HW := Lib.hid hW
  have Q := Lib.hid q
  have P := Lib.hid pb
  have CH := Lib.hid hc0
  have TS := Lib.hid hT
  have SS := Lib.hid (nTx_size hr)
  have BT := Lib.hid (fun i (hi : i < ns.length) => reg_bt hr hi)
  have EV := Lib.hid (fun i (hi : i < ns.length) => evB_size (reg_note hr hi).2.2)
  obtain ⟨ap, rfl⟩ := h.ptr
  clear hW q pb hc0 h hr hT
  go_enter Try.func82, Try.ntmps82
  go_wp2_with fail
  rw [← HW.out]
  go_loopw [0, 6, 7] (fun e m i wr => ∃ j : Nat, j ≤ ns.length ∧ i = .int .i64 j ∧ m = .int .i64 (lastM ns j) ∧ Hid (Chain W e (ns.drop j)) ∧ Hid (∀ i', i' < j → bt (nTx ns) i' = bt T i') ∧ Hid (Below W.heap.size W wr)) (fun e _ _ _ => left W e)
  case atStart => exact ⟨0, by omega, rfl, rfl, CH, Lib.hid (fun i' hi => absurd hi (by omega)), Lib.hid (below_self _)⟩
  case round =>
    obtain ⟨j, hj, rfl, rfl, HC, HE, HB⟩ := hrel
    have hc := HC.out
    have ML := Lib.hid (left_eq hc)
    have hjT : j < T.size := by rw [TS.out]; omega
    have hw1 : IntKind.i64.wrap ((j : Int) + 1) = (j : Int) + 1 := IntWalk.i64_in _ (by omega)
    have hw2 : wrap64 ((j : Int) + 1) = (j : Int) + 1 := (IntWalk.i64_left _).symm.trans hw1
    have hsl := fun w => one_part hjT w
    have QS := Lib.hid (one_size hjT)
    have QB := Lib.hid (one_bt hjT)
    by_cases hlt : j < ns.length
    · rw [drop_get hlt] at hc
      obtain ⟨b, q', rfl, hb, k0, k1, k2, hn⟩ := hc.cells
      obtain ⟨aq', rfl⟩ := hn.ptr
      have HN := Lib.hid hn
      have c0 := (HB.out.cell (p := ⟨b, 0, none⟩) hb).trans k0
      have c1 := (HB.out.cell (p := ⟨b, 1, none⟩) hb).trans k1
      have c2 := (HB.out.cell (p := ⟨b, 2, none⟩) hb).trans k2
      have B0 := Lib.hid hb
      have LB := Lib.hid (BT.out j hlt)
      have LS := Lib.hid (EV.out j hlt)
      have LM := Lib.hid (show lastM ns (j + 1) = (ns.getD j noMv).1 from rfl)
      obtain ⟨x, hx⟩ : ∃ x, x = (ns.getD j noMv).1 := ⟨_, rfl⟩
      obtain ⟨S, hS⟩ : ∃ S, S = (ns.getD j noMv).2 := ⟨_, rfl⟩
      rw [← hx] at c0 LM
      rw [← hS] at c1 LB LS
      have g1 := fun d os => cell_regrown c1 d os
      by_cases e : S = T.extract j (j + 1)
      · have t1 := str_eq e
        have EB := Lib.hid (show ∀ i', i' < j + 1 → bt (nTx ns) i' = bt T i' from fun i' hi => by
          by_cases q : i' = j
          · rw [q, LB.out, e, QB.out]
          · exact HE.out i' (by omega))
        clear e hx hS k0 k1 k2 hc hn
        obtain ⟨Q1, hQ1⟩ : ∃ Q1, Q1 = T.extract j (j + 1) := ⟨_, rfl⟩
        rw [← hQ1] at hsl t1
        clear hQ1
        go_wp2_with fail
        refine wp_region_quiet_below (by kernel_rfl) (by kernel_rfl) ?_
        repeat (go_big_quiet_step (fail))
        refine wpQuiet_nil ?_
        intro _ hw'
        obtain ⟨⟨dq, osq⟩, hw''⟩ := hw'
        subst hw''
        have br := below_regrown wr dq osq
        obtain ⟨wz, hwz⟩ : ∃ X, X = grow (redrawn wr dq) osq := ⟨_, rfl⟩
        rw [← hwz] at br ⊢
        have B3 := Lib.hid (HB.out.trans (br.mono HB.out.size))
        have c2z := ((B3.out.cell (p := ⟨b, 2, none⟩) B0.out).trans ((HB.out.cell (p := ⟨b, 2, none⟩) B0.out).symm.trans c2))
        have c0z := ((B3.out.cell (p := ⟨b, 0, none⟩) B0.out).trans ((HB.out.cell (p := ⟨b, 0, none⟩) B0.out).symm.trans c0))
        clear br hwz g1 c0 c1 c2
        go_wp2_with fail
        go_roundw
        case rel => exact ⟨j + 1, by omega, by go_num, by rw [LM.out], HN, EB, B3⟩
        case measure => rw [ML.out, left_eq HN.out, List.length_drop, List.length_drop]; omega
      · have t1 := str_ne e
        have DF := Lib.hid (dif_is (S := nTx ns) (T := T) (k := j) (by rw [SS.out]; omega) HE.out (fun _ => by
          intro q
          exact e (size_one_ext LS.out QS.out (by rw [← LB.out, q, QB.out]))))
        clear e hx hS k0 k1 k2 hc hn
        obtain ⟨Q1, hQ1⟩ : ∃ Q1, Q1 = T.extract j (j + 1) := ⟨_, rfl⟩
        rw [← hQ1] at hsl t1
        have HQ := Lib.hid hQ1
        obtain ⟨M, hM⟩ : ∃ M, M = lastM ns j := ⟨_, rfl⟩
        have MM := Lib.hid hM
        rw [← hM]
        clear hQ1 hM LM
        go_wp2_with fail
        refine wp_region_quiet_below (by kernel_rfl) (by kernel_rfl) ?_
        repeat (go_big_quiet_step (fail))
        refine wpQuiet_nil ?_
        intro _ hw'
        obtain ⟨⟨dq, osq⟩, hw''⟩ := hw'
        subst hw''
        have br := below_regrown wr dq osq
        obtain ⟨wz, hwz⟩ : ∃ X, X = grow (redrawn wr dq) osq := ⟨_, rfl⟩
        rw [← hwz] at br ⊢
        have B3 := Lib.hid (HB.out.trans (br.mono HB.out.size))
        clear br hwz g1 c0 c1 c2
        have z := P.out.below B3.out
        have z0 := z.cell0
        have z1 := z.cell1
        have y0 := z.frozen 0
        have y1 := z.frozen 1
        have st := (z.set0 (.int .i64 M)).set1 (.string Q1)
        have BZ := Lib.hid (((Q.out.trans (B3.out.mono Q.out.size)).setCell (p := ⟨w.heap.size, 0, none⟩) (Nat.le_refl _) (.int .i64 M)).setCell (p := ⟨w.heap.size, 1, none⟩) (Nat.le_refl _) (.string Q1))
        have l0 := st.cell0
        have l1 := st.cell1
        clear st z
        go_wp2_with fail
        exact bodyPost_ret (v := .tuple #[.agg #[.int .i64 M, .string Q1], .int .i64 (j : Int)]) (by simp [results, Try.results82, go_sem, l0, l1]) rfl ⟨by rw [DF.out, MM.out, HQ.out], BZ.out⟩
    · have hje : j = ns.length := by omega
      have DF := Lib.hid (dif_is (S := nTx ns) (T := T) (k := j) (by rw [SS.out]; omega) HE.out (fun q => by rw [SS.out] at q; omega))
      rw [hje, List.drop_length] at hc
      have hq : _ = Value.pointer none := hc
      subst hq
      obtain ⟨Q1, hQ1⟩ : ∃ Q1, Q1 = T.extract j (j + 1) := ⟨_, rfl⟩
      rw [← hQ1] at hsl
      have HQ := Lib.hid hQ1
      obtain ⟨M, hM⟩ : ∃ M, M = lastM ns j := ⟨_, rfl⟩
      have MM := Lib.hid hM
      rw [← hM]
      clear hQ1 hM hc hje hlt
      go_wp2_with fail
      refine wp_region_quiet_below (by kernel_rfl) (by kernel_rfl) ?_
      repeat (go_big_quiet_step (fail))
      refine wpQuiet_nil ?_
      intro _ hw'
      obtain ⟨⟨dq, osq⟩, hw''⟩ := hw'
      subst hw''
      have br := below_regrown wr dq osq
      obtain ⟨wz, hwz⟩ : ∃ X, X = grow (redrawn wr dq) osq := ⟨_, rfl⟩
      rw [← hwz] at br ⊢
      have B3 := Lib.hid (HB.out.trans (br.mono HB.out.size))
      clear br hwz
      have z := P.out.below B3.out
      have z0 := z.cell0
      have z1 := z.cell1
      have y0 := z.frozen 0
      have y1 := z.frozen 1
      have st := (z.set0 (.int .i64 M)).set1 (.string Q1)
      have BZ := Lib.hid (((Q.out.trans (B3.out.mono Q.out.size)).setCell (p := ⟨w.heap.size, 0, none⟩) (Nat.le_refl _) (.int .i64 M)).setCell (p := ⟨w.heap.size, 1, none⟩) (Nat.le_refl _) (.string Q1))
      have l0 := st.cell0
      have l1 := st.cell1
      clear st z
      go_wp2_with fail
      exact bodyPost_ret (v := .tuple #[.agg #[.int .i64 M, .string Q1], .int .i64 (j : Int)]) (by simp [results, Try.results82, go_sem, l0, l1]) rfl ⟨by rw [DF.out, MM.out, HQ.out], BZ.out⟩

/-- What RegisterFix hands back. -/
def fxN (ns : List Mv) : List Mv := if regB ns = true then fixL ns (repL (nTx ns)) else []
def fxI (ns : List Mv) : List Int := if regB ns = true then fixI ns (repL (nTx ns)) else []
theorem fxN_len (ns : List Mv) : (fxN ns).length ≤ 1048576 := by
  unfold fxN
  split
  · unfold fixL; rw [List.length_map]; have := repL_length (nTx ns); omega
  · simp
theorem fxI_len (ns : List Mv) : (fxI ns).length ≤ 1048576 := by
  unfold fxI
  split
  · unfold fixI; rw [List.length_map]; have := repL_length (nTx ns); omega
  · simp
/-- A call that hands back a list of notes and a list of ints, both its own. -/
def MadeNI (w : World) (ms : List Mv) (xs : List Int) (e : Ending) (w' : World) : Prop :=
  ∃ v y, e = .returned (.tuple #[v, y]) ∧ OwnN w' w.heap.size v ms ∧ OwnI w' w.heap.size y xs ∧ ((v.ownBlock = none ∨ v.ownBlock ≠ y.ownBlock) ∧ (y.ownBlock = none ∨ y.ownBlock ≠ v.ownBlock)) ∧ Below w.heap.size w w'
theorem apart_own {w : World} {b1 b2 s1 s2 n1 n2 : Nat} {t1 t2 : TypeId} {v1 v2 : Value} {x1 x2 : List Value} (h1 : w.ownsRow b1 t1 s1 v1 n1 x1) (h2 : w.ownsRow b2 t2 s2 v2 n2 x2) (ht : t1 ≠ t2) : v1.ownBlock = none ∨ v1.ownBlock ≠ v2.ownBlock := by
  rcases h1.2 with ⟨rfl, _⟩ | ⟨g1, c1, cur1, rfl, _, e1, _⟩
  · exact .inl rfl
  · rcases h2.2 with ⟨rfl, _⟩ | ⟨g2, c2, cur2, rfl, _, e2, _⟩
    · exact .inr (by simp [Value.ownBlock])
    · refine .inr fun e => ?_
      simp only [Value.ownBlock, Option.some.injEq] at e
      subst e
      rw [e1] at e2
      simp only [Option.some.injEq, Obj.cells.injEq] at e2
      exact ht e2.2.1
theorem rep_size {S X : ByteArray} (h : X ∈ repL S) : X.size = S.size + 1 := by
  unfold repL at h
  split at h
  · obtain ⟨i, hi, rfl, _⟩ := repTo_mem h
    unfold insAt
    simp only [ByteArray.size_append, ByteArray.size_extract, ltS_size]
    omega
  · cases h
theorem takeS {Ts : List ByteArray} {j : Nat} (h : j < Ts.length) : Ts.take (j + 1) = Ts.take j ++ [Ts.getD j ⟨#[]⟩] := by
  rw [List.take_add_one]
  simp [h]

set_option maxRecDepth 100000 in
set_option maxHeartbeats 8000000 in
theorem implRegisterFix {w : World} {v : Value} {ns : List Mv} (h : Mvs w v ns) : Calls Try.prog 55 #[v] w (MadeNI w (fxN ns) (fxI ns)) := by
  obtain ⟨i0, hi, hz0, hz1, hz2⟩ := info_parts info_int
  obtain ⟨j0, hj, hy0, hy1, hy2⟩ := info_parts info_note
  have o1 := (ow_empty w 65 2 (mvF [])).below (below_alloc (w.alloc (.cells #[] 65)) (.cells #[] 3))
  have o2 := own_empty (w.alloc (.cells #[] 65))
  rw [World.size_alloc] at o2
  have q0 : Below w.heap.size w ((w.alloc (.cells #[] 65)).alloc (.cells #[] 3)) := (below_alloc w _).alloc (by simp) _
  obtain ⟨W, hW⟩ : ∃ W, W = (w.alloc (.cells #[] 65)).alloc (.cells #[] 3) := ⟨_, rfl⟩
  rw [← hW] at o1 o2 q0
  have R := Lib.hid (implRegisterOf (Rd.below h q0))
  have HW := Lib.hid hW
  have Q0 := Lib.hid q0
  have O1 := Lib.hid (show OwnN W w.heap.size _ [] from o1)
  have O2 := Lib.hid (show OwnI W w.heap.size _ [] from o2.mono (by omega))
  obtain ⟨av, cv, rfl⟩ := Rd.slice h
  clear h hW o1 o2 q0
  cases hr : regB ns
  · have S1 := Lib.hid (show fxN ns = [] by unfold fxN; rw [if_neg (by simp [hr])])
    have S2 := Lib.hid (show fxI ns = [] by unfold fxI; rw [if_neg (by simp [hr])])
    have P := Lib.hid hr
    clear hr
    go_enter Try.func55, Try.ntmps55
    go_wp2_with (rw [← HW.out]; go_at_call 60; refine R.out.mono ?_)
    rintro e w1 ⟨p, rfl, ch, b1⟩
    rw [P.out]
    obtain ⟨a, rfl⟩ := ch.ptr
    have A1 := Lib.hid (O1.out.below b1)
    have A2 := Lib.hid (O2.out.below b1)
    have B1 := Lib.hid (Q0.out.trans (b1.mono Q0.out.size))
    clear ch b1
    go_wp2_with fail
    go_ret2
    exact ⟨_, _, rfl, by rw [S1.out]; exact A1.out, by rw [S2.out]; exact A2.out, ⟨apart_own A1.out A2.out (by decide), apart_own A2.out A1.out (by decide)⟩, B1.out⟩
  have S1 := Lib.hid (show fxN ns = fixL ns (repL (nTx ns)) by unfold fxN; rw [if_pos hr])
  have S2 := Lib.hid (show fxI ns = fixI ns (repL (nTx ns)) by unfold fxI; rw [if_pos hr])
  have P := Lib.hid hr
  have h30 := (regB_is hr).1
  have SZ := Lib.hid (nTx_size hr)
  have RP := Lib.hid (fun (X : World) => implRepair (nTx ns) (by rw [nTx_size hr]; omega) X)
  have TS := Lib.hid (fun (X : ByteArray) (hX : X ∈ repL (nTx ns)) => show X.size = ns.length + 1 by rw [rep_size hX, nTx_size hr])
  have TL := Lib.hid (repL_length (nTx ns))
  obtain ⟨Ts, hTs⟩ : ∃ Ts, Ts = repL (nTx ns) := ⟨_, rfl⟩
  rw [← hTs] at S1 S2 RP TS TL
  have htl : Ts.length ≤ 210 := TL.out
  have htl' : (Ts.length : Int) ≤ 210 := by omega
  clear hr hTs
  go_enter Try.func55, Try.ntmps55
  go_wp2_with (rw [← HW.out]; go_at_call 60; refine R.out.mono ?_)
  rintro e w1 ⟨p, rfl, ch, b1⟩
  rw [P.out]
  rw [regL_yes P.out] at ch
  have TX := Lib.hid (implText ch P.out)
  obtain ⟨a, rfl⟩ := ch.ptr
  have A1 := Lib.hid (O1.out.below b1)
  have A2 := Lib.hid (O2.out.below b1)
  have B1 := Lib.hid (Q0.out.trans (b1.mono Q0.out.size))
  have CH := Lib.hid ch
  clear ch b1
  go_wp2_with (first
    | (go_at_call 63; refine TX.out.mono ?_; rintro e w2 ⟨rfl, b2⟩; have A3 := Lib.hid (A1.out.below b2); have A4 := Lib.hid (A2.out.below b2); have B2 := Lib.hid (B1.out.trans (b2.mono B1.out.size)); have CH2 := Lib.hid (CH.out.below b2); clear b2)
    | (go_at_call 81; refine (RP.out _).mono ?_; rintro e w3 ⟨vq, rfl, oq, b3⟩; have A5 := Lib.hid (A3.out.below b3); have A6 := Lib.hid (A4.out.below b3); have B3 := Lib.hid (B2.out.trans (b3.mono B2.out.size)); have CH3 := Lib.hid (CH2.out.below b3); have OQ := Lib.hid oq; obtain ⟨aq, cq, rfl, -, -⟩ := oq.cells; clear oq b3))
  go_loopw [4, 5, 27] (fun v y i wr => ∃ j : Nat, j ≤ Ts.length ∧ i = .int .i64 j ∧ Hid (OwnN wr w.heap.size v (fixL ns (Ts.take j))) ∧ Hid (OwnI wr w.heap.size y (fixI ns (Ts.take j))) ∧ Hid (OwnS wr w2.heap.size (.slice aq Ts.length cq) Ts) ∧ Hid (Chain wr (.pointer a) ns) ∧ Hid (Below w.heap.size w wr)) (fun _ _ i _ => Ts.length - (intOf i).toNat)
  case atStart => exact ⟨0, by omega, rfl, A5, A6, OQ, CH3, B3⟩
  case round =>
    obtain ⟨j, hjj, rfl, HV, HY, HQ, HC, HB⟩ := hrel
    have hl1 : (fixL ns (Ts.take j)).length = j := by unfold fixL; rw [List.length_map, List.length_take]; omega
    have hl2 : (fixI ns (Ts.take j)).length = j := by unfold fixI; rw [List.length_map, List.length_take]; omega
    obtain ⟨al, cl, hal⟩ := Ow.slice HV.out
    obtain ⟨ai, ci, hai⟩ := own_slice2 HY.out
    rw [hl1] at hal
    rw [hl2] at hai
    subst hal
    subst hai
    by_cases hlt : j < Ts.length
    · have hji : (j : Int) < (Ts.length : Int) := by omega
      obtain ⟨aq', cq', eq', _, hcq⟩ := HQ.out.cells
      simp only [Value.slice.injEq] at eq'
      obtain ⟨rfl, _, rfl⟩ := eq'
      rcases hcq with hcq | ⟨g, rfl, hgb, hgl, hcell⟩
      · rw [hcq] at hlt; exact absurd hlt (by simp)
      have c0 := hcell j hlt
      have TM := Lib.hid (takeS hlt)
      have MEM : Ts.getD j ⟨#[]⟩ ∈ Ts := by rw [List.getD_eq_getElem?_getD, List.getElem?_eq_getElem hlt]; exact List.getElem_mem hlt
      have hts := TS.out _ MEM
      obtain ⟨T, hT⟩ : ∃ T, T = Ts.getD j ⟨#[]⟩ := ⟨_, rfl⟩
      rw [← hT] at c0 TM hts
      have RA := Lib.hid (implRepairAt HC.out P.out hts)
      have FX := Lib.hid (show fixN ns T = (lastM ns (dif (nTx ns) T), T.extract (dif (nTx ns) T) (dif (nTx ns) T + 1)) from rfl)
      obtain ⟨d, hd⟩ : ∃ d, d = dif (nTx ns) T := ⟨_, rfl⟩
      have HD := Lib.hid hd
      rw [← hd] at RA FX
      obtain ⟨M, hM⟩ : ∃ M, M = lastM ns d := ⟨_, rfl⟩
      obtain ⟨Q1, hQ1⟩ : ∃ Q1, Q1 = T.extract d (d + 1) := ⟨_, rfl⟩
      rw [← hM, ← hQ1] at RA FX
      have N1 := Lib.hid (show fixL ns (Ts.take (j + 1)) = fixL ns (Ts.take j) ++ [(M, Q1)] by rw [TM.out]; unfold fixL; rw [List.map_append, List.map_singleton, FX.out])
      have N2 := Lib.hid (show fixI ns (Ts.take (j + 1)) = fixI ns (Ts.take j) ++ [(d : Int)] by rw [TM.out]; unfold fixI; rw [List.map_append, List.map_singleton, HD.out])
      have L1 := Lib.hid hl1
      have L2 := Lib.hid hl2
      clear hT hd hM hQ1 hcell MEM hts hl1 hl2
      go_wp2_with (go_at_call 82; refine RA.out.mono ?_)
      rintro e wA ⟨rfl, bA⟩
      have pX := Pair.new wA (.int .i64 M) (.string Q1) 65
      have qX := bA.alloc bA.size (.cells #[.int .i64 M, .string Q1] 65)
      obtain ⟨X, hX⟩ : ∃ X, X = wA.alloc (.cells #[.int .i64 M, .string Q1] 65) := ⟨_, rfl⟩
      rw [← hX] at pX qX
      have HX := Lib.hid hX
      have V1 := Lib.hid (HV.out.below qX)
      have Y1 := Lib.hid (HY.out.below qX)
      have Q2 := Lib.hid (HQ.out.below qX)
      have C1 := Lib.hid (HC.out.below qX)
      have B4 := Lib.hid (HB.out.trans (qX.mono HB.out.size))
      have x0 := pX.cell0
      have x1 := pX.cell1
      have own1 := V1.out
      unfold OwnN Ow at own1
      rw [L1.out] at own1
      have OWN1 := Lib.hid own1
      clear hX pX qX bA c0 own1
      go_upto_region 9 with fail
      rw [← HX.out]
      go_wp2_with (at_builtin; refine wpList_append_own _ rfl _ _ 25 rfl w.heap.size 65 j0 (.agg #[.int .i64 0, .string ⟨#[]⟩]) 2 24 Try.underlying25 hj hy0 hy1 hy2 rfl (by decide) _ _ _ rfl (World.ownsRow.alloc OWN1.out _) ⟨X.heap.size, 0, none⟩ 1 1 [.int .i64 M, .string Q1] rfl rfl ?a1 ?a2 ?a3 ?a4 ?a5 ?_)
      case a1 => exact lit_two_n _ _ _ _
      case a2 => intro u hu; simp at hu; rcases hu with rfl | rfl <;> rfl
      case a3 => simp only [maxLen]; omega
      case a4 => omega
      case a5 => have := B4.out.size; simp; omega
      intro v5 w5 hown5 hgrow5 _
      have al5 := below_alloc X (.cells #[.int .i64 M, .string Q1] 65)
      have OA := World.ownsRow.alloc OWN1.out (.cells #[.int .i64 M, .string Q1] 65)
      have V5 := Lib.hid (show OwnN w5 w.heap.size v5 (fixL ns (Ts.take (j + 1))) by rw [N1.out]; refine nts_more ?_; rw [L1.out]; exact hown5)
      have Y5 := Lib.hid (OwnI.kept (Y1.out.below al5) hgrow5 (apart_own (Y1.out.below al5) OA (by decide)))
      have Q5 := Lib.hid (OwnS.kept (Q2.out.below al5) hgrow5 (apart_own (Q2.out.below al5) OA (by decide)))
      have C5 := Lib.hid ((C1.out.below al5).kept hgrow5 (own_not_entry OA (by decide)))
      have B5 := Lib.hid ((B4.out.trans (al5.mono B4.out.size)).grown hgrow5 (Nat.le_trans B4.out.size al5.size) (fun g hg => (OA.lt g hg).1))
      have own2 := Y5.out
      unfold OwnI at own2
      rw [L2.out] at own2
      have OWN2 := Lib.hid own2
      obtain ⟨a5, c5, rfl⟩ := Ow.slice V5.out
      clear hown5 hgrow5 al5 OA own2 x0 x1
      go_wp2_with (at_builtin; refine wpList_append_own _ rfl _ _ 44 rfl w.heap.size 3 i0 (.int .i64 0) 1 8 Try.underlying44 hi hz0 hz1 hz2 rfl (by decide) _ _ _ rfl (World.ownsRow.alloc OWN2.out _) ⟨w5.heap.size, 0, none⟩ 1 1 [.int .i64 (d : Int)] rfl rfl ?b1 ?b2 ?b3 ?b4 ?b5 ?_)
      case b1 => exact cell_one_new _ _ _
      case b2 => intro u hu; simp at hu; subst hu; rfl
      case b3 => simp only [maxLen]; omega
      case b4 => omega
      case b5 => have := B5.out.size; simp; omega
      intro v6 w6 hown6 hgrow6 _
      have al6 := below_alloc w5 (.cells #[.int .i64 (d : Int)] 3)
      have OB := World.ownsRow.alloc OWN2.out (.cells #[.int .i64 (d : Int)] 3)
      have Y6 := Lib.hid (show OwnI w6 w.heap.size v6 (fixI ns (Ts.take (j + 1))) by rw [N2.out]; refine ints_more ?_; rw [L2.out]; exact hown6)
      have V6 := Lib.hid (Ow.kept (Ow.below V5.out al6) hgrow6 (apart_own (Ow.below V5.out al6) OB (by decide)))
      have Q6 := Lib.hid (OwnS.kept (Q5.out.below al6) hgrow6 (apart_own (Q5.out.below al6) OB (by decide)))
      have C6 := Lib.hid ((C5.out.below al6).kept hgrow6 (own_not_entry OB (by decide)))
      have B6 := Lib.hid ((B5.out.trans (al6.mono B5.out.size)).grown hgrow6 (Nat.le_trans B5.out.size al6.size) (fun g hg => (OB.lt g hg).1))
      obtain ⟨a6, c6, rfl⟩ := own_slice2 hown6
      clear hown6 hgrow6 al6 OB
      go_wp2_with fail
      go_roundw
      case rel => exact ⟨j + 1, by omega, by go_num, V6, Y6, Q6, C6, B6⟩
      case measure => simp [intOf]; omega
    · have hje : j = Ts.length := by omega
      have E1 := Lib.hid (show fixL ns (Ts.take j) = fixL ns Ts by rw [hje, List.take_length])
      have E2 := Lib.hid (show fixI ns (Ts.take j) = fixI ns Ts by rw [hje, List.take_length])
      have hge : (Ts.length : Int) ≤ (j : Int) := by omega
      have VV := Lib.hid (show OwnN wr w.heap.size (.slice al j cl) (fixL ns Ts) by rw [← E1.out]; exact HV.out)
      have YY := Lib.hid (show OwnI wr w.heap.size (.slice ai j ci) (fixI ns Ts) by rw [← E2.out]; exact HY.out)
      clear hje hlt hl1 hl2
      go_wp2_with fail
      go_ret2
      exact ⟨.slice al j cl, .slice ai j ci, rfl, by rw [S1.out]; exact VV.out, by rw [S2.out]; exact YY.out, ⟨apart_own VV.out YY.out (by decide), apart_own YY.out VV.out (by decide)⟩, HB.out⟩

theorem part_next {T : ByteArray} {k : Nat} (h : k < T.size) (w : World) : (Instr.slice 9 (.string T) none (some (.int .i64 ((k : Int) + 1))) none).run Try.prog w = .ok (.string (T.extract 0 (k + 1))) w := by
  have := part_to (S := T) (k := k + 1) (by omega) w
  exact this

theorem pos_next {d d' : Nat} (h : d = d' + 1) : (0 : Int) < (d : Int) := by omega
theorem int_lt {a b : Nat} (h : a < b) : (a : Int) < (b : Int) := by omega
theorem wrap_back {d d' n : Nat} (h : d = d' + 1) (g : d' < n) (k : n ≤ 30) : wrap64 ((d : Int) - 1) = (d' : Int) := by
  rw [show (d : Int) - 1 = (d' : Int) by omega]
  exact (IntWalk.i64_left _).symm.trans (IntWalk.i64_in _ (by omega))

set_option maxRecDepth 100000 in
set_option maxHeartbeats 16000000 in
theorem specRegisterFix {w : World} {v : Value} {ns : List Mv} (h : Mvs w v ns) : Calls Try.prog 54 #[v] w (MadeNI w (fxN ns) (fxI ns)) := by
  obtain ⟨i0, hi, hz0, hz1, hz2⟩ := info_parts info_int
  obtain ⟨j0, hj, hy0, hy1, hy2⟩ := info_parts info_note
  have o1 := (ow_empty w 65 2 (mvF [])).below (below_alloc (w.alloc (.cells #[] 65)) (.cells #[] 3))
  have o2 := own_empty (w.alloc (.cells #[] 65))
  rw [World.size_alloc] at o2
  have q0 : Below w.heap.size w ((w.alloc (.cells #[] 65)).alloc (.cells #[] 3)) := (below_alloc w _).alloc (by simp) _
  obtain ⟨W, hW⟩ : ∃ W, W = (w.alloc (.cells #[] 65)).alloc (.cells #[] 3) := ⟨_, rfl⟩
  rw [← hW] at o1 o2 q0
  have R := Lib.hid (specRegisterValid (Rd.below h q0))
  have HW := Lib.hid hW
  have Q0 := Lib.hid q0
  have O1 := Lib.hid (show OwnN W w.heap.size _ [] from o1)
  have O2 := Lib.hid (show OwnI W w.heap.size _ [] from o2.mono (by omega))
  obtain ⟨av, cv, rfl⟩ := Rd.slice h
  have H := Lib.hid h
  clear h hW o1 o2 q0
  cases hr : regB ns
  · rw [hr] at R
    have S1 := Lib.hid (show fxN ns = [] by unfold fxN; rw [if_neg (by simp [hr])])
    have S2 := Lib.hid (show fxI ns = [] by unfold fxI; rw [if_neg (by simp [hr])])
    clear hr
    go_enter Try.func54, Try.ntmps54
    go_wp2_with (rw [← HW.out]; go_at_call 17; refine R.out.mono ?_; rintro e w1 ⟨rfl, b1⟩; have A1 := Lib.hid (O1.out.below b1); have A2 := Lib.hid (O2.out.below b1); have B1 := Lib.hid (Q0.out.trans (b1.mono Q0.out.size)); clear b1)
    go_ret2
    exact ⟨_, _, rfl, by rw [S1.out]; exact A1.out, by rw [S2.out]; exact A2.out, ⟨apart_own A1.out A2.out (by decide), apart_own A2.out A1.out (by decide)⟩, B1.out⟩
  rw [hr] at R
  have S1 := Lib.hid (show fxN ns = fixL ns (repL (nTx ns)) by unfold fxN; rw [if_pos hr])
  have S2 := Lib.hid (show fxI ns = fixI ns (repL (nTx ns)) by unfold fxI; rw [if_pos hr])
  have h30 := (regB_is hr).1
  have SZ := Lib.hid (nTx_size hr)
  have RP := Lib.hid (fun (X : World) => specRepair (nTx ns) (by rw [nTx_size hr]; omega) X)
  have TX := Lib.hid (fun (X : World) (c : Below w.heap.size w X) => specText (Rd.below H.out c) hr)
  have TS := Lib.hid (fun (X : ByteArray) (hX : X ∈ repL (nTx ns)) => show X.size = ns.length + 1 by rw [rep_size hX, nTx_size hr])
  have TL := Lib.hid (repL_length (nTx ns))
  obtain ⟨Ts, hTs⟩ : ∃ Ts, Ts = repL (nTx ns) := ⟨_, rfl⟩
  rw [← hTs] at S1 S2 RP TS TL
  have htl : Ts.length ≤ 210 := TL.out
  have htl' : (Ts.length : Int) ≤ 210 := by omega
  obtain ⟨S, hS⟩ : ∃ S, S = nTx ns := ⟨_, rfl⟩
  have HS := Lib.hid hS
  rw [← hS] at SZ RP TX
  clear hr hTs hS
  go_enter Try.func54, Try.ntmps54
  go_wp2_with (first
    | (rw [← HW.out]; go_at_call 17; refine R.out.mono ?_; rintro e w1 ⟨rfl, b1⟩; have A1 := Lib.hid (O1.out.below b1); have A2 := Lib.hid (O2.out.below b1); have B1 := Lib.hid (Q0.out.trans (b1.mono Q0.out.size)); clear b1)
    | (go_at_call 62; refine (TX.out _ B1.out).mono ?_; rintro e w2 ⟨rfl, rfl⟩)
    | (go_at_call 80; refine (RP.out _).mono ?_; rintro e w3 ⟨vq, rfl, oq, b3⟩; have A5 := Lib.hid (A1.out.below b3); have A6 := Lib.hid (A2.out.below b3); have B3 := Lib.hid (B1.out.trans (b3.mono B1.out.size)); have OQ := Lib.hid oq; obtain ⟨aq, cq, rfl, -, -⟩ := oq.cells; clear oq b3))
  go_loopw [4, 5, 8] (fun v y i wr => ∃ j : Nat, j ≤ Ts.length ∧ i = .int .i64 j ∧ Hid (OwnN wr w.heap.size v (fixL ns (Ts.take j))) ∧ Hid (OwnI wr w.heap.size y (fixI ns (Ts.take j))) ∧ Hid (OwnS wr w1.heap.size (.slice aq Ts.length cq) Ts) ∧ Hid (Below w.heap.size w wr)) (fun _ _ i _ => Ts.length - (intOf i).toNat)
  case atStart => exact ⟨0, by omega, rfl, A5, A6, OQ, B3⟩
  case round =>
    obtain ⟨j, hjj, rfl, HV, HY, HQ, HB⟩ := hrel
    obtain ⟨wo, rfl⟩ : ∃ X, X = wr := ⟨_, rfl⟩
    have hl1 : (fixL ns (Ts.take j)).length = j := by unfold fixL; rw [List.length_map, List.length_take]; omega
    have hl2 : (fixI ns (Ts.take j)).length = j := by unfold fixI; rw [List.length_map, List.length_take]; omega
    obtain ⟨al, cl, hal⟩ := Ow.slice HV.out
    obtain ⟨ai, ci, hai⟩ := own_slice2 HY.out
    rw [hl1] at hal
    rw [hl2] at hai
    subst hal
    subst hai
    by_cases hlt : j < Ts.length
    · have hji : (j : Int) < (Ts.length : Int) := by omega
      obtain ⟨aq', cq', eq', _, hcq⟩ := HQ.out.cells
      simp only [Value.slice.injEq] at eq'
      obtain ⟨rfl, _, rfl⟩ := eq'
      rcases hcq with hcq | ⟨g, rfl, hgb, hgl, hcell⟩
      · rw [hcq] at hlt; exact absurd hlt (by simp)
      have c0 := hcell j hlt
      have TM := Lib.hid (takeS hlt)
      have MEM : Ts.getD j ⟨#[]⟩ ∈ Ts := by rw [List.getD_eq_getElem?_getD, List.getElem?_eq_getElem hlt]; exact List.getElem_mem hlt
      have hts := TS.out _ MEM
      obtain ⟨T, hT⟩ : ∃ T, T = Ts.getD j ⟨#[]⟩ := ⟨_, rfl⟩
      rw [← hT] at c0 TM hts
      have HC0 := Lib.hid c0
      have HGL := Lib.hid hgl
      have HTS := Lib.hid hts
      have L1 := Lib.hid hl1
      have L2 := Lib.hid hl2
      clear hT hcell MEM hl1 hl2 c0 hgl
      go_wp2_with fail
      go_loopw [9] (fun k wr => ∃ d : Nat, d ≤ ns.length ∧ k = .int .i64 d ∧ Hid (∀ i', i' < d → bt S i' = bt T i') ∧ Hid (Below wo.heap.size wo wr)) (fun k _ => ns.length - (intOf k).toNat)
      case atStart => exact ⟨0, by omega, rfl, Lib.hid (fun i' hi => absurd hi (by omega)), Lib.hid (below_self _)⟩
      case round =>
        obtain ⟨d, hdl, rfl, HE, HBI⟩ := hrel
        have HDL := Lib.hid hdl
        have HDT := Lib.hid (show d < T.size by rw [HTS.out]; omega)
        have c0 := (HBI.out.cell (p := ⟨g, j, none⟩) HGL.out).trans HC0.out
        have c0' : wr.cell? ⟨g, 0 + j, none⟩ = some (.string T) := by rw [Nat.zero_add]; exact c0
        have g0 := fun dd os => cell_regrown c0 dd os
        have g0' := fun dd os => cell_regrown c0' dd os
        have hw1 : IntKind.i64.wrap ((d : Int) + 1) = (d : Int) + 1 := IntWalk.i64_in _ (by omega)
        have hsz : (S.size : Int) = (ns.length : Int) := by rw [SZ.out]
        by_cases hgo : d < ns.length ∧ bt S d = bt T d
        · obtain ⟨hd, hb⟩ := hgo
          have hdi : (d : Int) < (S.size : Int) := by omega
          have hsl1 := fun w => part_next HDT.out w
          have hsl2 := fun w => part_next (T := S) (k := d) (by rw [SZ.out]; exact hd) w
          have NE := Lib.hid (show ∀ i', i' < d + 1 → bt S i' = bt T i' from fun i' hi => by
            by_cases q : i' = d
            · rw [q]; exact hb
            · exact HE.out i' (by omega))
          have t1 := str_eq (begin_eq (S := S) (T := T) (k := d + 1) (by rw [SZ.out]; omega) (by have := HDT.out; omega) NE.out)
          obtain ⟨A1, hA1⟩ : ∃ A, A = T.extract 0 (d + 1) := ⟨_, rfl⟩
          obtain ⟨A2, hA2⟩ : ∃ A, A = S.extract 0 (d + 1) := ⟨_, rfl⟩
          rw [← hA1] at hsl1 t1
          rw [← hA2] at hsl2 t1
          clear hA1 hA2 hb hsz
          go_wp2_with fail
          refine wp_region_quiet_below (by kernel_rfl) (by kernel_rfl) ?_
          repeat (go_big_quiet_step (fail))
          refine wpQuiet_nil ?_
          intro _ hw'
          obtain ⟨⟨dq, osq⟩, hw''⟩ := hw'
          subst hw''
          have br := below_regrown wr dq osq
          obtain ⟨wz, hwz⟩ : ∃ X, X = grow (redrawn wr dq) osq := ⟨_, rfl⟩
          rw [← hwz] at br ⊢
          have B3 := Lib.hid (HBI.out.trans (br.mono HBI.out.size))
          clear br hwz g0 g0' c0 c0'
          go_wp2_with fail
          go_roundw
          case rel => exact ⟨d + 1, by omega, by go_num, NE, B3⟩
          case measure => simp [intOf]; omega
        · have DF := Lib.hid (show dif (nTx ns) T = d by
            rw [← HS.out]
            exact dif_is (by rw [SZ.out]; omega) HE.out (fun q => by rw [SZ.out] at q; exact fun e => hgo ⟨q, e⟩))
          rcases Nat.lt_or_ge d ns.length with hd | hd
          case' inl =>
            have hne : bt S d ≠ bt T d := fun e => hgo ⟨hd, e⟩
            have hdi : (d : Int) < (S.size : Int) := by omega
            have hsl1 := fun w => part_next HDT.out w
            have hsl2 := fun w => part_next (T := S) (k := d) (by rw [SZ.out]; exact hd) w
            have t1 := str_ne (begin_ne (S := S) (T := T) (k := d) (by rw [SZ.out]; exact hd) HDT.out hne)
            obtain ⟨A1, hA1⟩ : ∃ A, A = T.extract 0 (d + 1) := ⟨_, rfl⟩
            obtain ⟨A2, hA2⟩ : ∃ A, A = S.extract 0 (d + 1) := ⟨_, rfl⟩
            rw [← hA1] at hsl1 t1
            rw [← hA2] at hsl2 t1
            clear hA1 hA2 hne hsz hgo
            go_wp2_with fail
            refine wp_region_quiet_below (by kernel_rfl) (by kernel_rfl) ?_
            repeat (go_big_quiet_step (fail))
            refine wpQuiet_nil ?_
            intro _ hw'
            obtain ⟨⟨dq, osq⟩, hw''⟩ := hw'
            subst hw''
            have br := below_regrown wr dq osq
            obtain ⟨wz, hwz⟩ : ∃ X, X = grow (redrawn wr dq) osq := ⟨_, rfl⟩
            rw [← hwz] at br ⊢
            have B3 := Lib.hid (HBI.out.trans (br.mono HBI.out.size))
            clear br hwz g0 g0' c0 c0' hsl1 hsl2 t1 hdi hw1
          case' inr =>
            have hdi : decide (d < S.size) = false := decide_eq_false (by rw [SZ.out]; omega)
            clear hsz hgo
            go_wp2_with fail
            refine wp_region_quiet_below (by kernel_rfl) (by kernel_rfl) ?_
            repeat (go_big_quiet_step (fail))
            refine wpQuiet_nil ?_
            intro _ hw'
            obtain ⟨⟨dq, osq⟩, hw''⟩ := hw'
            subst hw''
            have br := below_regrown wr dq osq
            obtain ⟨wz, hwz⟩ : ∃ X, X = grow (redrawn wr dq) osq := ⟨_, rfl⟩
            rw [← hwz] at br ⊢
            have B3 := Lib.hid (HBI.out.trans (br.mono HBI.out.size))
            clear br hwz g0 g0' c0 c0' hdi hw1
          all_goals
            have V1 := Lib.hid (HV.out.below B3.out)
            have Y1 := Lib.hid (HY.out.below B3.out)
            have Q2 := Lib.hid (HQ.out.below B3.out)
            have B4 := Lib.hid (HB.out.trans (B3.out.mono HB.out.size))
            have c0z := (B3.out.cell (p := ⟨g, j, none⟩) HGL.out).trans HC0.out
            have c0z' : wz.cell? ⟨g, 0 + j, none⟩ = some (.string T) := by rw [Nat.zero_add]; exact c0z
            have own1 := V1.out
            unfold OwnN Ow at own1
            rw [L1.out] at own1
            have OWN1 := Lib.hid own1
            have FX := Lib.hid (show fixN ns T = (lastM ns d, T.extract d (d + 1)) by unfold fixN; rw [DF.out])
            have HD := DF
            obtain ⟨Q1, hQ1⟩ : ∃ Q1, Q1 = T.extract d (d + 1) := ⟨_, rfl⟩
            have hsl3 := fun w => one_part HDT.out w
            rw [← hQ1] at FX hsl3
            have LMD := Lib.hid (show d = 0 ∧ lastM ns d = 0 ∨ ∃ d', d = d' + 1 ∧ d' < ns.length ∧ lastM ns d = (ns.getD d' noMv).1 by
              cases d with
              | zero => exact .inl ⟨rfl, rfl⟩
              | succ d' => exact .inr ⟨d', rfl, by have := HDL.out; omega, rfl⟩)
            obtain ⟨M, hM⟩ : ∃ M, M = lastM ns d := ⟨_, rfl⟩
            rw [← hM] at FX LMD
            have N1 := Lib.hid (show fixL ns (Ts.take (j + 1)) = fixL ns (Ts.take j) ++ [(M, Q1)] by rw [TM.out]; unfold fixL; rw [List.map_append, List.map_singleton, FX.out])
            have N2 := Lib.hid (show fixI ns (Ts.take (j + 1)) = fixI ns (Ts.take j) ++ [(d : Int)] by rw [TM.out]; unfold fixI; rw [List.map_append, List.map_singleton, HD.out])
            have HWD := Lib.hid (show wrap64 ((d : Int) + 1) = (d : Int) + 1 from (IntWalk.i64_left _).symm.trans (IntWalk.i64_in _ (by have := HDL.out; omega)))
            clear own1 hQ1 hM
            rcases LMD.out with ⟨hd0, hM0⟩ | ⟨d', hd1, hd2, hM1⟩
            case inl =>
              subst hM0
              have hz : decide ((0 : Int) < (d : Int)) = false := by rw [hd0]; rfl
              have hnz : ¬ (0 : Int) < (d : Int) := by rw [hd0]; decide
              clear hd0
              go_upto_region 16 with fail
              have hwd := HWD.out
              go_wp2_with (at_builtin; refine wpList_append_own _ rfl _ _ 25 rfl w.heap.size 65 j0 (.agg #[.int .i64 0, .string ⟨#[]⟩]) 2 24 Try.underlying25 hj hy0 hy1 hy2 rfl (by decide) _ _ _ rfl (World.ownsRow.alloc OWN1.out _) ⟨wz.heap.size, 0, none⟩ 1 1 [.int .i64 0, .string Q1] rfl rfl (lit_two_n _ _ _ _) (by intro u hu; simp at hu; rcases hu with rfl | rfl <;> rfl) (by clear hwd; simp only [maxLen]; omega) (by clear hwd; omega) (by have := B4.out.size; clear hwd; simp; omega) ?_)
              intro v5 w5 hown5 hgrow5 _
              clear hwd
              have al5 := below_alloc wz (.cells #[.int .i64 0, .string Q1] 65)
              have OA := World.ownsRow.alloc OWN1.out (.cells #[.int .i64 0, .string Q1] 65)
              have V5 := Lib.hid (show OwnN w5 w.heap.size v5 (fixL ns (Ts.take (j + 1))) by rw [N1.out]; refine nts_more ?_; rw [L1.out]; exact hown5)
              have Y5 := Lib.hid (OwnI.kept (Y1.out.below al5) hgrow5 (apart_own (Y1.out.below al5) OA (by decide)))
              have Q5 := Lib.hid (OwnS.kept (Q2.out.below al5) hgrow5 (apart_own (Q2.out.below al5) OA (by decide)))
              have B5 := Lib.hid ((B4.out.trans (al5.mono B4.out.size)).grown hgrow5 (Nat.le_trans B4.out.size al5.size) (fun g hg => (OA.lt g hg).1))
              have own2 := Y5.out
              unfold OwnI at own2
              rw [L2.out] at own2
              have OWN2 := Lib.hid own2
              obtain ⟨a5, c5, rfl⟩ := Ow.slice V5.out
              clear hown5 hgrow5 al5 OA own2
              go_wp2_with (at_builtin; refine wpList_append_own _ rfl _ _ 44 rfl w.heap.size 3 i0 (.int .i64 0) 1 8 Try.underlying44 hi hz0 hz1 hz2 rfl (by decide) _ _ _ rfl (World.ownsRow.alloc OWN2.out _) ⟨w5.heap.size, 0, none⟩ 1 1 [.int .i64 (d : Int)] rfl rfl (cell_one_new _ _ _) (by intro u hu; simp at hu; subst hu; rfl) (by simp only [maxLen]; omega) (by omega) (by have := B5.out.size; simp; omega) ?_)
              intro v6 w6 hown6 hgrow6 _
              have al6 := below_alloc w5 (.cells #[.int .i64 (d : Int)] 3)
              have OB := World.ownsRow.alloc OWN2.out (.cells #[.int .i64 (d : Int)] 3)
              have Y6 := Lib.hid (show OwnI w6 w.heap.size v6 (fixI ns (Ts.take (j + 1))) by rw [N2.out]; refine ints_more ?_; rw [L2.out]; exact hown6)
              have V6 := Lib.hid (Ow.kept (Ow.below V5.out al6) hgrow6 (apart_own (Ow.below V5.out al6) OB (by decide)))
              have Q6 := Lib.hid (OwnS.kept (Q5.out.below al6) hgrow6 (apart_own (Q5.out.below al6) OB (by decide)))
              have B6 := Lib.hid ((B5.out.trans (al6.mono B5.out.size)).grown hgrow6 (Nat.le_trans B5.out.size al6.size) (fun g hg => (OB.lt g hg).1))
              obtain ⟨a6, c6, rfl⟩ := own_slice2 hown6
              clear hown6 hgrow6 al6 OB
              go_wp2_with fail
              go_roundw
              case rel => exact ⟨j + 1, by omega, by go_num, V6, Y6, Q6, B6⟩
              case measure => simp [intOf]; omega
            case inr =>
              obtain ⟨lb, lo, rfl, hlb, hlc⟩ := Mvs.at H.out hd2
              have m0 := (B4.out.cell (p := ⟨lb, lo + d' * 2, none⟩) hlb).trans (hlc d' hd2).1
              rw [← hM1] at m0
              have m0' : wz.cell? ⟨lb, lo + (d - 1) * 2, none⟩ = some (.int .i64 M) := by rw [show d - 1 = d' by rw [hd1]; rfl]; exact m0
              have hz : (0 : Int) < (d : Int) := pos_next hd1
              have hdl2 : (d' : Int) < (ns.length : Int) := int_lt hd2
              have hwm : wrap64 ((d : Int) - 1) = (d' : Int) := wrap_back hd1 hd2 h30
              clear hd1 hM1 hlc
              go_upto_region 16 with fail
              clear hwm
              have hwd := HWD.out
              go_wp2_with (at_builtin; refine wpList_append_own _ rfl _ _ 25 rfl w.heap.size 65 j0 (.agg #[.int .i64 0, .string ⟨#[]⟩]) 2 24 Try.underlying25 hj hy0 hy1 hy2 rfl (by decide) _ _ _ rfl (World.ownsRow.alloc OWN1.out _) ⟨wz.heap.size, 0, none⟩ 1 1 [.int .i64 M, .string Q1] rfl rfl (lit_two_n _ _ _ _) (by intro u hu; simp at hu; rcases hu with rfl | rfl <;> rfl) (by clear hwd; simp only [maxLen]; omega) (by clear hwd; omega) (by have := B4.out.size; clear hwd; simp; omega) ?_)
              intro v5 w5 hown5 hgrow5 _
              clear hwd
              have al5 := below_alloc wz (.cells #[.int .i64 M, .string Q1] 65)
              have OA := World.ownsRow.alloc OWN1.out (.cells #[.int .i64 M, .string Q1] 65)
              have V5 := Lib.hid (show OwnN w5 w.heap.size v5 (fixL ns (Ts.take (j + 1))) by rw [N1.out]; refine nts_more ?_; rw [L1.out]; exact hown5)
              have Y5 := Lib.hid (OwnI.kept (Y1.out.below al5) hgrow5 (apart_own (Y1.out.below al5) OA (by decide)))
              have Q5 := Lib.hid (OwnS.kept (Q2.out.below al5) hgrow5 (apart_own (Q2.out.below al5) OA (by decide)))
              have B5 := Lib.hid ((B4.out.trans (al5.mono B4.out.size)).grown hgrow5 (Nat.le_trans B4.out.size al5.size) (fun g hg => (OA.lt g hg).1))
              have own2 := Y5.out
              unfold OwnI at own2
              rw [L2.out] at own2
              have OWN2 := Lib.hid own2
              obtain ⟨a5, c5, rfl⟩ := Ow.slice V5.out
              clear hown5 hgrow5 al5 OA own2
              go_wp2_with (at_builtin; refine wpList_append_own _ rfl _ _ 44 rfl w.heap.size 3 i0 (.int .i64 0) 1 8 Try.underlying44 hi hz0 hz1 hz2 rfl (by decide) _ _ _ rfl (World.ownsRow.alloc OWN2.out _) ⟨w5.heap.size, 0, none⟩ 1 1 [.int .i64 (d : Int)] rfl rfl (cell_one_new _ _ _) (by intro u hu; simp at hu; subst hu; rfl) (by simp only [maxLen]; omega) (by omega) (by have := B5.out.size; simp; omega) ?_)
              intro v6 w6 hown6 hgrow6 _
              have al6 := below_alloc w5 (.cells #[.int .i64 (d : Int)] 3)
              have OB := World.ownsRow.alloc OWN2.out (.cells #[.int .i64 (d : Int)] 3)
              have Y6 := Lib.hid (show OwnI w6 w.heap.size v6 (fixI ns (Ts.take (j + 1))) by rw [N2.out]; refine ints_more ?_; rw [L2.out]; exact hown6)
              have V6 := Lib.hid (Ow.kept (Ow.below V5.out al6) hgrow6 (apart_own (Ow.below V5.out al6) OB (by decide)))
              have Q6 := Lib.hid (OwnS.kept (Q5.out.below al6) hgrow6 (apart_own (Q5.out.below al6) OB (by decide)))
              have B6 := Lib.hid ((B5.out.trans (al6.mono B5.out.size)).grown hgrow6 (Nat.le_trans B5.out.size al6.size) (fun g hg => (OB.lt g hg).1))
              obtain ⟨a6, c6, rfl⟩ := own_slice2 hown6
              clear hown6 hgrow6 al6 OB
              go_wp2_with fail
              go_roundw
              case rel => exact ⟨j + 1, by omega, by go_num, V6, Y6, Q6, B6⟩
              case measure => simp [intOf]; omega
    · have hje : j = Ts.length := by omega
      have E1 := Lib.hid (show fixL ns (Ts.take j) = fixL ns Ts by rw [hje, List.take_length])
      have E2 := Lib.hid (show fixI ns (Ts.take j) = fixI ns Ts by rw [hje, List.take_length])
      have hge : (Ts.length : Int) ≤ (j : Int) := by omega
      have VV := Lib.hid (show OwnN wo w.heap.size (.slice al j cl) (fixL ns Ts) by rw [← E1.out]; exact HV.out)
      have YY := Lib.hid (show OwnI wo w.heap.size (.slice ai j ci) (fixI ns Ts) by rw [← E2.out]; exact HY.out)
      clear hje hlt hl1 hl2
      go_wp2_with fail
      go_ret2
      exact ⟨.slice al j cl, .slice ai j ci, rfl, by rw [S1.out]; exact VV.out, by rw [S2.out]; exact YY.out, ⟨apart_own VV.out YY.out (by decide), apart_own YY.out VV.out (by decide)⟩, HB.out⟩

end Go.Proofs.Ytodknakemgmhkaa
