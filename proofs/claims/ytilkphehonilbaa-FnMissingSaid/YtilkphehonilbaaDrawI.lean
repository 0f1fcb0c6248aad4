/-
  Two drawn registers (l92Both), drawn registers with minutes. For codes of at most 1048576 bytes.
-/
import Derived.Test.YtilkphehonilbaaDrawH
import Derived.Test.YtilkphehonilbaaRegN
import Derived.Deep.RegionHeld3
namespace Go.Proofs.Ytilkphehonilbaa
open Go.RowKit Go.Sort

theorem below_grown2' {w w' : World} {g : Option Nat} (k : Below w.heap.size w w') : w.grownBy w' g := ⟨k.os, k.tape, k.output, k.size, fun i hi _ => k.block i hi⟩
/-- Two drawn lists of notes. -/
def DrawnBoth (w : World) (g P : Nat) (e : Ending) (w' : World) : Prop :=
  ∃ (u v : Value) (ms ns : List Mv) (q : Nat), e = .returned (.tuple #[u, v]) ∧ OwnN w' w.heap.size u ms ∧ OwnN w' w.heap.size v ns ∧ ms.length ≤ 33 ∧ ns.length ≤ 33 ∧ Rdr w' g q ∧ q ≤ P ∧ w.grownBy w' (some g)
theorem far_own {w w' : World} {base lo : Nat} {u v : Value} {ms : List Mv} (h : OwnN w base u ms) (hu : ∀ c, u.ownBlock = some c → c < lo) (hv : ∀ c, v.ownBlock = some c → lo ≤ c) (k : w.grownBy w' v.ownBlock) : OwnN w' base u ms := by
  refine Ow.kept h k ?_
  cases e : u.ownBlock with
  | none => exact .inl rfl
  | some c => exact .inr (fun q => by have := hu c e; have := hv c q.symm; omega)

set_option maxRecDepth 100000 in
set_option maxHeartbeats 8000000 in
theorem drawBoth {w : World} {g p : Nat} (h : Rdr w g p) (hp : p ≤ 100) :
    Calls Try.prog 20 #[.pointer (some ⟨g, 0, none⟩)] w (DrawnBoth w g (p + 300)) := by
  obtain ⟨j0, hj, hy0, hy1, hy2⟩ := info_parts info_note
  have hgw := h.lt
  have GW := Lib.hid hgw
  go_enter Try.func20, Try.ntmps20
  go_upto_region 2 with (go_at_call 28; refine (drawNotesG h (by omega)).mono ?_; rintro e w1 ⟨u, ms, q, rfl, ou, hl, hd, hr, hq, g1⟩)
  obtain ⟨au, cu, rfl⟩ := Ow.slice ou
  have R1 := Lib.hid hr
  have G1 := Lib.hid g1
  have OU1 := Lib.hid ou
  have HD := Lib.hid hd
  have W1 := Lib.hid g1.size
  clear hr g1 ou hd h
  go_wp2_with fail
  refine (pick R1.out (by omega) (by omega) (by omega)).mono ?_
  rintro e w2 ⟨r, rfl, hr0, hr1, hr, g2⟩
  have R2 := Lib.hid hr
  have G2 := Lib.hid (gg1 G1.out g2)
  have OU2 := Lib.hid (own_pickN OU1.out g2 hgw)
  have W2 := Lib.hid (Nat.le_trans W1.out g2.size)
  clear hr g2 hr1 R1 G1 OU1 W1
  by_cases hz : r = 0
  · have hz' : (r == 0) = true := by simpa using hz
    clear hz
    go_wp2_with (go_at_call 28; refine (drawNotesG R2.out (by omega)).mono ?_; rintro e w3 ⟨v, ns, q3, rfl, ov, hl3, hd3, hr, hq3, g3⟩)
    have OU3 := Lib.hid (own_pickN OU2.out g3 GW.out)
    have OV3 := Lib.hid (show OwnN w3 w.heap.size v ns from Ow.mono ov W2.out)
    have G3 := Lib.hid (gg1 G2.out g3)
    have R3 := Lib.hid hr
    clear ov hd3 hr g3 hz'
    go_ret2
    exact ⟨_, v, ms, ns, q3, rfl, OU3.out, OV3.out, hl, hl3, R3.out, by omega, G3.out⟩
  have hz' : (r == 0) = false := by simpa using hz
  clear hz
  go_wp2_with fail
  refine (pick R2.out (by omega) (by omega) (by omega)).mono ?_
  rintro e w3 ⟨o, rfl, ho0, ho1, hr, g3⟩
  have ho2 := ho1 (by omega)
  have OU3 := own_pickN OU2.out g3 GW.out
  have G3 := gg1 G2.out g3
  have W3 := Nat.le_trans W2.out g3.size
  have o0 := ow_empty w3 42 2 (mvF [])
  have q0 := below_alloc w3 (.cells #[] 42)
  have r0 := Rdr.below hr q0 hr.lt
  have LOW := Lib.hid (fun (c : Nat) (e : (Value.slice au ms.length cu).ownBlock = some c) => (World.ownsRow.lt OU3 c e).2)
  have ou4 := Ow.below OU3 q0
  have g4 := ggt G3 q0 W3
  obtain ⟨W, hW⟩ : ∃ W, W = w3.alloc (.cells #[] 42) := ⟨_, rfl⟩
  have HW := Lib.hid hW
  rw [← hW] at o0 q0 r0 ou4 g4
  have O0 := Lib.hid (show OwnN W w3.heap.size _ [] from o0)
  have R0 := Lib.hid r0
  have U0 := Lib.hid (show OwnN W w.heap.size (.slice au ms.length cu) ms from ou4)
  have G0 := Lib.hid g4
  have WW := Lib.hid W3
  have S0 := Lib.hid q0.size
  have GB := Lib.hid hr.lt
  have hwo : IntKind.i64.wrap (o - 6) = o - 6 := IntWalk.i64_in _ (by omega)
  have hwo2 : wrap64 (o - 6) = o - 6 := IntWalk.wrap64_in _ (by omega)
  have hli : (ms.length : Int) ≤ 33 := by omega
  clear hW o0 q0 r0 ou4 g4 OU3 OU2 G3 G2 W3 W2 R2 hr g3 ho1 hz'
  go_upto_region 5 with fail
  obtain ⟨of, hof⟩ : ∃ x, x = o - 6 := ⟨_, rfl⟩
  rw [← hof]
  have OFR : -6 ≤ of ∧ of ≤ 6 := by omega
  clear hof hwo hwo2
  go_upto_region 8 with fail
  rw [← HW.out]
  go_loopw [6, 7, 8] (fun v la i wr => ∃ (k : Nat) (ns : List Mv) (T : Int) (q' : Nat), k ≤ ms.length ∧ i = .int .i64 k ∧ la = .int .i64 T ∧ 0 ≤ T ∧ T ≤ 2010 ∧ q' ≤ p + 110 + k ∧ ns.length = k ∧ Hid (OwnN wr w3.heap.size v ns) ∧ Hid (OwnN wr w.heap.size (.slice au ms.length cu) ms) ∧ Hid (Rdr wr g q') ∧ Hid (w.grownBy wr (some g)) ∧ Hid (w3.heap.size ≤ wr.heap.size)) (fun _ _ i _ => ms.length - (intOf i).toNat)
  case atStart => exact ⟨0, [], 0, _, by omega, rfl, rfl, by omega, by omega, by omega, rfl, O0, U0, R0, G0, S0⟩
  case round =>
    obtain ⟨k, ns, T, q', hk, rfl, rfl, hT0, hT1, hq', hn, HO, HU, HR, HG, HS⟩ := hrel
    obtain ⟨a, c, hv⟩ := Ow.slice HO.out
    subst hv
    have hn' : (ns.length : Int) = k := by omega
    have NL := Lib.hid hn
    by_cases hlt : k < ms.length
    · have hki : (k : Int) < (ms.length : Int) := by omega
      obtain ⟨b, o2, rfl, hb, hc⟩ := Mvs.at (OwnN.nts HU.out (by omega)) hlt
      obtain ⟨hc1, hc2⟩ := hc k hlt
      have hdk := HD.out _ (show ms.getD k noMv ∈ ms by rw [List.getD_eq_getElem?_getD, List.getElem?_eq_getElem hlt]; exact List.getElem_mem hlt)
      obtain ⟨x, hx⟩ : ∃ x, x = (ms.getD k noMv).1 := ⟨_, rfl⟩
      obtain ⟨X, hX⟩ : ∃ x, x = (ms.getD k noMv).2 := ⟨_, rfl⟩
      rw [← hx] at hc1
      rw [← hX] at hc2
      have hxb : -1 ≤ x ∧ x ≤ 2001 := by rw [hx]; exact ⟨hdk.1, hdk.2.1⟩
      have hbg : b ≠ g := by have := (World.ownsRow.lt HU.out b rfl).1; have := GW.out; omega
      have CK := Lib.hid (fun (Y : World) (kk : wr.grownBy Y (some g)) => show Y.cell? ⟨b, o2 + k * 2, none⟩ = some (.int .i64 x) ∧ Y.cell? ⟨b, o2 + k * 2 + 1, none⟩ = some (.string X) from
        ⟨(World.cell?_of_block (kk.block b hb (fun e => hbg (Option.some.inj e)))).trans hc1, (World.cell?_of_block (kk.block b hb (fun e => hbg (Option.some.inj e)))).trans hc2⟩)
      have hw1 : IntKind.i64.wrap (x + of) = x + of := IntWalk.i64_in _ (by omega)
      have hw1' : wrap64 (x + of) = x + of := IntWalk.wrap64_in _ (by omega)
      have XB := Lib.hid (And.intro hxb OFR)
      have HK := Lib.hid hlt
      have HT := Lib.hid (And.intro hT0 hT1)
      have HQ := Lib.hid hq'
      clear hx hX hdk hbg hc1 hc2 hc hn hn' hb hxb hT0 hT1 hlt
      go_upto_region 10 with fail
      go_cut [7] (fun l wx => ∃ (y : Int) (q2 : Nat), l = .int .i64 y ∧ 0 ≤ y ∧ y ≤ 2010 ∧ q2 ≤ p + 110 + (k + 1) ∧ Hid (Rdr wx g q2) ∧ Hid (wr.grownBy wx (some g)))
      case first =>
        have rd : Rdr wr.drew g q' := HR.out.below ((Below.refl _ _).drew) HR.out.lt
        have gd : wr.grownBy wr.drew (some g) := below_grown2' (Below.refl _ _).drew
        have RD := Lib.hid rd
        have GD := Lib.hid gd
        have C0 := (CK.out _ gd).1
        clear rd gd
        go_region_held3 (fun Y => Y.cell? ⟨b, o2 + k * 2, none⟩ = some (.int .i64 x))
          (first
            | exact (CK.out _ (gg1 GD.out g9)).1
            | exact C0
            | go_keep)
          (first
            | (go_at_call 21; refine (pick RD.out (by have := HQ.out; omega) (by omega) (by omega)).mono ?_; rintro e w4 ⟨r4, rfl, hr0, hr1, hr, g9⟩; have hr2 := hr1 (by omega); have hw2 : IntKind.i64.wrap (x + of + r4) = x + of + r4 := IntWalk.i64_in _ (by have := XB.out; omega); have hw3 : IntKind.i64.wrap (x + of + r4 - 1) = x + of + r4 - 1 := IntWalk.i64_in _ (by have := XB.out; omega); have hw2' : wrap64 (x + of + r4) = x + of + r4 := IntWalk.wrap64_in _ (by have := XB.out; omega); have hw3' : wrap64 (x + of + r4 - 1) = x + of + r4 - 1 := IntWalk.wrap64_in _ (by have := XB.out; omega); have R9 := Lib.hid hr; have G9 := Lib.hid (gg1 GD.out g9); clear hr hr1)
            | fail)
        all_goals (go_wp2_with fail; go_meet; exact ⟨_, _, rfl, by have := HT.out; omega, by have := HT.out; have := XB.out; omega, by have := HQ.out; omega, R9, G9⟩)
      case rest =>
      obtain ⟨y, q2, rfl, yb0, yb1, hq2, R5, G5⟩ := hcut
      rename World => w5
      rename_i K1 hK1
      refine hK1 _ _ ?_
      clear hK1
      have O5 := Lib.hid (own_pickN HO.out G5.out GB.out)
      have U5 := Lib.hid (own_pickN HU.out G5.out GW.out)
      have S5 := Lib.hid (Nat.le_trans HS.out G5.out.size)
      have GG := Lib.hid (gg1 HG.out G5.out)
      have cl := (CK.out _ G5.out).2
      have KB := Lib.hid (show k ≤ 33 by have := HK.out; omega)
      go_wp2_with (at_builtin; refine wpList_append_own _ rfl _ _ 23 rfl w3.heap.size 42 j0 (.agg #[.int .i64 0, .string ⟨#[]⟩]) 2 24 Try.underlying23 hj hy0 hy1 hy2 rfl (by decide) _ _ _ rfl (World.ownsRow.alloc O5.out _) ⟨w5.heap.size, 0, none⟩ 1 1 [.int .i64 y, .string X] rfl rfl (lit_two_g _ _ _ _) (by intro u hu; simp at hu; rcases hu with rfl | rfl <;> rfl) (by have := NL.out; have := KB.out; simp only [maxLen]; omega) (by have := NL.out; have := KB.out; omega) (by have := S5.out; simp; omega) ?_)
      intro v5 w6 hown5 hgrow5 _
      have al5 := below_alloc w5 (.cells #[.int .i64 y, .string X] 42)
      have OA := World.ownsRow.alloc O5.out (.cells #[.int .i64 y, .string X] 42)
      have UA := Ow.below U5.out al5
      have V6 := Lib.hid (show OwnN w6 w3.heap.size v5 (ns ++ [(y, X)]) from nts_add hown5)
      have R6 := Lib.hid ((Rdr.below R5.out al5 R5.out.lt).grown hgrow5 (fun b hb => Nat.lt_of_lt_of_le GB.out (World.ownsRow.lt OA b hb).1))
      have G6 := Lib.hid (gg2 (ggt GG.out al5 (by have := S5.out; have := WW.out; omega)) hgrow5 (fun b hb => Nat.le_trans WW.out (World.ownsRow.lt OA b hb).1))
      have U6 := Lib.hid (show OwnN w6 w.heap.size _ ms from far_own UA LOW.out (fun c hc => (World.ownsRow.lt OA c hc).1) hgrow5)
      have S6 := Lib.hid (Nat.le_trans S5.out (Nat.le_trans al5.size hgrow5.size))
      have N6 := Lib.hid (show (ns ++ [(y, X)]).length = k + 1 by rw [List.length_append, NL.out]; rfl)
      clear hown5 hgrow5 al5 OA UA cl
      go_wp2_with fail
      go_roundw
      case rel => exact ⟨k + 1, ns ++ [(y, X)], y, q2, by have := HK.out; omega, by go_num, rfl, yb0, yb1, hq2, N6.out, V6, U6, R6, G6, S6⟩
      case measure => have := HK.out; simp [intOf]; omega
    · obtain rfl : k = ms.length := by omega
      have hff : decide ((ms.length : Int) < (ms.length : Int)) = false := decide_eq_false (by omega)
      have HN33 := Lib.hid (show ns.length ≤ 33 by omega)
      have hn33 : (ns.length : Int) ≤ 33 := by omega
      have hns := NL.out
      clear hlt hk hn'
      rcases Nat.eq_zero_or_pos ns.length with h0 | h0
      · have e1 : decide ((0 : Int) < (ns.length : Int)) = false := decide_eq_false (by omega)
        have e2 : decide (0 < ns.length) = false := decide_eq_false (by omega)
        have FIN := Lib.hid (show OwnN wr w.heap.size (.slice a ns.length c) ns from Ow.mono HO.out WW.out)
        clear h0 hn hns
        go_wp2_with fail
        go_ret2
        exact ⟨_, _, ms, ns, q', rfl, HU.out, FIN.out, hl, HN33.out, HR.out, by omega, HG.out⟩
      have e1 : decide ((0 : Int) < (ns.length : Int)) = true := decide_eq_true (by omega)
      have e2 : decide (0 < ns.length) = true := decide_eq_true (by omega)
      have H0 := Lib.hid h0
      have FIN0 := Lib.hid (show OwnN wr w.heap.size (.slice a ns.length c) ns from Ow.mono HO.out WW.out)
      clear h0 hn hns
      go_wp2_with fail
      refine (pick HR.out (by omega) (by omega) (by omega)).mono ?_
      rintro e w5 ⟨r5, rfl, hr0', hr1, hr, g5⟩
      have R5 := Lib.hid hr
      have O5 := Lib.hid (own_pickN HO.out g5 GB.out)
      have U5 := Lib.hid (own_pickN HU.out g5 GW.out)
      have S5 := Lib.hid (Nat.le_trans HS.out g5.size)
      have GG := Lib.hid (gg1 HG.out g5)
      clear hr hr1 g5
      by_cases hz5 : r5 = 0
      · have hz5' : (r5 == 0) = true := by simpa using hz5
        clear hz5
        go_wp2_with fail
        refine (pick R5.out (by omega) (by omega) (by omega)).mono ?_
        rintro e w6 ⟨kk, rfl, hk0, hk1, hr, g6⟩
        have hk2 := hk1 (by have := H0.out; omega)
        obtain ⟨m, rfl⟩ : ∃ m : Nat, kk = m := ⟨kk.toNat, by omega⟩
        have hmn : m < ns.length := by omega
        have R6 := Lib.hid hr
        have O6 := Lib.hid (own_pickN O5.out g6 GB.out)
        have U6 := Lib.hid (own_pickN U5.out g6 GW.out)
        have S6 := Lib.hid (Nat.le_trans S5.out g6.size)
        have G6 := Lib.hid (gg1 GG.out g6)
        have W6 := Lib.hid (Nat.le_trans WW.out S6.out)
        obtain ⟨b, o2, rfl, hbw, -⟩ := Mvs.at (OwnN.nts O6.out (by omega)) hmn
        have NM := Lib.hid (OwnN.nts O6.out (by omega))
        have hcap : ns.length ≤ c := by obtain ⟨_, _, e, ⟨_, hc⟩, _⟩ := NM.out; simp only [Value.slice.injEq] at e; rw [e.2.2]; exact hc
        have hkc : (m : Int) ≤ (c : Int) := by omega
        have hkc2 : m ≤ c := by omega
        have hmi : (m : Int) < (ns.length : Int) := by omega
        have hk1l : ((m + 1 : Nat) : Int) ≤ (ns.length : Int) := by omega
        have hk1c : ((m + 1 : Nat) : Int) ≤ (c : Int) := by omega
        have hlc : (ns.length : Int) ≤ (c : Int) := by omega
        have HOD := Lib.hid (show ((w6.alloc (.cells #[] 42)).drew).ownsRow w6.heap.size 42 2 (.slice (some ⟨w6.heap.size, 0, none⟩) 0 0) 0 [] from (World.ownsRow_lit w6 #[] 0 (Nat.le_refl _) (by simp [maxLen]) (by simp)).drew)
        have BD := Lib.hid (show Below w6.heap.size w6 (w6.alloc (.cells #[] 42)).drew from (below_alloc w6 _).drew)
        have SZ := Lib.hid (show w6.heap.size ≤ ((w6.alloc (.cells #[] 42)).drew).heap.size from (below_alloc w6 (.cells #[] 42)).size)
        have N1 := Lib.hid (take_newsN NM.out BD.out (show m ≤ ns.length by omega))
        obtain ⟨ad, had⟩ : ∃ ad, (if c = m + 1 then some (⟨b, o2, none⟩ : Addr) else some ⟨b, o2 + (m + 1) * 2, none⟩) = some ad := by
          split <;> exact ⟨_, rfl⟩
        have N2 := Lib.hid (fun (X : World) (hX : Below w6.heap.size w6 X) => drop_newsN NM.out hX (show m + 1 ≤ ns.length by omega) had)
        have hq0 : 0 ≤ (m : Int) + 1 := by omega
        have hq1 : (m : Int) + 1 ≤ (ns.length : Int) := by omega
        have hw1 : IntKind.i64.wrap ((m : Int) + 1) = ((m + 1 : Nat) : Int) := by rw [IntWalk.i64_in _ (by omega)]; rfl
        have hw2 : wrap64 ((m : Int) + 1) = ((m + 1 : Nat) : Int) := (IntWalk.i64_left _).symm.trans hw1
        have LM := Lib.hid (And.intro hmn HN33.out)
        have HQE := Lib.hid (show q' + 1 + 1 ≤ p + 300 by omega)
        have HLM := Lib.hid hl
        clear hr g6 hk0 hk1 hk2 hmn hbw hcap e1 e2 hff hn33 hz5' hr0' hp hq hq' ho0 ho2 hT0 hT1 hr0 hgw hli OFR hl
        go_upto_region 14 with fail
        go_cut [6] (fun v wx => OwnN wx w6.heap.size v (ns.eraseIdx m) ∧ Below w6.heap.size w6 wx)
        case first =>
          go_region_law (first
            | (refine step_append_own_at rfl (.tmp 63) (.tmp 66) 23 rfl w6.heap.size 42 j0 (.agg #[.int .i64 0, .string ⟨#[]⟩]) 2 24 Try.underlying23 hj hy0 hy1 hy2 rfl (by decide) (.slice (some ⟨w6.heap.size, 0, none⟩) 0 0) 0 [] (by simp [Act.eval]) HOD.out ⟨b, o2, none⟩ m c ((List.range (m * 2)).map (mvF ns)) (by simp [Act.eval]) (by simp) N1.out (mvF_oneCell _ _) (by have := LM.out; simp only [maxLen]; omega) (by have := LM.out; omega) SZ.out ?_; intro v2 w9 hown2 hgrow2 hat2; obtain ⟨bb, cc, rfl, hbb⟩ := own_at hown2 hat2; have HO2 := Lib.hid hown2; have HG2 := Lib.hid hgrow2; have HBB := Lib.hid hbb; clear hbb hat2; have BE := Lib.hid (BD.out.grown HG2.out (BD.out.size) (fun c hc => by simp only [Value.ownBlock, Option.some.injEq] at hc; exact hc ▸ Nat.le_refl _)))
            | (refine step_append_own_at rfl (.tmp 67) (.tmp 71) 23 rfl w6.heap.size 42 j0 (.agg #[.int .i64 0, .string ⟨#[]⟩]) 2 24 Try.underlying23 hj hy0 hy1 hy2 rfl (by decide) (.slice (some ⟨bb, 0, none⟩) (0 + m) cc) (0 + m) ([] ++ (List.range (m * 2)).map (mvF ns)) (by simp [Act.eval]) HO2.out ad (ns.length - (m + 1)) (c - (m + 1)) ((List.range ((ns.length - (m + 1)) * 2)).map (mvF (ns.drop (m + 1)))) (by simp [Act.eval]) (by simp) (N2.out _ BE.out) (mvF_oneCell _ _) (by have := LM.out; simp only [maxLen]; omega) (by have := LM.out; omega) (Nat.le_trans SZ.out HG2.out.size) ?_; intro v3 w10 hown3 hgrow3 hat3))
          all_goals
            have hbb8 : w6.heap.size ≤ bb := HBB.out.elim (fun e => e ▸ Nat.le_refl _) (fun e => e ▸ BD.out.size)
            have BF := Lib.hid (BE.out.grown hgrow3 BE.out.size (fun c hc => by simp only [Value.ownBlock, Option.some.injEq] at hc; exact hc ▸ hbb8))
            have OF2 := Lib.hid (but_own LM.out.1 rfl hown3)
            clear hw1 hw2 had hq0 hq1 hk1l hk1c hlc hkc hgrow3 hown3 hat3
            go_wp2_with fail
            go_meet
            exact ⟨OF2.out, BF.out⟩
        case rest =>
        obtain ⟨hown, hbel⟩ := hcut
        rename World => w7
        have U7 := Lib.hid (Ow.below U6.out hbel)
        have O7 := Lib.hid (show OwnN w7 w.heap.size _ (ns.eraseIdx m) from Ow.mono hown W6.out)
        have R7 := Lib.hid (Rdr.below R6.out hbel R6.out.lt)
        have G7 := Lib.hid (ggt G6.out hbel W6.out)
        have hel : (ns.eraseIdx m).length ≤ 33 := by have := LM.out; rw [List.length_eraseIdx]; split <;> omega
        clear hown hbel hw1 hw2 had hq0 hq1 hk1l hk1c hlc hkc
        go_wp2_with fail
        go_ret2
        exact ⟨_, _, ms, ns.eraseIdx m, _, rfl, U7.out, O7.out, HLM.out, hel, R7.out, HQE.out, G7.out⟩
      · have hz5' : (r5 == 0) = false := by simpa using hz5
        have FIN := Lib.hid (show OwnN w5 w.heap.size (.slice a ns.length c) ns from Ow.mono O5.out WW.out)
        clear hz5
        go_wp2_with fail
        go_ret2
        exact ⟨_, _, ms, ns, _, rfl, U5.out, FIN.out, hl, HN33.out, R5.out, by omega, GG.out⟩

/-- Two drawn lists of notes and a number, and nothing more. -/
def TwoNotesI (w : World) (e : Ending) (w' : World) : Prop :=
  ∃ (u v : Value) (ms ns : List Mv) (k : Int), e = .returned (.tuple #[u, v, .int .i64 k]) ∧ Mvs w' u ms ∧ Mvs w' v ns ∧ ms.length ≤ 33 ∧ ns.length ≤ 33 ∧ -1 ≤ k ∧ k ≤ 7 ∧ Below w.heap.size w w'
def TwoNotes (w : World) (e : Ending) (w' : World) : Prop :=
  ∃ (u v : Value) (ms ns : List Mv), e = .returned (.tuple #[u, v]) ∧ Mvs w' u ms ∧ Mvs w' v ns ∧ ms.length ≤ 33 ∧ ns.length ≤ 33 ∧ Below w.heap.size w w'
theorem below_gr {w w1 w2 : World} {g : Nat} (h : Below w.heap.size w w1) (hg : w.heap.size ≤ g) (k : w1.grownBy w2 (some g)) : Below w.heap.size w w2 :=
  h.grown k h.size (fun j hj => by simp only [Option.some.injEq] at hj; omega)

end Go.Proofs.Ytilkphehonilbaa
