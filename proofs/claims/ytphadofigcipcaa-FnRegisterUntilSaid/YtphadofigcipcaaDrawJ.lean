/-
  A drawn register with minutes (DrawRegisterLate); two lists of the same notes (laws.sameNotes); a register that is later and then earlier again. For codes of at most 1048576 bytes.
-/
import Derived.Test.YtphadofigcipcaaDrawG
import Derived.Test.YtphadofigcipcaaRegW
import Derived.Test.YtphadofigcipcaaRegV
import Derived.Deep.RegionWith
import Derived.Lib.QuietBelow
import Derived.BigQuiet
namespace Go.Proofs.Ytphadofigcipcaa
open Go.RowKit Go.Sort

theorem neNote (x : Mv) (w : World) : (binOp .neq 29 (.agg #[.int .i64 x.1, .string x.2]) (.agg #[.int .i64 x.1, .string x.2])).run Try.prog w = .ok (.bool false) w := by
  simp [go_sem, Try.underlying29, Try.underlying3, Try.underlying9]

set_option maxHeartbeats 1000000 in
theorem sameNotesS {w : World} {u v : Value} {ms : List Mv} (h : Mvs w u ms) (h' : Mvs w v ms) :
    Calls Try.prog 24 #[u, v] w fun e w' => e = .returned (.bool true) ∧ Below w.heap.size w w' := by
  obtain ⟨a, cap, rfl⟩ := Rd.slice h
  obtain ⟨a', cap', rfl⟩ := Rd.slice h'
  have hl := Rd.len h
  have hl' : (ms.length : Int) ≤ 1048576 := by omega
  by_cases h0 : ms = []
  · subst h0
    clear h h'
    go_enter Try.func24, Try.ntmps24
    go_wp2_with fail
    refine wp_loop_rounds 1 ?_
    rw [rounds_succ]
    go_wp2_with fail
    go_ret
    exact ⟨rfl, Below.refl _ _⟩
  · have hpos : 0 < ms.length := List.length_pos_iff.2 h0
    obtain ⟨b, o, rfl, hb, hcell⟩ := Mvs.at h hpos
    obtain ⟨b', o', rfl, hb', hcell'⟩ := Mvs.at h' hpos
    have HC := Lib.hid hcell
    have HC' := Lib.hid hcell'
    clear hcell h h0 hpos hcell' h'
    go_enter Try.func24, Try.ntmps24
    go_wp2_with fail
    go_loopw [5] (fun i wr => ∃ k : Nat, k ≤ ms.length ∧ i = .int .i64 k ∧ Below w.heap.size w wr) (fun i _ => ms.length - (intOf i).toNat)
    case atStart => exact ⟨0, by omega, rfl, Below.refl _ _⟩
    case round =>
      obtain ⟨k, hk, rfl, hbel⟩ := hrel
      by_cases hlt : k < ms.length
      · obtain ⟨e0, e1⟩ := HC.out k hlt
        obtain ⟨g0, g1⟩ := HC'.out k hlt
        have c0 := (hbel.cell (p := ⟨b, o + k * 2, none⟩) hb).trans e0
        have c1 : wr.cell? ⟨b, o + k * 2 + 1, none⟩ = _ := (hbel.cell (p := ⟨b, o + k * 2 + 1, none⟩) hb).trans e1
        have c3 := (hbel.cell (p := ⟨b', o' + k * 2, none⟩) hb').trans g0
        have c4 : wr.cell? ⟨b', o' + k * 2 + 1, none⟩ = _ := (hbel.cell (p := ⟨b', o' + k * 2 + 1, none⟩) hb').trans g1
        obtain ⟨x, hx⟩ : ∃ x, x = ms.getD k noMv := ⟨_, rfl⟩
        rw [← hx] at c0 c1 c3 c4
        have d0 := fun d os => cell_regrown c0 d os
        have d1 := fun d os => cell_regrown c1 d os
        have d3 := fun d os => cell_regrown c3 d os
        have d4 := fun d os => cell_regrown c4 d os
        have HE := fun W => neNote x W
        have hi : (k : Int) < (ms.length : Int) := by omega
        clear e0 e1 g0 g1 hx
        go_wp2_with fail
        refine wp_region_quiet_below (by kernel_rfl) (by kernel_rfl) ?_
        repeat (go_big_quiet_step (fail))
        refine wpQuiet_nil ?_
        intro _ hw'
        obtain ⟨⟨dq, osq⟩, hw''⟩ := hw'
        subst hw''
        go_wp2_with fail
        go_roundw
        case rel => exact ⟨k + 1, by omega, by go_num, hbel.trans ((below_regrown wr dq osq).mono hbel.size)⟩
        case measure => simp [intOf]; omega
      · go_wp2_with fail
        go_ret
        exact ⟨rfl, hbel⟩

theorem lat_back {ns : List Mv} {k : Int} (h : latB ns k = true) (hk : -9223372036854775808 ≤ k ∧ k ≤ 9223372036854775807) :
    latB (latV ns k) (wrap64 (-k)) = true ∧ latV (latV ns k) (wrap64 (-k)) = ns ∧ regT (latV ns k) = regT ns ∧ (ns.length = 0 ∨ (-2000 ≤ k ∧ k ≤ 2000)) := by
  obtain ⟨h1, h2, h3⟩ := latB_is h
  rw [h3]
  have hT : regT (latL ns k) = regT ns := by unfold regT; rw [regL_yes h2, regL_yes h1, latL_nTx']
  by_cases h0 : ns = []
  · subst h0
    exact ⟨rfl, rfl, hT, .inl rfl⟩
  · have hkk : -2000 ≤ k ∧ k ≤ 2000 := by
      by_cases hf : k < -2000 ∨ 2000 < k
      · rw [latL_far h1 hk hf h0] at h2; cases h2
      · omega
    have hw : wrap64 (-k) = -k := IntWalk.wrap64_in _ (by omega)
    rw [hw]
    have e : latL (latL ns k) (-k) = ns := by
      unfold latL
      rw [List.map_map]
      refine (List.map_congr_left ?_).trans (List.map_id _)
      intro x hx
      obtain ⟨i, hi, rfl⟩ := List.getElem_of_mem hx
      have q := reg_note h1 hi
      rw [show ns.getD i noMv = ns[i] by rw [List.getD_eq_getElem?_getD, List.getElem?_eq_getElem hi]; rfl] at q
      show (wrap64 (wrap64 (ns[i].1 + k) + -k), ns[i].2) = ns[i]
      rw [IntWalk.wrap64_in (ns[i].1 + k) (by omega), IntWalk.wrap64_in _ (by omega), show ns[i].1 + k + -k = ns[i].1 by omega]
    have l : latB (latL ns k) (-k) = true := by unfold latB; rw [h2, e, h1]; rfl
    exact ⟨l, (latB_is l).2.2.trans e, hT, .inr hkk⟩
theorem off_back {ns : List Mv} {k : Int} (h : latB ns k = true) (hk : -2000 ≤ k ∧ k ≤ 2000) (h0 : 0 < ns.length) :
    (-30 ≤ k ∧ k ≤ 30 → offO ns (latV ns k) 0 = some k) ∧ (k < -30 ∨ 30 < k → offO ns (latV ns k) 0 = none) := by
  obtain ⟨h1, h2, h3⟩ := latB_is h
  rw [h3]
  have key : ∀ j, j ≤ ns.length → (j = 0 → offL ns (latL ns k) 0 j = -30 ∧ offG ns (latL ns k) 0 j = 30) ∧ (0 < j → offL ns (latL ns k) 0 j = max (-30) k ∧ offG ns (latL ns k) 0 j = min 30 k) := by
    intro j
    induction j with
    | zero => intro _; exact ⟨fun _ => ⟨rfl, rfl⟩, fun q => absurd q (by omega)⟩
    | succ j ih =>
      intro hj
      obtain ⟨i1, i2⟩ := ih (by omega)
      refine ⟨fun q => absurd q (by omega), fun _ => ?_⟩
      have e : latN ns (latL ns k) j = k := by unfold latN; rw [latL_at h1 hk (by omega)]; simp only; omega
      simp only [offL, offG]
      rw [e]
      rcases Nat.eq_zero_or_pos j with c | c
      · obtain ⟨a, b⟩ := i1 c; rw [a, b]; omega
      · obtain ⟨a, b⟩ := i2 c; rw [a, b]; omega
  obtain ⟨a, b⟩ := (key ns.length (Nat.le_refl _)).2 h0
  refine ⟨fun q => ?_, fun q => offO_no (by rw [a, b]; omega)⟩
  rw [offO_yes h1 h2 (latL_nTx' ns k).symm (by omega) (by omega) (by rw [a, b]; omega), a]
  exact congrArg some (by omega)

/-- A drawn list of notes and minutes. -/
def MadeLate (w : World) (e : Ending) (w' : World) : Prop :=
  ∃ (v : Value) (ns : List Mv) (k : Int), e = .returned (.tuple #[v, .int .i64 k]) ∧ OwnN w' w.heap.size v ns ∧ ns.length ≤ 33 ∧ (-9223372036854775808 ≤ k ∧ k ≤ 9223372036854775807) ∧ Below w.heap.size w w'

theorem lit3 (X : World) (o : Obj) (b : Nat) (xs : Array Value) (t : Nat) (r : Nat) (x : Int) (hb : b = X.heap.size) (ho : o = .cells xs t) (h : xs[r]? = some (.int .i64 x)) : (X.alloc o).cell? ⟨b, r, none⟩ = some (.int .i64 x) := by
  subst hb ho
  unfold World.cell?
  simp only [heap_alloc_new]
  exact h

theorem three (r : Int) (h0 : 0 ≤ r) (h1 : r < 3) : ∃ x : Int, (#[Value.int .i64 9223372036854775807, .int .i64 (-9223372036854775808), .int .i64 1950])[r.toNat]? = some (.int .i64 x) ∧ (-9223372036854775808 ≤ x ∧ x ≤ 9223372036854775807) := by
  rcases (by omega : r = 0 ∨ r = 1 ∨ r = 2) with rfl | rfl | rfl
  · exact ⟨_, rfl, by omega⟩
  · exact ⟨_, rfl, by omega⟩
  · exact ⟨_, rfl, by omega⟩
set_option maxRecDepth 100000 in
set_option maxHeartbeats 4000000 in
theorem drawLate {w : World} {a : Option Addr} {len cap : Nat} {zs : List Int} (h : IsRowK .u8 w a len cap zs) (hl : len ≤ 1048576) :
    Calls Try.prog 37 #[.slice a len cap] w (MadeLate w) := by
  have OP := Lib.hid (openRd h hl)
  clear h
  go_enter Try.func37, Try.ntmps37
  go_upto_region 2 with (go_at_call 57; refine OP.out.mono ?_; rintro e w1 ⟨g, rfl, hg, hr, b1⟩)
  have R1 := Lib.hid hr
  have B1 := Lib.hid b1
  clear hr b1
  go_upto_region 3 with (go_at_call 72; refine (drawNotes R1.out (by omega) hg).mono ?_; rintro e w2 ⟨v, ns, q, rfl, ho, hn, -, hr, hq, b2⟩)
  have HO := Lib.hid ho
  have R2 := Lib.hid hr
  have B2 := Lib.hid (B1.out.trans b2)
  have G2 := Lib.hid (show w.heap.size ≤ w2.heap.size from B2.out.size)
  have HG := Lib.hid R1.out.lt
  clear ho hr b2
  go_wp2_with fail
  refine (pick (n := 16) R2.out (by omega) (by omega) (by omega)).mono ?_
  rintro e w3 ⟨r, rfl, hr0, hr1, hr, g3⟩
  have R3 := Lib.hid hr
  have O3 := Lib.hid (own_pickN HO.out g3 HG.out)
  have B3 := Lib.hid (Below.pick B2.out G2.out hg g3)
  clear hr hr1 g3 R2 HO
  by_cases hz : r = 0
  · have hz' : (r == 0) = true := by simpa using hz
    clear hz hr0
    go_upto_region 4 with fail
    clear hz'
    have RD := Lib.hid (show Rdr w3.drew g (q + 1) from R3.out.below ((Below.refl _ _).drew) R3.out.lt)
    have RA := Lib.hid (fun (o : Obj) => (show Rdr (w3.alloc o).drew g (q + 1) from R3.out.below ((below_alloc _ _).drew) R3.out.lt))
    have GA := Lib.hid (fun (w4 : World) (g4 : (w3.alloc (.cells #[.int .i64 9223372036854775807, .int .i64 (-9223372036854775808), .int .i64 1950] 3)).drew.grownBy w4 (some g)) (r4 : Int) (h0 : 0 ≤ r4) (h1 : r4 < 3) =>
      show ∃ x : Int, (-9223372036854775808 ≤ x ∧ x ≤ 9223372036854775807) ∧ w4.cell? ⟨w3.heap.size, r4.toNat, none⟩ = some (.int .i64 x) from by
        have hg3 := R3.out.lt
        have lt : w3.heap.size < (w3.alloc (.cells #[.int .i64 9223372036854775807, .int .i64 (-9223372036854775808), .int .i64 1950] 3)).drew.heap.size := by simp
        obtain ⟨x, hx, hr⟩ := three r4 h0 h1
        refine ⟨x, hr, (World.cell?_of_block (g4.block _ lt (fun e => by simp only [Option.some.injEq] at e; omega))).trans ?_⟩
        exact lit3 _ _ _ _ _ _ _ rfl rfl hx)
    have GB := Lib.hid (fun (w4 : World) (r4 : Int) (h0 : 0 ≤ r4) (h1 : r4 < 3) =>
      show ∃ x : Int, (-9223372036854775808 ≤ x ∧ x ≤ 9223372036854775807) ∧ (w4.alloc (.cells #[.int .i64 9223372036854775807, .int .i64 (-9223372036854775808), .int .i64 1950] 3)).cell? ⟨w4.heap.size, r4.toNat, none⟩ = some (.int .i64 x) from by
        obtain ⟨x, hx, hr⟩ := three r4 h0 h1
        exact ⟨x, hr, lit3 _ _ _ _ _ _ _ rfl rfl hx⟩)
    obtain ⟨av, cv, rfl⟩ := Ow.slice O3.out
    clear hl OP R1 B2 G2
    go_region_with (first
      | (go_at_call 59; refine (pick (n := 3) (RA.out _) (by omega) (by omega) (by omega)).mono ?_; rintro e w4 ⟨r4, rfl, hr0, hr1, hr, g4⟩; have hr2 := hr1 (by omega); have HB4 := Lib.hid (Below.pick (B3.out.trans ((below_alloc w3 _).drew.mono B3.out.size)) (Nat.le_trans B3.out.size (by simp)) hg g4); have HV4 := Lib.hid (own_pickN (Ow.below O3.out (below_alloc w3 _).drew) g4 HG.out); obtain ⟨x, hx, hc⟩ := GA.out _ g4 r4 hr0 (by omega); clear hr hr1 g4)
      | (go_at_call 59; refine (pick (n := 3) RD.out (by omega) (by omega) (by omega)).mono ?_; rintro e w4 ⟨r4, rfl, hr0, hr1, hr, g4⟩; have hr2 := hr1 (by omega); have HB4 := Lib.hid ((Below.pick (B3.out.trans ((Below.refl _ _).drew.mono B3.out.size)) (Nat.le_trans B3.out.size (by simp)) hg g4).trans ((below_alloc w4 (.cells #[.int .i64 9223372036854775807, .int .i64 (-9223372036854775808), .int .i64 1950] 3)).mono (Nat.le_trans B3.out.size (Nat.le_trans (by simp) g4.size)))); have HV4 := Lib.hid (Ow.below (own_pickN (Ow.below O3.out (Below.refl _ _).drew) g4 HG.out) (below_alloc w4 (.cells #[.int .i64 9223372036854775807, .int .i64 (-9223372036854775808), .int .i64 1950] 3))); obtain ⟨x, hx, hc⟩ := GB.out w4 r4 hr0 (by omega); clear hr hr1 g4))
    all_goals
      go_wp2_with fail
      go_ret2
      exact ⟨_, ns, x, rfl, Ow.mono HV4.out B1.out.size, hn, hx, HB4.out⟩
  · have hz' : (r == 0) = false := by simpa using hz
    clear hz hr0
    go_wp2_with fail
    refine (pick (n := 61) R3.out (by omega) (by omega) (by omega)).mono ?_
    rintro e w4 ⟨r4, rfl, hr0, hr1, hr, g4⟩
    have hr2 := hr1 (by omega)
    have O4 := Lib.hid (own_pickN O3.out g4 HG.out)
    have B4 := Lib.hid (Below.pick B3.out B3.out.size hg g4)
    have hw1 : IntKind.i64.wrap (r4 - 30) = r4 - 30 := IntWalk.i64_in _ (by omega)
    have hw2 : wrap64 (r4 - 30) = r4 - 30 := IntWalk.wrap64_in _ (by omega)
    clear hr hr1 g4
    go_wp2_with fail
    go_ret2
    exact ⟨v, ns, r4 - 30, rfl, Ow.mono O4.out B1.out.size, hn, by omega, B4.out⟩
end Go.Proofs.Ytphadofigcipcaa
