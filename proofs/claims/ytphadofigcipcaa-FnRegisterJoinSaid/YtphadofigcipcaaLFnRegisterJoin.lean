/-
  For every input the law 'FnRegisterJoin' returns true, and each of its arguments reads behind the call as it read before. Conditions: none beyond those of the row.
-/
import Derived.Test.YtphadofigcipcaaRows
import Derived.WalkKit
import Derived.ProofKit
import Derived.OpenShut
import Derived.ShutString
import Derived.ChangeOld
import Derived.Below
import Derived.Deep.Matrix
import Derived.Test.YtphadofigcipcaaIo
import Derived.Test.YtphadofigcipcaaDrawH
import Derived.Test.YtphadofigcipcaaRegJ
import Derived.Test.YtphadofigcipcaaRegL
import Derived.Lib.QuietBelow
import Derived.BigQuiet
namespace Go.Proofs.Ytphadofigcipcaa
open Go.RowKit

open Go.Sort

theorem bl_append (A B : ByteArray) : bl (A ++ B) = bl A ++ bl B := by
  unfold bl
  rw [ByteArray.data_append, Array.toList_append]

theorem bt_left {A B : ByteArray} {k : Nat} (h : k < A.size) : bt (A ++ B) k = bt A k := by
  rw [bt_bl, bt_bl, bl_append, List.getElem?_append_left (by rw [bl_length]; exact h)]

theorem bt_right (A B : ByteArray) (k : Nat) : bt (A ++ B) (A.size + k) = bt B k := by
  rw [bt_bl, bt_bl, bl_append, List.getElem?_append_right (by rw [bl_length]; omega), bl_length, Nat.add_sub_cancel_left]

theorem bkTo_left {b : Blk} {A B : ByteArray} : ∀ k, k ≤ A.size → bkTo b (A ++ B) k = bkTo b A k := by
  intro k
  induction k with
  | zero => intro _; rfl
  | succ k ih =>
    intro h
    simp only [bkTo]
    rw [ih (by omega), bt_left (by omega)]

theorem bkTo_right {b x : Blk} {A B : ByteArray} (h : bkTo b A A.size = some x) : ∀ k, bkTo b (A ++ B) (A.size + k) = bkTo x B k := by
  intro k
  induction k with
  | zero => rw [Nat.add_zero, bkTo_left _ (Nat.le_refl _), h]; rfl
  | succ k ih =>
    rw [← Nat.add_assoc]
    simp only [bkTo]
    rw [ih, bt_right]

theorem bkRun_append {b x : Blk} {A B : ByteArray} (h30 : (A ++ B).size ≤ 30) (h : bkRun b A = some x) : bkRun b (A ++ B) = bkRun x B := by
  rw [ByteArray.size_append] at h30
  have hb : bkPos b = true := by
    cases e : bkPos b
    · rw [bkRun_not e] at h; cases h
    · rfl
  rw [bkRun_is hb (by omega)] at h
  rw [bkRun_is hb (by rw [ByteArray.size_append]; omega), bkRun_is (bkTo_pos hb h) (by omega), ByteArray.size_append, bkTo_right h]

/-- How far the next train is. -/
def farT (x : Blk) : Int := if x = (0, false, true) then 1 else if x = (1, false, false) then 2 else if x = (2, true, false) then 3 else 0
/-- Whether a train has entered that is not free yet. -/
def insd (x : Blk) : Int := if x = (2, true, false) ∨ x = (2, false, false) then 1 else 0

theorem nTx_join (A B : List Mv) : nTx (A ++ B) = nTx A ++ nTx B := by
  induction A with
  | nil => rw [List.nil_append, nTx_nil]; exact (ByteArray.empty_append).symm
  | cons x r ih => rw [List.cons_append, nTx_cons, nTx_cons, ih, ByteArray.append_assoc]

theorem legal_left {A B : ByteArray} (h : bkLegal (A ++ B) = true) : bkLegal A = true := by
  obtain ⟨x, hx⟩ := legal_state h (k := A.size) (by rw [ByteArray.size_append]; omega)
  rw [bkTo_left _ (Nat.le_refl _)] at hx
  have h30 : ((A ++ B).size : Int) ≤ 30 := by
    by_cases q : 30 < ((A ++ B).size : Int)
    · unfold bkLegal at h; rw [bkRun_long q] at h; cases h
    · omega
  rw [ByteArray.size_append] at h30
  unfold bkLegal
  rw [bkRun_is (by decide) (by omega), hx]
  rfl

theorem sound_left {A B : List Mv} (h : soundB (A ++ B) = true) : soundB A = true := by
  obtain ⟨h1, h2⟩ := sound_is h
  rw [nTx_join] at h2
  unfold soundB
  rw [(reg_joined h1).1, legal_left h2]
  rfl

theorem neNote (x : Mv) (w : World) : (binOp .neq 29 (.agg #[.int .i64 x.1, .string x.2]) (.agg #[.int .i64 x.1, .string x.2])).run Try.prog w = .ok (.bool false) w := by
  simp [go_sem, Try.underlying29, Try.underlying3, Try.underlying9]

set_option maxHeartbeats 1000000 in
theorem sameNotesS {w : World} {u v : Value} {ms : List Mv} (h : Mvs w u ms) (h' : Mvs w v ms) :
    Calls Try.prog 24 #[u, v] w fun e w' => e = .returned (.bool true) ∧ Below w.heap.size w w' := by
  obtain ⟨a, cap, rfl⟩ := Rd.slice h
  obtain ⟨a', cap', rfl⟩ := Rd.slice h'
  have hl := Rd.len h
  have hl' : (ms.length : Int) ≤ 1048576 := by omega
  by_cases h0 : ms = []
  · subst h0
    clear h h'
    go_enter Try.func24, Try.ntmps24
    go_wp2_with fail
    refine wp_loop_rounds 1 ?_
    rw [rounds_succ]
    go_wp2_with fail
    go_ret
    exact ⟨rfl, Below.refl _ _⟩
  · have hpos : 0 < ms.length := List.length_pos_iff.2 h0
    obtain ⟨b, o, rfl, hb, hcell⟩ := Mvs.at h hpos
    obtain ⟨b', o', rfl, hb', hcell'⟩ := Mvs.at h' hpos
    have HC := Lib.hid hcell
    have HC' := Lib.hid hcell'
    clear hcell h h0 hpos hcell' h'
    go_enter Try.func24, Try.ntmps24
    go_wp2_with fail
    go_loopw [5] (fun i wr => ∃ k : Nat, k ≤ ms.length ∧ i = .int .i64 k ∧ Below w.heap.size w wr) (fun i _ => ms.length - (intOf i).toNat)
    case atStart => exact ⟨0, by omega, rfl, Below.refl _ _⟩
    case round =>
      obtain ⟨k, hk, rfl, hbel⟩ := hrel
      by_cases hlt : k < ms.length
      · obtain ⟨e0, e1⟩ := HC.out k hlt
        obtain ⟨g0, g1⟩ := HC'.out k hlt
        have c0 := (hbel.cell (p := ⟨b, o + k * 2, none⟩) hb).trans e0
        have c1 : wr.cell? ⟨b, o + k * 2 + 1, none⟩ = _ := (hbel.cell (p := ⟨b, o + k * 2 + 1, none⟩) hb).trans e1
        have c3 := (hbel.cell (p := ⟨b', o' + k * 2, none⟩) hb').trans g0
        have c4 : wr.cell? ⟨b', o' + k * 2 + 1, none⟩ = _ := (hbel.cell (p := ⟨b', o' + k * 2 + 1, none⟩) hb').trans g1
        obtain ⟨x, hx⟩ : ∃ x, x = ms.getD k noMv := ⟨_, rfl⟩
        rw [← hx] at c0 c1 c3 c4
        have d0 := fun d os => cell_regrown c0 d os
        have d1 := fun d os => cell_regrown c1 d os
        have d3 := fun d os => cell_regrown c3 d os
        have d4 := fun d os => cell_regrown c4 d os
        have HE := fun W => neNote x W
        have hi : (k : Int) < (ms.length : Int) := by omega
        clear e0 e1 g0 g1 hx
        go_wp2_with fail
        refine wp_region_quiet_below (by kernel_rfl) (by kernel_rfl) ?_
        repeat (go_big_quiet_step (fail))
        refine wpQuiet_nil ?_
        intro _ hw'
        obtain ⟨⟨dq, osq⟩, hw''⟩ := hw'
        subst hw''
        go_wp2_with fail
        go_roundw
        case rel => exact ⟨k + 1, by omega, by go_num, hbel.trans ((below_regrown wr dq osq).mono hbel.size)⟩
        case measure => simp [intOf]; omega
      · go_wp2_with fail
        go_ret
        exact ⟨rfl, hbel⟩

theorem normal_legal {A B : ByteArray} (h : bkNormal A = true) (hb : bkLegal B = true) (h30 : (A ++ B).size ≤ 30) : bkLegal (A ++ B) = true := by
  unfold bkNormal at h
  rw [Bool.and_eq_true] at h
  obtain ⟨x, hx⟩ := Option.isSome_iff_exists.1 h.1
  have e := of_decide_eq_true h.2
  rw [hx] at e
  simp only [Option.getD_some] at e
  subst e
  unfold bkLegal at hb ⊢
  rw [bkRun_append h30 hx]
  exact hb
theorem join_facts {ms ns : List Mv} (h : joinB ms ns = true) : joinV ms ns = ms ++ ns ∧ regT (ms ++ ns) = regT ms ++ regT ns ∧ (bkNormal (regT ms) = true → soundB ns = true → soundB (ms ++ ns) = true) ∧ (soundB (ms ++ ns) = true → soundB ms = true) ∧ (regT ms).size ≤ 30 ∧ (regT ns).size ≤ 30 ∧ (regT (ms ++ ns)).size ≤ 30 := by
  unfold joinB at h
  obtain ⟨h1, h2⟩ := reg_joined h
  have e : regT (ms ++ ns) = nTx (ms ++ ns) := by unfold regT; rw [regL_yes h]
  have e1 : regT ms = nTx ms := by unfold regT; rw [regL_yes h1]
  have e2 : regT ns = nTx ns := by unfold regT; rw [regL_yes h2]
  have s0 := (regB_is h).1
  have s1 := (regB_is h1).1
  have s2 := (regB_is h2).1
  refine ⟨by unfold joinV; rw [regL_yes h], by rw [e, e1, e2, nTx_join], fun q1 q2 => ?_, sound_left, by rw [e1, nTx_size h1]; exact s1, by rw [e2, nTx_size h2]; exact s2, by rw [e, nTx_size h]; exact s0⟩
  rw [e1] at q1
  unfold soundB
  rw [h, nTx_join, normal_legal q1 (sound_is q2).2 (by rw [← nTx_join, nTx_size h]; exact s0)]
  rfl
def MadeJoin (w : World) (e : Ending) (w' : World) : Prop :=
  ∃ (u v : Value) (ms ns : List Mv), e = .returned (.tuple #[u, v]) ∧ OwnN w' w.heap.size u ms ∧ OwnN w' w.heap.size v ns ∧ ms.length ≤ 33 ∧ ns.length ≤ 33 ∧ Below w.heap.size w w'

set_option maxRecDepth 100000 in
set_option maxHeartbeats 4000000 in
theorem drawJoin {w : World} {a : Option Addr} {len cap : Nat} {zs : List Int} (h : IsRowK .u8 w a len cap zs) (hl : len ≤ 1048576) :
    Calls Try.prog 39 #[.slice a len cap] w (MadeJoin w) := by
  have OP := Lib.hid (openRd h hl)
  clear h
  go_enter Try.func39, Try.ntmps39
  go_upto_region 2 with (go_at_call 57; refine OP.out.mono ?_; rintro e w1 ⟨g, rfl, hg, hr, b1⟩)
  have R1 := Lib.hid hr
  have B1 := Lib.hid b1
  have HG := Lib.hid hg
  clear hr b1 hg
  go_upto_region 3 with (go_at_call 72; refine (drawNotesG R1.out (by omega)).mono ?_; rintro e w2 ⟨u, ms, q, rfl, ou, hlm, -, hr, hq, g2⟩)
  have HW := Lib.hid R1.out.lt
  have R2 := Lib.hid hr
  have O2 := Lib.hid ou
  have B2 := Lib.hid (Below.pick B1.out B1.out.size HG.out g2)
  have G2 := Lib.hid g2.size
  clear hr ou g2 R1 OP hl
  go_upto_region 4 with (first
    | (go_at_call 72; refine (drawNotesG R2.out (by omega)).mono ?_; rintro e w3 ⟨v, ns, q3, rfl, ov, hln, -, hr, hq3, g3⟩; have R3 := Lib.hid hr; have O3 := Lib.hid (own_pickN O2.out g3 HW.out); have B3 := Lib.hid (Below.pick B2.out B2.out.size HG.out g3); have OV3 := Lib.hid ov; have G3 := Lib.hid g3.size; clear hr ov g3)
    | (go_at_call 38; refine (specRegisterLate (OwnN.nts OV3.out (by omega)) (k := 100) (by omega)).mono ?_; rintro e w4 ⟨vl, rfl, ol, b4⟩))
  have R4 := Lib.hid (R3.out.below b4 R3.out.lt)
  have O4 := Lib.hid (Ow.below O3.out b4)
  have B4 := Lib.hid (B3.out.trans (b4.mono B3.out.size))
  have OL := Lib.hid (show OwnN w4 w2.heap.size vl (latV ns 100) from Ow.mono ol G3.out)
  have LL : (latV ns 100).length ≤ 33 := by
    unfold latV
    split
    · have := (regB_is (regL_reg (latL ns 100))).1; omega
    · simp
  have WG := Lib.hid (show g < w2.heap.size from Nat.lt_of_lt_of_le HW.out G2.out)
  clear b4 ol R3 O3 B3 OV3 G3 R2 O2 B2 hln
  obtain ⟨ls, hls⟩ : ∃ x, x = latV ns 100 := ⟨_, rfl⟩
  rw [← hls] at OL LL
  obtain ⟨p, hp⟩ : ∃ x, x = latB ns 100 := ⟨_, rfl⟩
  rw [← hp]
  have WL := Lib.hid (show w.heap.size ≤ w1.heap.size from B1.out.size)
  clear hls hp
  have third : ∀ (X : World) (qx : Nat), qx ≤ q3 + 1 → Hid (Rdr X g qx) → Hid (OwnN X w1.heap.size u ms) → Hid (Below w.heap.size w X) →
      Calls Try.prog 72 #[.pointer (some ⟨g, 0, none⟩)] X fun e Y => ∃ (v : Value) (ns : List Mv), e = .returned v ∧ Hid (OwnN Y w.heap.size u ms) ∧ Hid (OwnN Y w.heap.size v ns) ∧ ns.length ≤ 33 ∧ Hid (Below w.heap.size w Y) := by
    intro X qx hqx hr ho hb
    refine (drawNotesG hr.out (by omega)).mono ?_
    rintro e Y ⟨v, ks, qy, rfl, ov, hlk, -, -, -, gy⟩
    exact ⟨v, ks, rfl, Lib.hid (Ow.mono (own_pickN ho.out gy HW.out) WL.out), Lib.hid (Ow.mono ov hb.out.size), hlk, Lib.hid (Below.pick hb.out hb.out.size HG.out gy)⟩
  have TH := Lib.hid third
  have Q4 := Lib.hid (show q3 ≤ 200 by omega)
  clear third hq hq3
  cases p
  · go_wp2_with (go_at_call 72; refine (TH.out _ _ (by omega) R4 O4 B4).mono ?_; rintro e w5 ⟨v5, ks, rfl, o5, ov5, hlk, b5⟩)
    go_ret2
    exact ⟨_, v5, ms, ks, rfl, o5.out, ov5.out, hlm, hlk, b5.out⟩
  · go_wp2_with fail
    refine (pick (n := 4) R4.out (by have := Q4.out; omega) (by omega) (by omega)).mono ?_
    rintro e w5 ⟨r, rfl, hr0, hr1, hr, g5⟩
    have R5 := Lib.hid hr
    have O5 := Lib.hid (own_pickN O4.out g5 HW.out)
    have B5 := Lib.hid (Below.pick B4.out B4.out.size HG.out g5)
    have OL5 := Lib.hid (own_pickN OL.out g5 WG.out)
    have W2 := Lib.hid (Nat.le_trans WL.out G2.out)
    clear hr g5 hr1
    by_cases hz : 0 < r
    · have t1 : decide (0 < r) = true := decide_eq_true hz
      clear hz
      go_wp2_with fail
      go_ret2
      exact ⟨_, vl, ms, ls, rfl, Ow.mono O5.out WL.out, Ow.mono OL5.out W2.out, hlm, LL, B5.out⟩
    · have t1 : decide (0 < r) = false := decide_eq_false hz
      clear hz
      go_wp2_with (go_at_call 72; refine (TH.out _ _ (by omega) R5 O5 B5).mono ?_; rintro e w6 ⟨v5, ks, rfl, o5, ov5, hlk, b5⟩)
      go_ret2
      exact ⟨_, v5, ms, ks, rfl, o5.out, ov5.out, hlm, hlk, b5.out⟩

set_option maxRecDepth 100000 in
set_option maxHeartbeats 8000000 in
theorem walk_FnRegisterJoin (a0 : Option Addr) (len0 cap0 : Nat) (z0 : List Int) (w : World) (w0 : IsRowK .u8 w a0 len0 cap0 z0) :
    Calls Try.prog 10 #[.slice a0 len0 cap0] w fun e w' => e = .returned (.bool true) ∧ Below w.heap.size w w' := by
  rcases Nat.lt_or_ge 1048576 len0 with hbig | hsm
  · have hb : (1048576 : Int) < (len0 : Int) := by omega
    go_enter Try.func10, Try.ntmps10
    go_wp2_with fail
    go_ret
    exact ⟨rfl, Below.refl _ _⟩
  have hb : (len0 : Int) ≤ 1048576 := by omega
  have DN := Lib.hid (drawJoin w0 hsm)
  clear w0
  go_enter Try.func10, Try.ntmps10
  go_upto_region 4 with (go_at_call 39; refine DN.out.mono ?_; rintro e u1 ⟨u, v, ms, ns, rfl, ou, ov, hm, hn, b1⟩)
  have M1 := OwnN.nts ou (by omega)
  have N1 := OwnN.nts ov (by omega)
  have M := Lib.hid (fun (X : World) (c : Below u1.heap.size u1 X) => (Rd.below M1 c : Mvs X u ms))
  have N := Lib.hid (fun (X : World) (c : Below u1.heap.size u1 X) => (Rd.below N1 c : Mvs X v ns))
  have C1 := Lib.hid b1
  have U0 := Lib.hid (below_self u1)
  clear ou ov b1 M1 N1 DN
  have IE := Lib.hid (fun (X : World) (c : Below u1.heap.size u1 X) => implRegisterJoin (M.out X c) (N.out X c) (by omega))
  have SE := Lib.hid (fun (X : World) (c : Below u1.heap.size u1 X) => specRegisterJoin (M.out X c) (N.out X c) (by omega))
  have LL := Lib.hid (joinV_len ms ns)
  have FB := Lib.hid (fun (q : joinB ms ns = true) => join_facts q)
  obtain ⟨ls, hls⟩ : ∃ x, x = joinV ms ns := ⟨_, rfl⟩
  rw [← hls] at IE SE LL
  obtain ⟨p, hp⟩ : ∃ x, x = joinB ms ns := ⟨_, rfl⟩
  rw [← hp] at IE SE FB
  have HLS := Lib.hid hls
  clear hls hp hm hn
  go_upto_region 5 with (go_at_call 25; refine (IE.out _ U0.out).mono ?_; rintro e u2 ⟨v2, rfl, o2, b2⟩)
  have B2 := Lib.hid b2
  have N2 := OwnN.nts o2 LL.out
  have L2 := Lib.hid (fun (X : World) (c : Below u2.heap.size u2 X) => (Rd.below N2 c : Mvs X v2 ls))
  clear b2 o2 N2
  go_upto_region 6 with (go_at_call 40; refine (SE.out _ B2.out).mono ?_; rintro e u3 ⟨v3, rfl, o3, b3⟩)
  have B3 := Lib.hid (B2.out.trans (b3.mono B2.out.size))
  have D3 := Lib.hid b3
  have N3 := OwnN.nts o3 LL.out
  have SM := Lib.hid (fun (X : World) (c : Below u3.heap.size u3 X) => sameNotesS (L2.out X (D3.out.trans (c.mono D3.out.size))) (Rd.below N3 c))
  clear b3 o3 N3
  cases p
  · clear FB
    go_wp2_with (first
      | (go_at_call 24; refine (SM.out _ (below_self _)).mono ?_; rintro e u4 ⟨rfl, b4⟩; clear IE)
      | (go_at_call 24; refine (SM.out _ b4).mono ?_; rintro e u5 ⟨rfl, b5⟩))
    go_ret
    exact ⟨rfl, C1.out.trans ((B3.out.trans ((b4.trans (b5.mono b4.size)).mono B3.out.size)).mono C1.out.size)⟩
  obtain ⟨F1, F2, F3, F4, F5, F6, F7⟩ := FB.out rfl
  have e0 : ls = ms ++ ns := HLS.out.trans F1
  rw [← e0] at F2 F3 F4 F7
  have TXO := Lib.hid (fun (X : World) (c : Below u2.heap.size u2 X) => implRegisterText (L2.out X c))
  have TXA := Lib.hid (fun (X : World) (c : Below u2.heap.size u2 X) => implRegisterText (M.out X (B2.out.trans (c.mono B2.out.size))))
  have TXB := Lib.hid (fun (X : World) (c : Below u2.heap.size u2 X) => implRegisterText (N.out X (B2.out.trans (c.mono B2.out.size))))
  have SO := Lib.hid (fun (X : World) (c : Below u2.heap.size u2 X) => implRegisterSound (L2.out X c))
  have SA := Lib.hid (fun (X : World) (c : Below u2.heap.size u2 X) => implRegisterSound (M.out X (B2.out.trans (c.mono B2.out.size))))
  have SB := Lib.hid (fun (X : World) (c : Below u2.heap.size u2 X) => implRegisterSound (N.out X (B2.out.trans (c.mono B2.out.size))))
  have BN := Lib.hid (fun (X : World) => implNormal (regT ms) (by omega) X)
  obtain ⟨so, hso⟩ : ∃ x, x = soundB ls := ⟨_, rfl⟩
  rw [← hso] at SO F3 F4
  obtain ⟨sa, hsa⟩ : ∃ x, x = soundB ms := ⟨_, rfl⟩
  rw [← hsa] at SA F4
  obtain ⟨sb, hsb⟩ : ∃ x, x = soundB ns := ⟨_, rfl⟩
  rw [← hsb] at SB F3
  obtain ⟨tO, htO⟩ : ∃ x, x = regT ls := ⟨_, rfl⟩
  rw [← htO] at TXO F2 F7
  obtain ⟨tA, htA⟩ : ∃ x, x = regT ms := ⟨_, rfl⟩
  rw [← htA] at TXA F2 F3 F5 BN
  obtain ⟨tB, htB⟩ : ∃ x, x = regT ns := ⟨_, rfl⟩
  rw [← htB] at TXB F2 F6
  have p4 : ∀ w, (Op.stringOp .add tA tB).run Try.prog w = .ok (.string tO) w := fun w => by rw [F2]; exact run_string_add_sum (P := Try.prog) w tA tB (by omega)
  obtain ⟨bn, hbn⟩ : ∃ x, x = bkNormal tA := ⟨_, rfl⟩
  rw [← hbn] at BN F3
  obtain ⟨bg, hbg⟩ : ∃ x, x = bkLegal tA := ⟨_, rfl⟩
  rw [← hbg] at BN
  have HF3 := Lib.hid F3
  have HF4 := Lib.hid F4
  clear F1 F2 F3 F4 F5 F6 F7 e0 hso hsa hsb htO htA htB hbn hbg FB IE SE HLS LL M N L2
  go_upto_region 8 with (go_at_call 24; refine (SM.out _ (below_self _)).mono ?_; rintro e u4 ⟨rfl, b4⟩)
  have D4 := Lib.hid (D3.out.trans (b4.mono D3.out.size))
  clear b4 SM D3 B3
  go_upto_region 9 with (first
    | (go_at_call 32; refine (TXA.out _ D4.out).mono ?_; rintro e u5 ⟨rfl, b5⟩; have D5 := Lib.hid (D4.out.trans (b5.mono D4.out.size)); clear b5)
    | (go_at_call 41; refine (BN.out _).mono ?_; rintro e u6 ⟨rfl, b6⟩; have D6 := Lib.hid (D5.out.trans (b6.mono D5.out.size)); clear b6))
  clear BN D4 D5
  cases bg
  · go_upto_region 10 with fail
    have D7 := D6
    clear D6 SB
    cases so
    · clear HF3 HF4
      go_wp2_with (first
        | (go_at_call 32; refine (TXO.out _ D7.out).mono ?_; rintro e w8 ⟨rfl, b8⟩; have D8 := Lib.hid (D7.out.trans (b8.mono D7.out.size)); clear b8 TXO)
        | (go_at_call 32; refine (TXA.out _ D8.out).mono ?_; rintro e w9 ⟨rfl, b9⟩; have D9 := Lib.hid (D8.out.trans (b9.mono D8.out.size)); clear b9 TXA)
        | (go_at_call 32; refine (TXB.out _ D9.out).mono ?_; rintro e w10 ⟨rfl, b10⟩; have D10 := Lib.hid (D9.out.trans (b10.mono D9.out.size)); clear b10)
        | (go_at_call 42; refine (SO.out _ D10.out).mono ?_; rintro e w11 ⟨rfl, b11⟩; have D11 := Lib.hid (D10.out.trans (b11.mono D10.out.size)); clear b11 D10))
      go_ret
      exact ⟨rfl, C1.out.trans ((B2.out.trans (D11.out.mono B2.out.size)).mono C1.out.size)⟩
    · obtain rfl : sa = true := HF4.out (by simp)
      clear HF3 HF4
      go_wp2_with (first
        | (go_at_call 32; refine (TXO.out _ D7.out).mono ?_; rintro e w8 ⟨rfl, b8⟩; have D8 := Lib.hid (D7.out.trans (b8.mono D7.out.size)); clear b8 TXO)
        | (go_at_call 32; refine (TXA.out _ D8.out).mono ?_; rintro e w9 ⟨rfl, b9⟩; have D9 := Lib.hid (D8.out.trans (b9.mono D8.out.size)); clear b9 TXA)
        | (go_at_call 32; refine (TXB.out _ D9.out).mono ?_; rintro e w10 ⟨rfl, b10⟩; have D10 := Lib.hid (D9.out.trans (b10.mono D9.out.size)); clear b10)
        | (go_at_call 42; refine (SO.out _ D10.out).mono ?_; rintro e w11 ⟨rfl, b11⟩; have D11 := Lib.hid (D10.out.trans (b11.mono D10.out.size)); clear b11 D10)
        | (go_at_call 42; refine (SA.out _ D11.out).mono ?_; rintro e w12 ⟨rfl, b12⟩; have D12 := Lib.hid (D11.out.trans (b12.mono D11.out.size)); clear b12))
      go_ret
      exact ⟨rfl, C1.out.trans ((B2.out.trans (D12.out.mono B2.out.size)).mono C1.out.size)⟩
  cases bn
  · go_upto_region 10 with fail
    have D7 := D6
    clear D6 SB
    cases so
    · clear HF3 HF4
      go_wp2_with (first
        | (go_at_call 32; refine (TXO.out _ D7.out).mono ?_; rintro e w8 ⟨rfl, b8⟩; have D8 := Lib.hid (D7.out.trans (b8.mono D7.out.size)); clear b8 TXO)
        | (go_at_call 32; refine (TXA.out _ D8.out).mono ?_; rintro e w9 ⟨rfl, b9⟩; have D9 := Lib.hid (D8.out.trans (b9.mono D8.out.size)); clear b9 TXA)
        | (go_at_call 32; refine (TXB.out _ D9.out).mono ?_; rintro e w10 ⟨rfl, b10⟩; have D10 := Lib.hid (D9.out.trans (b10.mono D9.out.size)); clear b10)
        | (go_at_call 42; refine (SO.out _ D10.out).mono ?_; rintro e w11 ⟨rfl, b11⟩; have D11 := Lib.hid (D10.out.trans (b11.mono D10.out.size)); clear b11 D10))
      go_ret
      exact ⟨rfl, C1.out.trans ((B2.out.trans (D11.out.mono B2.out.size)).mono C1.out.size)⟩
    · obtain rfl : sa = true := HF4.out (by simp)
      clear HF3 HF4
      go_wp2_with (first
        | (go_at_call 32; refine (TXO.out _ D7.out).mono ?_; rintro e w8 ⟨rfl, b8⟩; have D8 := Lib.hid (D7.out.trans (b8.mono D7.out.size)); clear b8 TXO)
        | (go_at_call 32; refine (TXA.out _ D8.out).mono ?_; rintro e w9 ⟨rfl, b9⟩; have D9 := Lib.hid (D8.out.trans (b9.mono D8.out.size)); clear b9 TXA)
        | (go_at_call 32; refine (TXB.out _ D9.out).mono ?_; rintro e w10 ⟨rfl, b10⟩; have D10 := Lib.hid (D9.out.trans (b10.mono D9.out.size)); clear b10)
        | (go_at_call 42; refine (SO.out _ D10.out).mono ?_; rintro e w11 ⟨rfl, b11⟩; have D11 := Lib.hid (D10.out.trans (b11.mono D10.out.size)); clear b11 D10)
        | (go_at_call 42; refine (SA.out _ D11.out).mono ?_; rintro e w12 ⟨rfl, b12⟩; have D12 := Lib.hid (D11.out.trans (b12.mono D11.out.size)); clear b12))
      go_ret
      exact ⟨rfl, C1.out.trans ((B2.out.trans (D12.out.mono B2.out.size)).mono C1.out.size)⟩
  cases sb
  · go_upto_region 10 with (go_at_call 42; refine (SB.out _ D6.out).mono ?_; rintro e w7 ⟨rfl, b7⟩)
    have D7 := Lib.hid (D6.out.trans (b7.mono D6.out.size))
    clear b7 SB D6
    cases so
    · clear HF3 HF4
      go_wp2_with (first
        | (go_at_call 32; refine (TXO.out _ D7.out).mono ?_; rintro e w8 ⟨rfl, b8⟩; have D8 := Lib.hid (D7.out.trans (b8.mono D7.out.size)); clear b8 TXO)
        | (go_at_call 32; refine (TXA.out _ D8.out).mono ?_; rintro e w9 ⟨rfl, b9⟩; have D9 := Lib.hid (D8.out.trans (b9.mono D8.out.size)); clear b9 TXA)
        | (go_at_call 32; refine (TXB.out _ D9.out).mono ?_; rintro e w10 ⟨rfl, b10⟩; have D10 := Lib.hid (D9.out.trans (b10.mono D9.out.size)); clear b10)
        | (go_at_call 42; refine (SO.out _ D10.out).mono ?_; rintro e w11 ⟨rfl, b11⟩; have D11 := Lib.hid (D10.out.trans (b11.mono D10.out.size)); clear b11 D10))
      go_ret
      exact ⟨rfl, C1.out.trans ((B2.out.trans (D11.out.mono B2.out.size)).mono C1.out.size)⟩
    · obtain rfl : sa = true := HF4.out (by simp)
      clear HF3 HF4
      go_wp2_with (first
        | (go_at_call 32; refine (TXO.out _ D7.out).mono ?_; rintro e w8 ⟨rfl, b8⟩; have D8 := Lib.hid (D7.out.trans (b8.mono D7.out.size)); clear b8 TXO)
        | (go_at_call 32; refine (TXA.out _ D8.out).mono ?_; rintro e w9 ⟨rfl, b9⟩; have D9 := Lib.hid (D8.out.trans (b9.mono D8.out.size)); clear b9 TXA)
        | (go_at_call 32; refine (TXB.out _ D9.out).mono ?_; rintro e w10 ⟨rfl, b10⟩; have D10 := Lib.hid (D9.out.trans (b10.mono D9.out.size)); clear b10)
        | (go_at_call 42; refine (SO.out _ D10.out).mono ?_; rintro e w11 ⟨rfl, b11⟩; have D11 := Lib.hid (D10.out.trans (b11.mono D10.out.size)); clear b11 D10)
        | (go_at_call 42; refine (SA.out _ D11.out).mono ?_; rintro e w12 ⟨rfl, b12⟩; have D12 := Lib.hid (D11.out.trans (b12.mono D11.out.size)); clear b12))
      go_ret
      exact ⟨rfl, C1.out.trans ((B2.out.trans (D12.out.mono B2.out.size)).mono C1.out.size)⟩
  · go_upto_region 10 with (go_at_call 42; refine (SB.out _ D6.out).mono ?_; rintro e w7 ⟨rfl, b7⟩)
    have D7 := Lib.hid (D6.out.trans (b7.mono D6.out.size))
    clear b7 SB D6
    obtain rfl : so = true := HF3.out (by simp) (by simp)
    obtain rfl : sa = true := HF4.out (by simp)
    clear HF3 HF4
    go_wp2_with (first
      | (go_at_call 32; refine (TXO.out _ D7.out).mono ?_; rintro e w8 ⟨rfl, b8⟩; have D8 := Lib.hid (D7.out.trans (b8.mono D7.out.size)); clear b8 TXO)
      | (go_at_call 32; refine (TXA.out _ D8.out).mono ?_; rintro e w9 ⟨rfl, b9⟩; have D9 := Lib.hid (D8.out.trans (b9.mono D8.out.size)); clear b9 TXA)
      | (go_at_call 32; refine (TXB.out _ D9.out).mono ?_; rintro e w10 ⟨rfl, b10⟩; have D10 := Lib.hid (D9.out.trans (b10.mono D9.out.size)); clear b10)
      | (go_at_call 42; refine (SO.out _ D10.out).mono ?_; rintro e w11 ⟨rfl, b11⟩; have D11 := Lib.hid (D10.out.trans (b11.mono D10.out.size)); clear b11 D10)
      | (go_at_call 42; refine (SO.out _ D11.out).mono ?_; rintro e w12 ⟨rfl, b12⟩; have D12 := Lib.hid (D11.out.trans (b12.mono D11.out.size)); clear b12 SO)
      | (go_at_call 42; refine (SA.out _ D12.out).mono ?_; rintro e w13 ⟨rfl, b13⟩; have D13 := Lib.hid (D12.out.trans (b13.mono D12.out.size)); clear b13))
    go_ret
    exact ⟨rfl, C1.out.trans ((B2.out.trans (D13.out.mono B2.out.size)).mono C1.out.size)⟩

end Go.Proofs.Ytphadofigcipcaa

namespace Go.Proofs.Ytphadofigcipcaa.fnRegisterJoin
open Go.ChangeShapes Go.WideShapes Go.ChangeAt Go.RowKit
open Go.ChangeMaps (open_string shut_string)
set_option linter.unusedVariables false

theorem own : ownKnob Try.prog.godebug = none := by kernel_rfl
theorem laidOut : laidOutB Try.prog = true := by kernel_rfl

set_option maxRecDepth 100000 in
theorem lifted (os : Os) (started : os.Started) (H : Type) (enc : TypeId × Value → H) :
    ReturnsInHanded {} Try.checked os 10 .any (Rows.fnRegisterJoinSpec.pre6 enc Try.prog Try.f10 Rows.fnRegisterJoinRow.domain false) (Rows.fnRegisterJoinSpec.post enc Try.prog Try.f10 false true false false) := by
  refine returnsInHanded_of_change (C := Try.checked) own started (by kernel_rfl) Try.func10
    (ChangeSpec.witness6 (enc := enc) (C := Try.checked) false ⟨#[], #[.slice none 0 0], []⟩ 8 (by kernel_rfl) (by kernel_rfl) (by kernel_rfl) (by kernel_rfl)) ?_
  intro W base args ds gs before hval0 hW hcnd _
  have hval : ∀ (j : Nat) t v, Try.f10.params[j]? = some t → args[j]? = some v → Value.okWide Try.prog W .any base t v := hval0
  have hW' := hW
  obtain ⟨p, q, hA0, hV, rfl, hfz, hnd⟩ := hW
  have hA : DataW.TrodAll enc Try.prog W 0 (fun _ => true) true Try.f10.params.toList args.toList ds p := hA0
  rw [Try.params10] at hA hval
  obtain ⟨v0, vs0, d0, ds0, p0, q0, hargs, rfl, rfl, h0, r0⟩ := trodAll_cons hA
  obtain ⟨rfl, rfl, rfl⟩ := trodAll_nil r0
  obtain rfl : args = #[v0] := by cases args; simp_all
  obtain ⟨rfl, rfl⟩ := trodVars_none hV
  obtain ⟨a0, len0, cap0, rfl⟩ := okWide_slice Try.underlying22 (hval 0 22 v0 rfl rfl)
  have k0 := h0
  have lt0 : ∀ x ∈ p0, x.block < W.heap.size := by obtain ⟨m, hm⟩ := k0; exact DataW.trod_lt m _ _ _ hm
  obtain ⟨z0, w0⟩ : ∃ zs, IsRowK .u8 W a0 len0 cap0 zs := by
    obtain ⟨fuel, hf⟩ := h0
    rcases open_ints Try.underlying22 Try.underlying5 (by kernel_rfl) hf with ⟨hcs, _⟩ | ⟨x, l, c, zs, hcs, _, hl, hm, hz, _, hcell, hwz⟩
    · simp [Value.cells] at hcs
      obtain ⟨rfl, rfl, rfl⟩ := hcs
      exact ⟨[], .inl ⟨rfl, rfl, rfl, rfl⟩⟩
    · simp [Value.cells] at hcs
      obtain ⟨rfl, rfl, rfl⟩ := hcs
      exact ⟨zs, .inr ⟨_, rfl, hl, hm, by simpa using hz, hcell, hwz⟩⟩
  clear hA0 hval0
  refine (walk_FnRegisterJoin a0 len0 cap0 z0 W w0).mono fun e W' ⟨he, bel⟩ => ?_
  subst he
  exact ⟨_, rfl, _, _, _, [], _, [], hW', trodAll_mk1 (shut_bool Try.underlying4 _), (trodAll_cons_mk (Below.trod laidOut (by kernel_rfl) (of_decide_eq_true (by kernel_rfl)) k0 bel lt0) trodAll_mk0), rfl, bel.frame _, fun h => by cases h⟩

theorem closed : joinedFacts Try.checked.prog 10 Try.f10 Rows.fnRegisterJoinSpec Rows.fnRegisterJoinRow = true := by
  unfold joinedFacts
  simp only [Bool.and_eq_true]
  repeat' (refine And.intro ?_ ?_)
  all_goals first
    | with_reducible exact may_enter
    | (rw [lifts_final]; kernel_rfl)
    | (rw [make_is]; kernel_rfl)
    | kernel_rfl

theorem over : Rows.fnRegisterJoinRow.holds Try.pinned (OpenSpec.ofChange Rows.fnRegisterJoinSpec) :=
  OpenClaim.holds_of_wide 10 Try.f10 rfl rfl rfl rfl rfl rfl rfl ⟨rfl, rfl, rfl, rfl, rfl⟩ rfl rfl rfl rfl rfl (by kernel_rfl) Try.func10 closed
    (of_decide_eq_true (by kernel_rfl)) (by unfold Func.isWrapper; first | (rw [if_pos (by decide +kernel)]; kernel_rfl) | (rw [if_neg (by decide +kernel)]; exact ⟨rfl, rfl⟩))
    (fun os started H enc _ => lifted os started H enc)

theorem proved : Rows.FnRegisterJoinSaid := over
#print axioms proved
end Go.Proofs.Ytphadofigcipcaa.fnRegisterJoin
