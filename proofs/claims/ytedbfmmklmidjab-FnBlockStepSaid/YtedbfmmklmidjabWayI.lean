/-
  The program's BlockWay. No condition.
-/
import Derived.Test.YtedbfmmklmidjabWayP
import Derived.Test.YtedbfmmklmidjabMapS
import Derived.Test.YtedbfmmklmidjabQueue
import Derived.Test.YtedbfmmklmidjabOneM
import Derived.Deep.LoopGhost
namespace Go.Proofs.Ytedbfmmklmidjab
open Go.RowKit Go.Sort
open Go.Maps (Keyed)

/-- An append whose run is known. -/
theorem wpList_append_eq {P : Program} {w : World} {ops : Array Oper} {rest : List Oper} {o : Oper} {a : Act} {Q : Exit → Act → World → Prop} (hgd : o.guard = none) (s x : Operand) (t : TypeId)
    (ho : o.op = .call { callee := .builtin .append, args := #[s, x], argTypes := #[t, t] }) (v u : Value) (hs : a.eval s = v) (hx : a.eval x = u) {v' : Value} {w' : World}
    (hr : (Builtin.append_ #[t, t] o.type #[v, u]).run P w = .ok v' w') (h : wpList P ops Q rest (a.put o.dst v') w') : wpList P ops Q (o :: rest) a w := by
  refine wpList_plain hgd fun _ hK => ?_
  unfold Oper.wp execOp
  simp only [ho, resolve, invoke, builtin, Sem.run_bind, Sem.run_pure, Result.andThen_ok, List.map_toArray, List.map_cons, List.map_nil, hs, hx, hr]
  exact hK _ _ h

/-- The way from a block to another one, as an answer. -/
def bkWay (a b : Blk) : ByteArray := if bkPos a = true ∧ bkPos b = true then strOf ((wayOf (bkIx a) (bkIx b)).getD []) else ⟨#[]⟩
def bkBoth (a b : Blk) : Bool := bkPos a && bkPos b
theorem bkWay_no {a b : Blk} (h : bkPos a = false ∨ bkPos b = false) : bkWay a b = ⟨#[]⟩ ∧ bkBoth a b = false := by
  unfold bkWay bkBoth
  rcases h with h | h
  · simp [h]
  · simp [h]
theorem bkWay_yes {a b : Blk} (ha : bkPos a = true) (hb : bkPos b = true) : bkWay a b = strOf ((wayOf (bkIx a) (bkIx b)).getD []) ∧ bkBoth a b = true := by
  unfold bkWay bkBoth
  simp [ha, hb]

/-- What stands at the head of the search's rounds. -/
structure Sr (w : World) (B M s t : Nat) (y : Blk) (g : Nat) (v : Value) (wr : World) : Prop where
  queue : QueAt wr g (B + 2) 0 v (bfs s t).2
  ways : MapS wr M (2 * t + 1) (fWst (bfs s t))
  box : Tri3 wr (B + 1) (.int .i64 y.1) (.bool y.2.1) (.bool y.2.2) 25
  below : Below w.heap.size w wr
  map : B + 2 ≤ M

/-- Of its inner rounds. -/
structure Si (w : World) (B M s t e q K E : Nat) (x y : Blk) (st : Wst) (g : Nat) (v : Value) (S : ByteArray) (wr : World) : Prop where
  iter : wr.heap[K]? = some (.stringIter S q)
  first : Tri3 wr E (.int .i64 x.1) (.bool x.2.1) (.bool x.2.2) 25
  queue : QueAt wr g (B + 2) E v st.2
  ways : MapS wr M (2 * t + 1 + q) (fWst st)
  box : Tri3 wr (B + 1) (.int .i64 y.1) (.bool y.2.1) (.bool y.2.2) 25
  below : Below w.heap.size w wr
  state : st = inn ((bfs s t).1, (bfs s t).2.tail) e q

set_option maxRecDepth 100000 in
set_option maxHeartbeats 1000000 in
theorem implWay (a b : Blk) (w : World) :
    Calls Try.prog 17 #[bkV a, bkV b] w fun e w' => e = .returned (.tuple #[.string (bkWay a b), .bool (bkBoth a b)]) ∧ Below w.heap.size w w' := by
  unfold bkV
  have hmm := @run_makeMap Try.prog
  obtain ⟨W, hW⟩ : ∃ W, W = (w.alloc (.cells #[.int .i64 a.1, .bool a.2.1, .bool a.2.2] 25)).alloc (.cells #[.int .i64 b.1, .bool b.2.1, .bool b.2.2] 25) := ⟨_, rfl⟩
  obtain ⟨T1, T2, B0, SZ⟩ := two_tri _ _ _ _ _ _ _ _ _ W hW
  have HW := Lib.hid hW
  have HB := Lib.hid B0
  have HS := Lib.hid SZ
  have HT := Lib.hid (And.intro T1 T2)
  clear hW B0 SZ T1 T2
  have PA := Lib.hid (show ∀ w : World, Calls Try.prog 22 #[.agg #[.int .i64 a.1, .bool a.2.1, .bool a.2.2]] w fun e w' => e = .returned (.bool (bkPos a)) ∧ Below w.heap.size w w' from implPossible a)
  have PB := Lib.hid (show ∀ w : World, Calls Try.prog 22 #[.agg #[.int .i64 b.1, .bool b.2.1, .bool b.2.2]] w fun e w' => e = .returned (.bool (bkPos b)) ∧ Below w.heap.size w w' from implPossible b)
  by_cases hno : bkPos a = false ∨ bkPos b = false
  · have N := Lib.hid (bkWay_no hno)
    obtain ⟨p, hp⟩ : ∃ p, p = bkPos a := ⟨_, rfl⟩
    rw [← hp] at PA hno
    clear hp hmm
    cases p
    · clear hno
      go_enter Try.func17, Try.ntmps17
      go_wp2_with (rw [← HW.out]; go_at_call 22; refine (PA.out _).mono ?_)
      rintro e w1 ⟨rfl, b1⟩
      go_wp2_with fail
      go_ret2
      exact ⟨by rw [N.out.1, N.out.2]; rfl, HB.out.trans (b1.mono HB.out.size)⟩
    · have hb : bkPos b = false := by simpa using hno
      rw [hb] at PB
      clear hno hb
      go_enter Try.func17, Try.ntmps17
      go_wp2_with (rw [← HW.out]; go_at_call 22; refine (PA.out _).mono ?_)
      rintro e w1 ⟨rfl, b1⟩
      have t2 := HT.out.2.below b1
      have c0 := t2.cell0
      have c1 := t2.cell1
      have c2 := t2.cell2
      clear t2
      go_wp2_with (go_at_call 22; refine (PB.out _).mono ?_)
      rintro e w2 ⟨rfl, b2⟩
      go_wp2_with fail
      go_ret2
      exact ⟨by rw [N.out.1, N.out.2]; rfl, HB.out.trans ((b1.trans (b2.mono b1.size)).mono HB.out.size)⟩
  · have ha : bkPos a = true := by
      cases e : bkPos a
      · exact absurd (.inl e) hno
      · rfl
    have hb : bkPos b = true := by
      cases e : bkPos b
      · exact absurd (.inr e) hno
      · rfl
    have N := Lib.hid (bkWay_yes ha hb)
    rw [ha] at PA
    rw [hb] at PB
    obtain ⟨s, hs⟩ : ∃ s, s = bkIx a := ⟨_, rfl⟩
    obtain ⟨u, hu⟩ : ∃ u, u = bkIx b := ⟨_, rfl⟩
    have IA := Lib.hid (bkAt_ix ha)
    have IB := Lib.hid (bkAt_ix hb)
    rw [← hs] at N IA
    rw [← hu] at N IB
    clear hno ha hb hs hu
    go_enter Try.func17, Try.ntmps17
    go_wp2_with (rw [← HW.out]; go_at_call 22; refine (PA.out _).mono ?_)
    rintro e w1 ⟨rfl, b1⟩
    have t2 := HT.out.2.below b1
    have c0 := t2.cell0
    have c1 := t2.cell1
    have c2 := t2.cell2
    clear t2
    go_wp2_with (go_at_call 22; refine (PB.out _).mono ?_)
    rintro e w2 ⟨rfl, b2⟩
    have b12 := b1.trans (b2.mono b1.size)
    have B2 := Lib.hid (HB.out.trans (b12.mono HB.out.size))
    have hsz : w.heap.size + 2 ≤ w2.heap.size := by have := b12.size; have := HS.out; omega
    have t1 := (HT.out.1.below b12).alloc (.map #[] 0)
    have T2 := Lib.hid (HT.out.2.below b12)
    have d0 := t1.cell0
    have d1 := t1.cell1
    have d2 := t1.cell2
    obtain ⟨w3, hup, hm3, hg3⟩ := (MapS.new w2).update (by decide) IA.out.1 (l := []) (by decide)
    rw [IA.out.2] at hup
    have UP : (Instr.mapUpdate 63 (.map (some w2.heap.size)) (.agg #[.int .i64 a.1, .bool a.2.1, .bool a.2.2]) (.string ⟨#[]⟩)).run Try.prog (w2.alloc (.map #[] 0)) = .ok () w3 := hup
    have g3 : w2.grownBy w3 (some w2.heap.size) := (World.grownBy_alloc w2 _ _).andThen hg3 (fun j hj => .inr hj)
    have t1' := (HT.out.1.below b12).grown g3 (by simp; omega)
    have f0 := t1'.cell0
    have f1 := t1'.cell1
    have f2 := t1'.cell2
    have M3 := Lib.hid hm3
    have G3 := Lib.hid g3
    clear t1 t1' hup hm3 hg3 b1 b2 b12 c0 c1 c2 g3
    go_wp2_with fail
    obtain ⟨W4, hW4⟩ : ∃ W, W = w3.alloc (.cells #[.int .i64 a.1, .bool a.2.1, .bool a.2.2] 25) := ⟨_, rfl⟩
    have t4 : Tri3 W4 w3.heap.size (.int .i64 (bkAt s).1) (.bool (bkAt s).2.1) (.bool (bkAt s).2.2) 25 := by rw [hW4, IA.out.2]; exact Tri3.new _ _ _ _ _
    have g4 : w3.grownBy W4 none := by rw [hW4]; exact World.grownBy_alloc _ _ _
    have hs3 := G3.out.size
    have S4 : Sr w w.heap.size w2.heap.size s 0 b w3.heap.size (.slice (some ⟨w3.heap.size, 0, none⟩) 1 1) W4 :=
      ⟨QueAt.new t4 (by omega) (by omega), ((M3.out.kept g4 (by simp)).congr start_ways).mono (by omega), (T2.out.grown G3.out (by simp; omega)).grown g4 (by simp), (B2.out.grown G3.out (by omega) (fun j hj => by cases hj; omega)).grown g4 (by omega) (fun j hj => by cases hj), hsz⟩
    have SS := Lib.hid S4
    rw [← hW4]
    clear S4 t4 g4 hs3 hW4 f0 f1 f2 d0 d1 d2 UP hmm
    go_loopg [7] 5 (fun gk v wr => ∃ t g : Nat, t + gk = 5 ∧ Hid (Sr w w.heap.size w2.heap.size s t b g v wr))
    case atStart => exact ⟨0, _, rfl, SS.out⟩
    case round =>
      obtain ⟨t, g, htg, RR⟩ := hrel
      by_cases hlt : t < 5
      · obtain ⟨wo, rfl⟩ : ∃ X, X = wr := ⟨_, rfl⟩
        obtain ⟨hne, hlen, hall⟩ := bfs_goes s IA.out.1 t hlt
        obtain ⟨e, qu, hq⟩ : ∃ e qu, (bfs s t).2 = e :: qu := by
          cases h : (bfs s t).2 with
          | nil => exact absurd h hne
          | cons e qu => exact ⟨e, qu, rfl⟩
        have he5 : e < 5 := hall e (by rw [hq]; simp)
        have Q := RR.out.queue
        rw [hq] at Q hlen
        obtain ⟨o, cap, rfl⟩ := Q.shape
        obtain ⟨v', hpop, Q'⟩ := Q.pop
        obtain ⟨x, hx⟩ : ∃ x, x = bkAt e := ⟨_, rfl⟩
        obtain ⟨c0, c1, c2⟩ := Q.head
        rw [← hx] at c0 c1 c2
        obtain ⟨n, hn⟩ : ∃ n, n = (e :: qu).length := ⟨_, rfl⟩
        have hn0 : 0 < n := by rw [hn]; simp
        have hni : (0 : Int) < n := by omega
        rw [← hn] at hpop ⊢
        have NX := Lib.hid (show ∀ w : World, Calls Try.prog 24 #[.agg #[.int .i64 x.1, .bool x.2.1, .bool x.2.2]] w fun e w' => e = .returned (.string (nxS x)) ∧ Below w.heap.size w w' from implNext x)
        obtain ⟨S, hS⟩ : ∃ S, S = nxS x := ⟨_, rfl⟩
        rw [← hS] at NX
        have HS := Lib.hid (hS.trans (by rw [hx]))
        have HX := Lib.hid hx
        have HQ := Lib.hid (And.intro hq he5)
        have QQ := Lib.hid Q'
        clear hS hx hq Q Q' hn hne hlen hall
        go_wp2_with (go_at_call 24; refine (NX.out _).mono ?_)
        rintro e1 w4 ⟨rfl, b4⟩
        go_wp2_with fail
        have g5 : wo.grownBy w4 none := (World.grownBy_alloc wo _ none).andThen (below_grown b4) (fun j hj => by cases hj)
        have t5 : Tri3 w4 wo.heap.size (.int .i64 x.1) (.bool x.2.1) (.bool x.2.2) 25 := (Tri3.new wo _ _ _ _).below b4
        obtain ⟨WI, hWI⟩ : ∃ W, W = w4.iter S 0 := ⟨_, rfl⟩
        have gI : w4.grownBy WI none := by rw [hWI]; exact World.grownBy_alloc _ _ _
        have hbo := RR.out.below.size
        have hmo := RR.out.ways.lt
        have hE4 : wo.heap.size < w4.heap.size := t5.lt
        have S5 : Si w w.heap.size w2.heap.size s t e 0 w4.heap.size wo.heap.size x b (inn ((bfs s t).1, (bfs s t).2.tail) e 0) g v' S WI :=
          ⟨by rw [hWI]; exact World.iter_heap _ _ _, t5.grown gI (by simp), by
            have := ((QQ.out.avoid (Nat.le_refl _)).kept g5 (by simp)).kept gI (by simp)
            simp only [inn, HQ.out.1, List.tail_cons]
            exact this, (RR.out.ways.kept g5 (by simp)).kept gI (by simp), (RR.out.box.grown g5 (by simp)).grown gI (by simp), (RR.out.below.grown g5 hbo (fun j hj => by cases hj)).grown gI (by omega) (fun j hj => by cases hj), rfl⟩
        have SI := Lib.hid S5
        rw [← hWI]
        clear S5 g5 t5 gI hWI b4 c0 c1 c2 hpop
        have hn2 := nl_le HQ.out.2
        go_loopw [7, 10] (fun v _ wr => ∃ (q g : Nat) (st : Wst), q ≤ nl e ∧ Hid (Si w w.heap.size w2.heap.size s t e q w4.heap.size wo.heap.size x b st g v S wr)) (fun _ _ wr => 2 - wr.iterPos w4.heap.size)
        case atStart => exact ⟨0, _, _, by omega, SI.out⟩
        case round =>
          obtain ⟨q, g1, st, hq, RI⟩ := hrel
          by_cases hlt2 : q < nl e
          · have he5 : e < 5 := HQ.out.2
            have hit := RI.out.iter
            have hS : S = nxS (bkAt e) := HS.out
            obtain ⟨l, hl⟩ : ∃ l : Int, l = (lb e q).toNat := ⟨_, rfl⟩
            obtain ⟨L, hL⟩ : ∃ L, L = lS e q := ⟨_, rfl⟩
            obtain ⟨y, hy⟩ : ∃ y, y = bkAt (tg e q) := ⟨_, rfl⟩
            have hty := (tg_is he5 hlt2).1
            have hnx : ∀ ty, (Instr.next (.pointer (some ⟨w4.heap.size, 0, none⟩)) true ty).run Try.prog wr = .ok (.tuple #[.bool true, .int .i64 q, .int .i32 l]) (wr.iterAt w4.heap.size S (q + 1)) := by
              intro ty; rw [hS] at hit ⊢; rw [hl]; exact nxS_next he5 hlt2 hit ty
            have hcv : ∀ w, (Go.convert 21 9 (.int .i32 l)).run Try.prog w = .ok (.string L) w := by rw [hl, hL]; exact fun w => lS_convert he5 hlt2 w
            have SP := Lib.hid (show ∀ w : World, Calls Try.prog 19 #[.agg #[.int .i64 x.1, .bool x.2.1, .bool x.2.2], .string L] w fun e w' => e = .returned (.tuple #[.agg #[.int .i64 y.1, .bool y.2.1, .bool y.2.2], .bool true]) ∧ Below w.heap.size w w' by
              intro w
              have := implStepE x L (by rw [hL, lS_size]; omega) w
              rw [show bkOne x L = some y by rw [HX.out, hL, hy]; exact lS_step he5 hlt2] at this
              exact this)
            have gA := grown_iterAt wr w4.heap.size S (q + 1)
            obtain ⟨WA, hWA⟩ : ∃ W, W = wr.iterAt w4.heap.size S (q + 1) := ⟨_, rfl⟩
            have itA : WA.heap[w4.heap.size]? = some (.stringIter S (q + 1)) := by rw [hWA]; exact Lib.iterAt_heap wr _ S q (q + 1) hit
            rw [← hWA] at hnx gA
            have hKl : w4.heap.size < wr.heap.size := (Array.getElem?_eq_some_iff.1 hit).1
            have hmr := RI.out.ways.lt
            have hqne : g1 ≠ w4.heap.size := RI.out.queue.lt.2.2.2.not_iter RI.out.iter
            have tA := RI.out.first.grown gA (by simp; omega)
            have qA := RI.out.queue.kept gA (by simpa using hqne)
            have mA := RI.out.ways.kept gA (by simp; omega)
            have bxA := RI.out.box.grown gA (by simp; omega)
            have bA := RI.out.below.grown gA (by omega) (fun j hj => by cases hj; omega)
            have sA : WA.heap.size = wr.heap.size := by rw [hWA]; exact Lib.iterAt_size _ _ _ _
            have c0 := tA.cell0
            have c1 := tA.cell1
            have c2 := tA.cell2
            have AA := Lib.hid (And.intro itA (And.intro tA (And.intro qA (And.intro mA (And.intro bxA bA)))))
            have HY := Lib.hid (And.intro hy (And.intro hty (And.intro sA (And.intro hKl hL))))
            clear hit hS hl hL hy itA tA qA mA bxA bA gA hWA sA hKl hqne
            go_wp2_with (go_at_call 19; refine (SP.out _).mono ?_)
            rintro e2 w5 ⟨rfl, b5⟩
            obtain ⟨W9, hW9⟩ : ∃ W, W = w5.alloc (.cells #[.int .i64 y.1, .bool y.2.1, .bool y.2.2] 25) := ⟨_, rfl⟩
            have g9 : WA.grownBy W9 none := by rw [hW9]; exact (below_grown b5).andThen (World.grownBy_alloc _ _ none) (fun j hj => by cases hj)
            have t9 : Tri3 W9 w5.heap.size (.int .i64 y.1) (.bool y.2.1) (.bool y.2.2) 25 := by rw [hW9]; exact Tri3.new _ _ _ _ _
            have m9 := AA.out.2.2.2.1.kept g9 (by simp)
            have hlk := m9.look_ok HY.out.2.1
            rw [← HY.out.1] at hlk
            obtain ⟨kn, hkn⟩ : ∃ kn, kn = (fWst st (tg e q)).isSome := ⟨_, rfl⟩
            obtain ⟨sk, hsk⟩ : ∃ sk, sk = strOf ((fWst st (tg e q)).getD []) := ⟨_, rfl⟩
            rw [← hkn, ← hsk] at hlk
            have LK : (Instr.lookup 63 (.map (some w2.heap.size)) (.agg #[.int .i64 y.1, .bool y.2.1, .bool y.2.2]) true).run Try.prog W9 = .ok (.tuple #[.string sk, .bool kn]) W9 := hlk
            have d0 := t9.cell0
            have d1 := t9.cell1
            have d2 := t9.cell2
            have HK := Lib.hid hkn
            have G9 := Lib.hid g9
            have T9 := Lib.hid t9
            have M9 := Lib.hid m9
            have HWW := Lib.hid hW9
            have hK9 : w4.heap.size < w5.heap.size := by have := b5.size; have := HY.out.2.2.1; have := HY.out.2.2.2.1; omega
            clear hkn hsk hlk g9 t9 m9 hW9 b5 c0 c1 c2 hnx
            cases kn
            · go_upto_region 14 with (rw [← HWW.out])
              have hst : fWst st (tg e q) = none := by
                have := HK.out
                cases h : fWst st (tg e q)
                · rfl
                · rw [h] at this; cases this
              have hin := bfs_inner s IA.out.1 t hlt q (by omega)
              rw [show (bfs s t).2.headD 0 = e by rw [HQ.out.1]; rfl, ← RI.out.state] at hin
              obtain ⟨hql, hwl⟩ := hin
              have hwe := hwl e HQ.out.2
              have hwn : ((fWst st e).getD [] ++ [lb e q]).length ≤ maxLen := by rw [List.length_append]; simp [maxLen]; omega
              have L1' := M9.out.drew.lookup HQ.out.2
              rw [← HX.out] at L1'
              obtain ⟨WC, hup, hmC, hgC⟩ := M9.out.drew.update (by unfold maxLen; omega) HY.out.2.1 hwn
              rw [← HY.out.1, ← strOf_add] at hup
              obtain ⟨sx, hsx⟩ : ∃ sx, sx = strOf ((fWst st e).getD []) := ⟨_, rfl⟩
              have hsxs : sx.size ≤ 10 := by rw [hsx, strOf_size]; exact hwe
              have hLs : L.size = 1 := by rw [HY.out.2.2.2.2]; rfl
              rw [← hsx] at L1' hup
              rw [show (⟨#[lb e q]⟩ : ByteArray) = L from HY.out.2.2.2.2.symm] at hup
              have L1 : (Instr.lookup 63 (.map (some w2.heap.size)) (.agg #[.int .i64 x.1, .bool x.2.1, .bool x.2.2]) false).run Try.prog W9.drew = .ok (.string sx) W9.drew := L1'
              have UP : (Instr.mapUpdate 63 (.map (some w2.heap.size)) (.agg #[.int .i64 y.1, .bool y.2.1, .bool y.2.2]) (.string (sx ++ L))).run Try.prog W9.drew = .ok () WC := hup
              have hadd : ¬ 9223372036854775807 < sx.size + L.size := by omega
              have tE := AA.out.2.1.grown G9.out (by simp)
              have e0 := tE.cell0
              have e1 := tE.cell1
              have e2 := tE.cell2
              have MC := Lib.hid hmC
              have GC := Lib.hid (show W9.grownBy WC (some w2.heap.size) from ⟨hgC.os, hgC.tape, hgC.output, hgC.size, hgC.block⟩)
              have HST := Lib.hid (And.intro hst hql)
              clear hst hql hwl hwe hwn L1' hup hsx hsxs hLs tE hmC hgC
              go_region
              have hqm : g1 ≠ w2.heap.size := by
                obtain ⟨cs, hcs⟩ := AA.out.2.2.1.lt.2.2.2
                exact AA.out.2.2.2.1.no_cells hcs
              have hml : w2.heap.size < WA.heap.size := AA.out.2.2.2.1.lt
              have h9 := G9.out.size
              have hC := GC.out.size
              have hEl := AA.out.2.1.lt
              have qC := (AA.out.2.2.1.kept G9.out (by simp)).kept GC.out (by simpa using hqm)
              have tC := T9.out.grown GC.out (by simp; have := HY.out.2.2.1; have := HY.out.2.2.2.1; omega)
              have i0 := tC.cell0
              have i1 := tC.cell1
              have i2 := tC.cell2
              have tN : Tri3 (WC.alloc (.cells #[.int .i64 y.1, .bool y.2.1, .bool y.2.2] 25)) WC.heap.size (.int .i64 (bkAt (tg e q)).1) (.bool (bkAt (tg e q)).2.1) (.bool (bkAt (tg e q)).2.2) 25 := by rw [← HY.out.1]; exact Tri3.new _ _ _ _ _
              obtain ⟨v2, g2, WD, hap, hq2, hg2⟩ := (qC.kept (World.grownBy_alloc WC (.cells #[.int .i64 y.1, .bool y.2.1, .bool y.2.2] 25) none) (by simp)).push (by have := HST.out.2; omega) tN (by simp; omega) 55
              have gD : WC.grownBy WD (some g1) := (World.grownBy_alloc WC _ _).andThen hg2 (fun j hj => .inr hj)
              have GD := Lib.hid gD
              have QD := Lib.hid hq2
              clear hq2 hg2 gD qC tC tN hqm
              go_wp2_with (at_builtin; refine wpList_append_eq rfl _ _ 55 rfl _ _ rfl rfl hap ?_)
              have hD := GD.out.size
              have hqm : g1 ≠ w2.heap.size := by
                obtain ⟨cs, hcs⟩ := AA.out.2.2.1.lt.2.2.2
                exact AA.out.2.2.2.1.no_cells hcs
              have hqi : g1 ≠ w4.heap.size := AA.out.2.2.1.lt.2.2.2.not_iter AA.out.1
              have hq3 := AA.out.2.2.1.lt
              have SD : Si w w.heap.size w2.heap.size s t e (q + 1) w4.heap.size wo.heap.size x b (addW st e q) g2 v2 S WD := by
                have hsA := HY.out.2.2.1
                have hKr := HY.out.2.2.2.1
                refine ⟨?_, ?_, ?_, ?_, ?_, ?_, ?_⟩
                · exact (GD.out.block _ (by omega) (by simp; omega)).trans ((GC.out.block _ (by omega) (by simp; omega)).trans ((G9.out.block _ (by omega) (by simp)).trans AA.out.1))
                · exact ((AA.out.2.1.grown G9.out (by simp)).grown GC.out (by simp; omega)).grown GD.out (by simp; omega)
                · rw [addW_queue HST.out.1]; exact QD.out
                · exact (MC.out.congr (addW_ways (by rw [RI.out.state, inn_length]; exact bfs_length s t) HST.out.1)).kept GD.out (by simp; omega) |>.mono (by omega)
                · exact ((AA.out.2.2.2.2.1.grown G9.out (by simp)).grown GC.out (by simp; omega)).grown GD.out (by simp; omega)
                · have := AA.out.2.2.2.2.2.size
                  exact ((AA.out.2.2.2.2.2.grown G9.out (by omega) (fun j hj => by cases hj)).grown GC.out (by omega) (fun j hj => by cases hj; omega)).grown GD.out (by omega) (fun j hj => by cases hj; omega)
                · rw [RI.out.state]; rfl
              have HD := Lib.hid SD
              clear SD hqm hqi hq3 hD
              go_roundw
              case rel => exact ⟨q + 1, g2, _, by omega, HD.out⟩
              case measure =>
                have h1 := RI.out.iter
                have h2 := HD.out.iter
                simp only [World.iterPos, h1, h2]
                omega
            · have hst : (fWst st (tg e q)).isSome = true := HK.out.symm
              have h9 := G9.out.size
              have hsA := HY.out.2.2.1
              have hKr := HY.out.2.2.2.1
              have SD : Si w w.heap.size w2.heap.size s t e (q + 1) w4.heap.size wo.heap.size x b (addW st e q) g1 u7 S W9 := by
                rw [addW_known hst]
                refine ⟨(G9.out.block _ (by omega) (by simp)).trans AA.out.1, AA.out.2.1.grown G9.out (by simp), AA.out.2.2.1.kept G9.out (by simp), M9.out.mono (by omega), AA.out.2.2.2.2.1.grown G9.out (by simp), ?_, ?_⟩
                · have := AA.out.2.2.2.2.2.size
                  exact AA.out.2.2.2.2.2.grown G9.out (by omega) (fun j hj => by cases hj)
                · rw [show inn ((bfs s t).1, (bfs s t).2.tail) e (q + 1) = addW (inn ((bfs s t).1, (bfs s t).2.tail) e q) e q from rfl, ← RI.out.state, addW_known hst]
              have HD := Lib.hid SD
              clear SD hst
              go_wp2_with (rw [← HWW.out])
              go_roundw
              case rel => exact ⟨q + 1, g1, _, by omega, HD.out⟩
              case measure =>
                have h1 := RI.out.iter
                have h2 := HD.out.iter
                simp only [World.iterPos, h1, h2]
                omega
          · obtain rfl : q = nl e := by omega
            have hnx : ∀ ty, (Instr.next (.pointer (some ⟨w4.heap.size, 0, none⟩)) true ty).run Try.prog wr = .ok (.tuple #[.bool false]) wr := by
              intro ty
              have hit := RI.out.iter
              rw [show S = nxS (bkAt e) from HS.out] at hit
              exact nxS_stop hit ty
            have hb1 : bfs s (t + 1) = st := by
              rw [RI.out.state]
              simp only [bfs, HQ.out.1, List.tail_cons]
            have SE : Sr w w.heap.size w2.heap.size s (t + 1) b g1 u7 wr :=
              ⟨by rw [hb1]; exact RI.out.queue.other (by omega), by rw [hb1]; exact RI.out.ways.mono (by omega), RI.out.box, RI.out.below, hsz⟩
            have HE := Lib.hid SE
            clear SE hb1
            go_wp2_with fail
            go_roundg (gk - 1)
            case rel => exact ⟨t + 1, g1, by omega, HE.out⟩
            case measure => omega
      · obtain rfl : t = 5 := by omega
        have hne := bfs_ends s IA.out.1
        have Q := RR.out.queue
        rw [hne] at Q
        obtain ⟨o, cap, rfl⟩ := Q.shape
        have L0 := RR.out.ways.lookup IB.out.1
        rw [IB.out.2, bfs_is s IA.out.1 u IB.out.1] at L0
        obtain ⟨sw, hsw⟩ : ∃ sw, sw = strOf ((wayOf s u).getD []) := ⟨_, rfl⟩
        rw [← hsw] at L0
        have LK : (Instr.lookup 63 (.map (some w2.heap.size)) (.agg #[.int .i64 b.1, .bool b.2.1, .bool b.2.2]) false).run Try.prog wr = .ok (.string sw) wr := L0
        have HSW := Lib.hid (hsw.trans N.out.1.symm)
        have c0 := RR.out.box.cell0
        have c1 := RR.out.box.cell1
        have c2 := RR.out.box.cell2
        clear hne Q L0 hsw
        go_wp2_with fail
        go_ret2
        exact ⟨by rw [← HSW.out, N.out.2]; rfl, RR.out.below⟩

end Go.Proofs.Ytedbfmmklmidjab
