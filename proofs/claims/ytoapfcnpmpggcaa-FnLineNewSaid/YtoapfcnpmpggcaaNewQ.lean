/-
  A new line, plainly: it stands, all of its trains wait, and it needs five events a section and train. For chapter 4.
-/
import Derived.Test.YtoapfcnpmpggcaaLineN
import Derived.Test.YtoapfcnpmpggcaaDraws1
import Derived.Test.YtoapfcnpmpggcaaSameL
namespace Go.Proofs.Ytoapfcnpmpggcaa
open Go.RowKit

theorem cnt_new (n k : Nat) (p : Int) : cntAt (newLn n k).2 p = if p = 0 then (k : Int) else 0 := by
  have h : ∀ j, cntP (newLn n k).2 p j = if p = 0 then (j : Int) else 0 := by
    intro j
    induction j with
    | zero => simp [cntP]
    | succ j ih =>
      simp only [cntP, newLn_tr, ih]
      by_cases e : p = 0
      · subst e; simp
      · have e' : ¬ (0 : Int) = p := fun q => e q.symm
        simp [e, e']
  unfold cntAt
  rw [h, (newLn_len n k).2]
theorem com_new (n k : Nat) {p : Int} (hp : 0 ≤ p) : comTo (newLn n k).2 p = (k : Int) := by
  have h : ∀ j, comP (newLn n k).2 p j = (j : Int) := by
    intro j
    induction j with
    | zero => simp [comP]
    | succ j ih => simp only [comP, newLn_tr, ih, if_pos hp]; omega
  unfold comTo
  rw [h, (newLn_len n k).2]
theorem new_ok {n k : Nat} (hn : 1 ≤ n ∧ n ≤ 5) (hk : k ≤ 5) : lnB (newLn n k) = true := by
  refine lnB_yes ⟨by rw [(newLn_len n k).1]; exact hn, by rw [(newLn_len n k).2]; exact hk, fun i hi => ?_, fun q hq => ⟨?_, ?_⟩⟩
  · simp only [newLn_tr]; omega
  · rw [newLn_blk]; decide
  · rw [newLn_blk, cnt_new, if_neg (by omega)]; rfl
theorem new_left {n k : Nat} (hn : 1 ≤ n ∧ n ≤ 5) (hk : k ≤ 5) : leftV (newLn n k) = 5 * (n : Int) * k := by
  have h : ∀ j, leftP (newLn n k) j = (j : Int) * (5 * k) := by
    intro j
    induction j with
    | zero => simp [leftP]
    | succ j ih =>
      have e : evLeft nb (k : Int) = 5 * k := by simp [evLeft, nb]
      simp only [leftP, newLn_blk, com_new n k (show (0 : Int) ≤ 2 * (j : Int) by omega), ih, e, Int.natCast_succ, Int.add_mul, Int.one_mul]
  unfold leftV lnLeft
  rw [new_ok hn hk, if_pos rfl, h, (newLn_len n k).1]
  rw [← Int.mul_assoc, Int.mul_comm (n : Int) 5]
theorem new_done {n k : Nat} (hn : 1 ≤ n ∧ n ≤ 5) (hk : k ≤ 5) : doneV (newLn n k) = decide ((k : Int) = 0) := by
  unfold doneV
  rw [new_ok hn hk, Bool.true_and]
  by_cases e : k = 0
  · subst e
    rw [doneB_yes ⟨fun q _ => newLn_blk n 0 q, fun i hi => by rw [(newLn_len n 0).2] at hi; omega⟩]
    rfl
  · rw [doneB_no (fun h => by
      have := h.2 0 (by rw [(newLn_len n k).2]; omega)
      rw [newLn_tr, (newLn_len n k).1] at this
      omega)]
    simp; omega
theorem new_waits {n k : Nat} (hn : 1 ≤ n ∧ n ≤ 5) (hk : k ≤ 5) : waitsV (newLn n k) 0 = k := by
  unfold waitsV
  rw [if_pos ⟨new_ok hn hk, by omega, by omega⟩, cnt_new, if_pos (by omega)]

theorem OwnLine.first {w : World} {base n c : Nat} {a : Option Addr} {u : Value} {l : Ln} (h : OwnLine w base (.agg #[.slice a n c, u]) l) : n = l.1.length := by
  obtain ⟨u1, u2, e, h1, _⟩ := h
  obtain ⟨a', c', rfl⟩ := Ow.slice h1
  simp only [Value.agg.injEq, Array.mk.injEq, List.cons.injEq, Value.slice.injEq] at e
  exact e.1.2.1

/-- A drawn number of sections, and a drawn number of trains. -/
def DrawnNK (w : World) (e : Ending) (w' : World) : Prop := ∃ n k : Int, e = .returned (.tuple #[.int .i64 n, .int .i64 k]) ∧ (0 ≤ n ∧ n ≤ 6) ∧ (-1 ≤ k ∧ k ≤ 6) ∧ Below w.heap.size w w'

set_option maxHeartbeats 1000000 in
theorem drawLineNew {w : World} {a : Option Addr} {len cap : Nat} {zs : List Int} (h : IsRowK .u8 w a len cap zs) (hl : len ≤ 1048576) :
    Calls Try.prog 20 #[.slice a len cap] w (DrawnNK w) := by
  go_enter Try.func20, Try.ntmps20
  go_wp2_with (go_at_call 55; refine (openRd h hl).mono ?_)
  rintro e w1 ⟨g, rfl, hg, hr, b1⟩
  go_wp2_with (go_at_call 64; refine (pick hr (by omega) (by omega) (by omega)).mono ?_)
  rintro e w2 ⟨r, rfl, hr0, hr1, hrd, g2⟩
  have hr1' := hr1 (by omega)
  clear hr hr1
  go_wp2_with (go_at_call 64; refine (pick hrd (by omega) (by omega) (by omega)).mono ?_)
  rintro e w3 ⟨s, rfl, hs0, hs1, _, g3⟩
  have hs1' := hs1 (by omega)
  have hw : IntKind.i64.wrap (s - 1) = s - 1 := IntWalk.i64_in _ (by omega)
  have g4 := grown_trans g2 g3
  go_wp2_with fail
  exact bodyPost_ret (v := .tuple #[.int .i64 r, .int .i64 (s - 1)]) (by simp [results, Try.results20, go_sem]) rfl ⟨_, _, rfl, by omega, by omega, b1.grown g4 b1.size (fun k hk => by simp only [Option.some.injEq] at hk; omega)⟩

set_option maxHeartbeats 1000000 in
theorem sameLine {w : World} {u v : Value} {l : Ln} (h : LineV w u l) (h' : LineV w v l) :
    Calls Try.prog 23 #[u, v] w fun e w' => e = .returned (.bool true) ∧ Below w.heap.size w w' := by
  obtain ⟨u1, u2, rfl, i1, i2⟩ := h
  obtain ⟨v1, v2, rfl, j1, j2⟩ := h'
  have k1 : (l.1.length : Int) ≤ 1048576 := by have := Rd.len i1; omega
  obtain ⟨a1, c1, rfl⟩ := Rd.slice i1
  obtain ⟨a2, c2, rfl⟩ := Rd.slice j1
  have ea := below_alloc w (.cells #[.slice a1 l.1.length c1, u2] 26)
  have pa := Pair.new w (.slice a1 l.1.length c1) u2 26
  obtain ⟨Wa, hWa⟩ : ∃ W, W = w.alloc (.cells #[.slice a1 l.1.length c1, u2] 26) := ⟨_, rfl⟩
  have sa : Wa.heap.size = w.heap.size + 1 := by rw [hWa]; exact Go.Deep.nblk_alloc _ _
  rw [← hWa] at ea pa
  have eb := below_alloc Wa (.cells #[.slice a2 l.1.length c2, v2] 26)
  have pb := Pair.new Wa (.slice a2 l.1.length c2) v2 26
  obtain ⟨W, hW⟩ : ∃ W, W = Wa.alloc (.cells #[.slice a2 l.1.length c2, v2] 26) := ⟨_, rfl⟩
  rw [← hW] at eb pb
  rw [sa] at pb
  have E := Lib.hid (ea.trans (eb.mono ea.size))
  have PA := Lib.hid (pa.below eb)
  have PB := Lib.hid pb
  have HW := Lib.hid (show (w.alloc (.cells #[.slice a1 l.1.length c1, u2] 26)).alloc (.cells #[.slice a2 l.1.length c2, v2] 26) = W by rw [hW, hWa])
  have J1 := Lib.hid (fun (X : World) (c : Below W.heap.size W X) => And.intro ((Rd.below (Rd.below i1 E.out) c)) ((Rd.below (Rd.below j1 E.out) c)))
  have J2 := Lib.hid (And.intro (i2.below E.out) (j2.below E.out))
  clear ea eb pa pb sa hW hWa i1 i2 j1 j2
  go_enter Try.func23, Try.ntmps23
  go_upto_region 1 with fail
  rw [HW.out]
  have x0 := PA.out.cell0
  have x1 := PA.out.cell1
  have y0 := PB.out.cell0
  have y1 := PB.out.cell1
  have hss := sameInts J2.out.1 J2.out.2
  rw [show decide (l.2 = l.2) = true by simp] at hss
  go_wp2_with (go_at_call 66; refine hss.mono ?_)
  rintro e w1 ⟨rfl, b1⟩
  have PA := Lib.hid (PA.out.below b1)
  have PB := Lib.hid (PB.out.below b1)
  have E := Lib.hid (chain E.out b1)
  have J3 := Lib.hid (fun (X : World) (c : Below w1.heap.size w1 X) => J1.out X (chain b1 c))
  clear x0 x1 y0 y1 hss b1 J2 J1
  go_wp2_with fail
  go_loopw [5] (fun i wr => ∃ k : Nat, k ≤ l.1.length ∧ i = .int .i64 k ∧ Below w1.heap.size w1 wr) (fun i _ => l.1.length - (intOf i).toNat)
  case atStart => exact ⟨0, by omega, rfl, Below.refl _ _⟩
  case round =>
    obtain ⟨k, hk, rfl, hbel⟩ := hrel
    have x0 := (PA.out.below hbel).cell0
    have y0 := (PB.out.below hbel).cell0
    by_cases hlt : k < l.1.length
    · obtain ⟨jx, jy⟩ := J3.out wr hbel
      obtain ⟨b, o, rfl, hb, hcell⟩ := Blks.at jx hlt
      obtain ⟨b', o', rfl, hb', hcell'⟩ := Blks.at jy hlt
      obtain ⟨g0, g1, g2⟩ := hcell k hlt
      obtain ⟨q0, q1, q2⟩ := hcell' k hlt
      obtain ⟨x, hx⟩ : ∃ x, x = l.1.getD k nb := ⟨_, rfl⟩
      rw [← hx] at g0 g1 g2 q0 q1 q2
      have hi : (k : Int) < (l.1.length : Int) := by omega
      have en := neqBlk x x
      rw [show (!decide (x = x)) = false by simp] at en
      clear hx hcell hcell'
      go_wp2_with fail
      go_quiet (fail)
      go_wp2_with fail
      go_roundw
      case rel => exact ⟨k + 1, by omega, by go_num, below_drewN hbel _⟩
      case measure => simp [intOf]; omega
    · obtain rfl : k = l.1.length := by omega
      go_wp2_with fail
      go_ret
      exact ⟨rfl, chain E.out hbel⟩

end Go.Proofs.Ytoapfcnpmpggcaa
