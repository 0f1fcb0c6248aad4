/-
  A section is no busier than the time from its first to its last train, plainly; paths and a section drawn for it. For codes of at most 1048576 bytes.
-/
import Derived.Test.YtedbfmmklmidjaaDrawQ
import Derived.Test.YtedbfmmklmidjaaGapP
namespace Go.Proofs.Ytedbfmmklmidjaa
open Go.RowKit Go.Sort

/-- A list added up by a function. -/
def addUp (f : Int → Int) : List Int → Int
  | [] => 0
  | x :: xs => f x + addUp f xs
theorem addUp_perm {f : Int → Int} {xs ys : List Int} (h : xs.Perm ys) : addUp f xs = addUp f ys := by
  induction h with
  | nil => rfl
  | cons x _ ih => simp only [addUp, ih]
  | swap x y l => simp only [addUp]; omega
  | trans _ _ h1 h2 => exact h1.trans h2
theorem addUp_append (f : Int → Int) (xs ys : List Int) : addUp f (xs ++ ys) = addUp f xs + addUp f ys := by
  induction xs with
  | nil => show addUp f ys = 0 + addUp f ys; omega
  | cons x xs ih => rw [List.cons_append]; simp only [addUp, ih]; omega
/-- How long a train is in a section. -/
def stay (ps : List (List Int × List Int)) (k : Nat) (y : Int) : Int := outAt ps k y.toNat - inAt ps k y.toNat
theorem busy_all (ps : List (List Int × List Int)) (k : Nat) : ∀ i, busyTo ps k i = addUp (stay ps k) (upTo i) := by
  intro i
  induction i with
  | zero => rfl
  | succ i ih =>
    rw [upTo_succ, addUp_append, ← ih]
    show busyTo ps k i + _ = busyTo ps k i + (stay ps k (i : Int) + 0)
    unfold stay outAt inAt
    rw [Int.toNat_natCast]
    omega
theorem take_next_int (L : List Int) {j : Nat} (h : j < L.length) : L.take (j + 1) = L.take j ++ [L.getD j 0] := by
  rw [List.take_add_one, List.getD_eq_getElem?_getD, List.getElem?_eq_getElem h]
  rfl
theorem stay_to {ps : List (List Int × List Int)} {k : Nat} {L : List Int} {G : Int} (hG : ∀ j, j + 1 < L.length → G ≤ dOf ps k (L.getD (j + 1) 0).toNat (L.getD j 0).toNat) : ∀ j, j < L.length → addUp (stay ps k) (L.take (j + 1)) + G * j ≤ outAt ps k (L.getD j 0).toNat - inAt ps k (L.getD 0 0).toNat := by
  intro j
  induction j with
  | zero =>
    intro h
    rw [take_next_int L h, addUp_append]
    show addUp (stay ps k) [] + (stay ps k (L.getD 0 0) + 0) + G * ((0 : Nat) : Int) ≤ _
    have e : addUp (stay ps k) [] = 0 := rfl
    have e2 : G * ((0 : Nat) : Int) = 0 := Int.mul_zero _
    unfold stay at *
    omega
  | succ j ih =>
    intro h
    have q := ih (by omega)
    have g := hG j h
    rw [take_next_int L h, addUp_append]
    have e : addUp (stay ps k) [L.getD (j + 1) 0] = stay ps k (L.getD (j + 1) 0) := by show _ + (0 : Int) = _; omega
    have e2 : G * ((j + 1 : Nat) : Int) = G * (j : Int) + G := by rw [Int.natCast_add, Int.mul_add]; show G * (j : Int) + G * 1 = _; omega
    rw [e, e2]
    unfold stay dOf at *
    omega
theorem busy_fits {n : Int} {ps : List (List Int × List Int)} {k m : Nat} (_h : pathsB n ps = true) (hm : m + 1 = ps.length) : busyTo ps k ps.length + gapTo ps k (orderOf ps k) (ps.length - 1) * m ≤ outAt ps k ((orderOf ps k).getD m 0).toNat - inAt ps k ((orderOf ps k).getD 0 0).toNat := by
  have hl := order_len ps k
  have q := stay_to (ps := ps) (k := k) (L := orderOf ps k) (G := gapTo ps k (orderOf ps k) (ps.length - 1)) (fun j hj => gapTo_le _ j (by omega)) m (by omega)
  rw [List.take_of_length_le (by omega)] at q
  rw [busy_all, ← addUp_perm (ordTo_perm (inF ps k) ps.length)]
  exact q

set_option maxRecDepth 100000 in
set_option maxHeartbeats 1000000 in
theorem drawBusy {w : World} {a : Option Addr} {len cap : Nat} {zs : List Int} (h : IsRowK .u8 w a len cap zs) (hl : len ≤ 1048576) :
    Calls Try.prog 61 #[.slice a len cap] w (DrawnSec w) := by
  have OP := Lib.hid (drawOrder h hl)
  clear h
  go_enter Try.func61, Try.ntmps61
  go_wp2_with (go_at_call 46; refine OP.out.mono ?_)
  rintro e w1 ⟨n, b, c, vs, ps, k, rfl, hn1, hn4, hpl, hk0, hk1, lq, b1⟩
  have LO := Lib.hid (And.intro lq b1)
  clear lq b1 OP
  go_wp2_with fail
  exact bodyPost_ret (v := .tuple #[.int .i64 n, .slice (some ⟨b, 0, none⟩) ps.length c, .int .i64 k]) (by simp [results, Try.results61, go_sem]) rfl ⟨n, b, c, vs, ps, k, rfl, hn1, hn4, hpl, hk0, hk1, LO.out.1, LO.out.2⟩

end Go.Proofs.Ytedbfmmklmidjaa
