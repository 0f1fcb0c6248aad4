/-
  The outlooks of all that can be left of a ring, by the program. For a book, and a ring of at most 20 groups.
-/
import Derived.Test.YtcfnklpbiodhjaaOutlook
import Derived.Test.YtcfnklpbiodhjaaGoods
import Derived.Test.YtcfnklpbiodhjaaReads
import Derived.Carry
namespace Go.Proofs.Ytcfnklpbiodhjaa
open Go.RowKit Go.Maps Go.ChangeMaps

theorem frame_of (tm : Array Value) (n : Nat) (h : tm.size = n) : tm = ((List.range n).map fun i => tm.getD i undef).toArray := by
  apply Array.ext
  · simp [h]
  · intro i h1 h2
    simp [h1]

/-- The outlooks from place lo on are known. -/
def KnowsFrom (f : ByteArray → Tri) (t : Nat → Tri) (rs : List Int) (lo : Nat) : Prop := ∀ q, lo ≤ q → q ≤ rs.length → f (dgS (rs.drop q)) = t q
/-- What the program's outlooks hand back. -/
def OutlooksRes (w : World) (bk : List (List Int)) (rs : List Int) (e : Ending) (w' : World) : Prop :=
  ∃ b n f, e = .returned (.map (some b)) ∧ Knows w' b n f ∧ KnowsFrom f (tab bk rs rs.length) rs 0 ∧ Below w.heap.size w w'

theorem KnowsFrom.next {f : ByteArray → Tri} {bk : List (List Int)} {rs : List Int} {p d : Nat} (h : KnowsFrom f (tab bk rs d) rs (p + 1)) (hp : p + (d + 1) = rs.length) :
    KnowsFrom (fun s => if s = dgS (rs.drop p) then rowTo (tab bk rs d) bk rs p bk.length else f s) (tab bk rs (d + 1)) rs p := by
  intro q h1 h2
  show (if dgS (rs.drop q) = dgS (rs.drop p) then _ else _ : Tri) = _
  by_cases e : q = p
  · subst e
    rw [if_pos rfl, tab_last _ _ _ _ hp]
  · rw [if_neg, tab_else _ _ _ _ (by omega)]
    · exact h q (by omega) h2
    · intro e2
      have := congrArg ByteArray.size e2
      rw [dgS_size, dgS_size, List.length_drop, List.length_drop] at this
      omega

/-- The map knows the outlooks from place p on, of the last d places. -/
def Outl (w0 : World) (B : Nat) (bk : List (List Int)) (rs : List Int) (N d p : Nat) (w : World) : Prop := ∃ n f, n ≤ N ∧ Knows w B n f ∧ KnowsFrom f (tab bk rs d) rs p ∧ Below w0.heap.size w0 w
/-- Ahead of the store, and behind it. -/
def Rout (w0 : World) (B : Nat) (bk : List (List Int)) (rs : List Int) (N d p : Nat) (m : Nat) (w : World) : Prop :=
  match m with
  | 0 => Outl w0 B bk rs (N + 1) (d + 1) p w
  | 1 => Outl w0 B bk rs N d (p + 1) w
  | _ => False
theorem Outl.below {w0 w w' : World} {B N d p : Nat} {bk : List (List Int)} {rs : List Int} (h : Outl w0 B bk rs N d p w) (hb : Below w.heap.size w w') : Outl w0 B bk rs N d p w' := by
  obtain ⟨n, f, hn, hk, hf, hbel⟩ := h
  exact ⟨n, f, hn, hk.below hb, hf, hbel.trans (hb.mono hbel.size)⟩
theorem Rout.below {w0 w w' : World} {B N d p m : Nat} {bk : List (List Int)} {rs : List Int} (h : Rout w0 B bk rs N d p m w) (hb : Below w.heap.size w w') : Rout w0 B bk rs N d p m w' := by
  unfold Rout at h ⊢
  split at h
  · exact h.below hb
  · exact h.below hb
  · exact h
/-- Both know what an outlook needs. -/
theorem Rout.aware {w0 w : World} {B N d p m : Nat} {bk : List (List Int)} {rs : List Int} (h : Rout w0 B bk rs N d p m w) (hp : p + (d + 1) = rs.length) :
    Below w0.heap.size w0 w ∧ ∃ n f, Knows w B n f ∧ ∀ q, p < q → q ≤ rs.length → f (dgS (rs.drop q)) = tab bk rs d q := by
  unfold Rout at h
  split at h
  · obtain ⟨n, f, hn, hk, hf, hb⟩ := h
    exact ⟨hb, n, f, hk, fun q h1 h2 => by rw [hf q (by omega) h2, tab_else _ _ _ _ (by omega)]⟩
  · obtain ⟨n, f, hn, hk, hf, hb⟩ := h
    exact ⟨hb, n, f, hk, fun q h1 h2 => hf q (by omega) h2⟩
  · exact h.elim

/-- What is good in the region that stores an outlook. -/
def Gout (B : Nat) (S E : ByteArray) (q : Nat) (u r : Value) (i : Nat) (v : Value) (_ : World) : Prop :=
  match i with
  | 0 => v = .map (some B)
  | 1 => v = .string S
  | 2 => v = .int .i64 q
  | 3 => v = .string E
  | 4 => v = .string S
  | 5 => v = .int .i64 q
  | 6 => v = .string E
  | 7 => v = u
  | 8 => v = .map (some B)
  | 9 => v = r
  | _ => True

set_option maxHeartbeats 1000000 in
theorem implOutlooks {w : World} {u : Value} {bk : List (List Int)} {rs : List Int} (hS : Strs w u (bk.map dgS)) (hv : bookB bk = true) (hok : okGroups rs = true) (hrl : rs.length ≤ 20) :
    Calls Try.prog 25 #[.string (dgS rs), u] w (OutlooksRes w bk rs) := by
  obtain ⟨S, hS'⟩ : ∃ S, S = dgS rs := ⟨_, rfl⟩
  have hss : S.size = rs.length := by rw [hS', dgS_size]
  rw [← hS']
  have HSS := Lib.hid hss
  have HSE := Lib.hid hS'
  have HSU := Lib.hid hS
  have HV := Lib.hid hv
  have HOK := Lib.hid hok
  have hsl : (S.size : Int) ≤ 20 := by omega
  clear hss hS' hS hv hok
  go_enter Try.func25, Try.ntmps25
  go_wp2_with fail
  rw [run_makeMap]
  go_wp2_with fail
  obtain ⟨w2, hrun, hk2, hg2⟩ := (Knows.made w).update (by simp [maxLen]) (s := ⟨#[]⟩) (Nat.zero_le _) (1, 0, 0)
  have hb2 : Below w.heap.size w w2 := ((Below.refl w.heap.size w).alloc (Nat.le_refl _) (.map #[] 0)).grown hg2 (by simp) (by intro k hk; simp at hk; omega)
  have HK2 := Lib.hid hk2
  have HF2 := Lib.hid (show KnowsFrom (fun t => if t = (⟨#[]⟩ : ByteArray) then (1, 0, 0) else (0, 0, 0)) (tab bk rs 0) rs rs.length from fun q h1 h2 => by
    obtain rfl : q = rs.length := by omega
    show (if dgS (rs.drop rs.length) = _ then _ else _ : Tri) = _
    rw [if_pos (by rw [List.drop_length]; rfl)]
    simp [tab])
  rw [show Value.agg #[Value.int .i64 1, Value.int .i64 0, Value.int .i64 0] = tri (1, 0, 0) from rfl, hrun]
  clear hrun hg2 hk2
  go_wp2_with fail
  rw [HSS.out]
  have hrl' : (rs.length : Int) ≤ 20 := by omega
  go_loopw [6] (fun i wr => ∃ (p d n : Nat) (f : ByteArray → Tri), p + d = rs.length ∧ i = .int .i64 ((p : Int) - 1) ∧ n ≤ d + 1 ∧ Knows wr w.heap.size n f ∧ KnowsFrom f (tab bk rs d) rs p ∧ Below w.heap.size w wr) (fun i _ => (intOf i + 1).toNat)
  case atStart =>
    exact ⟨rs.length, 0, 1, _, by omega, rfl, by omega, HK2.out, HF2.out, hb2⟩
  case round =>
    clear HK2 HF2 hb2
    obtain ⟨p, d, n, f, hpd, rfl, hn, hk, hf, hbel⟩ := hrel
    have HK := Lib.hid hk
    have HF := Lib.hid hf
    clear hk hf
    by_cases hp : p = 0
    · subst hp
      go_wp2_with fail
      go_ret
      exact ⟨_, _, _, rfl, HK.out, by rw [show rs.length = d by omega]; exact HF.out, hbel⟩
    · obtain ⟨q, rfl⟩ : ∃ q, p = q + 1 := ⟨p - 1, by omega⟩
      have hq : ((q + 1 : Nat) : Int) - 1 = (q : Int) := by omega
      rw [hq]
      clear hq hp
      obtain ⟨E, hE⟩ : ∃ E, E = dgS (rs.drop q) := ⟨_, rfl⟩
      have hSE : S.extract q S.size = E := by
        rw [hE, HSE.out, dgS_size]
        have := dgS_drop rs 0 q (by omega)
        simpa using this
      have hqs : (q : Int) ≤ (S.size : Int) := by rw [HSS.out]; omega
      have hEs : E.size ≤ maxLen := by rw [hE, dgS_size, List.length_drop]; simp only [maxLen]; omega
      have HE := Lib.hid hE
      have HES := Lib.hid hSE
      have HEZ := Lib.hid hEs
      clear hE hSE hEs
      go_wp2_with fail
      refine wp_region_goods (G := Gout w.heap.size S E q u (tri (rowTo (tab bk rs d) bk rs q bk.length))) (c := fun i => i == 10) (R := Rout w w.heap.size bk rs (d + 1) d q) (T := fun _ _ => True) (by kernel_rfl) (by kernel_rfl) ?start (fun _ _ _ _ _ h => h) ⟨?s0, ?s1, ?s2, ?s3, ?s4, ?s5, ?s6, ?s7, ?s8, ?s9, ?s10, trivial⟩ ?hend
      case start =>
        show Outl w w.heap.size bk rs (d + 1) d (q + 1) _
        exact ⟨n, f, hn, HK.out.below ⟨rfl, rfl, rfl, Nat.le_refl _, fun _ _ => rfl⟩, HF.out, hbel.trans ⟨rfl, rfl, rfl, Nat.le_refl _, fun _ _ => rfl⟩⟩
      case s0 =>
        intro a' w' m hR hrest _ K hK
        have e : a'.tmps.getD 5 undef = .map (some w.heap.size) := hrest 5 (by kernel_rfl)
        go_simp
        exact hK _ _ rfl hR trivial
      case s1 =>
        intro a' w' m hR hrest _ K hK
        have e : a'.tmps.getD 0 undef = .string S := hrest 0 (by kernel_rfl)
        go_simp
        exact hK _ _ rfl hR trivial
      case s2 =>
        intro a' w' m hR hrest _ K hK
        have e : a'.tmps.getD 6 undef = .int .i64 q := hrest 6 (by kernel_rfl)
        go_simp
        exact hK _ _ rfl hR trivial
      case s3 =>
        intro a' w' m hR _ hdep K hK
        have e : a'.tmps.getD 18 undef = .string S := hdep 1 (by kernel_rfl)
        have e2 : a'.tmps.getD 19 undef = .int .i64 q := hdep 2 (by kernel_rfl)
        have e' := slot_of e
        have e2' := slot_of e2
        go_simp
        exact hK (.string (S.extract q S.size)) _ (by show Value.string _ = _; rw [HES.out]) hR trivial
      case s4 =>
        intro a' w' m hR hrest _ K hK
        have e : a'.tmps.getD 0 undef = .string S := hrest 0 (by kernel_rfl)
        go_simp
        exact hK _ _ rfl hR trivial
      case s5 =>
        intro a' w' m hR hrest _ K hK
        have e : a'.tmps.getD 6 undef = .int .i64 q := hrest 6 (by kernel_rfl)
        go_simp
        exact hK _ _ rfl hR trivial
      case s6 =>
        intro a' w' m hR _ hdep K hK
        have e : a'.tmps.getD 21 undef = .string S := hdep 4 (by kernel_rfl)
        have e2 : a'.tmps.getD 22 undef = .int .i64 q := hdep 5 (by kernel_rfl)
        have e' := slot_of e
        have e2' := slot_of e2
        go_simp
        exact hK (.string (S.extract q S.size)) _ (by show Value.string _ = _; rw [HES.out]) hR trivial
      case s7 =>
        intro a' w' m hR hrest _ K hK
        have e : a'.tmps.getD 1 undef = u := hrest 1 (by kernel_rfl)
        go_simp
        exact hK _ _ rfl hR trivial
      case s8 =>
        intro a' w' m hR hrest _ K hK
        have e : a'.tmps.getD 5 undef = .map (some w.heap.size) := hrest 5 (by kernel_rfl)
        go_simp
        exact hK _ _ rfl hR trivial
      case s9 =>
        intro a' w' m hR _ hdep K hK
        have e : a'.tmps.getD 23 undef = .string E := hdep 6 (by kernel_rfl)
        have e2 : a'.tmps.getD 24 undef = u := hdep 7 (by kernel_rfl)
        have e3 : a'.tmps.getD 25 undef = .map (some w.heap.size) := hdep 8 (by kernel_rfl)
        have e' := slot_of e
        have e2' := slot_of e2
        have e3' := slot_of e3
        have hR' : Rout w w.heap.size bk rs (d + 1) d q m w' := hR
        obtain ⟨hb', n', f', hk', hf'⟩ := hR'.aware (by omega)
        have HC := Lib.hid (implOutlook (w := w') (u := u) (b := w.heap.size) (HSU.out.below hb') hk' HV.out HOK.out hrl (by omega) hf' (fun q' _ _ => tab_ok (lens_of HV.out) (by have := (bookB_is HV.out).2; omega) d q'))
        clear hf' hk'
        go_simp
        rw [HE.out]
        refine HC.out.mono ?_
        rintro e w4 ⟨rfl, b4⟩
        exact hK (tri _) w4 rfl (hR'.below b4) trivial
      case s10 =>
        intro a' w' m hR _ hdep K hK
        have e : a'.tmps.getD 17 undef = .map (some w.heap.size) := hdep 0 (by kernel_rfl)
        have e2 : a'.tmps.getD 20 undef = .string E := hdep 3 (by kernel_rfl)
        have e3 : a'.tmps.getD 26 undef = tri (rowTo (tab bk rs d) bk rs q bk.length) := hdep 9 (by kernel_rfl)
        have e' := slot_of e
        have e2' := slot_of e2
        have e3' := slot_of e3
        have hR' : Rout w w.heap.size bk rs (d + 1) d q (m + 1) w' := hR
        match m, hR', hK with
        | 0, hR', hK =>
          obtain ⟨n', f', hn', hk', hf', hb'⟩ : Outl w w.heap.size bk rs (d + 1) d (q + 1) w' := hR'
          obtain ⟨w4, hrun, hk4, hg4⟩ := hk'.update (by simp only [maxLen]; omega) HEZ.out (rowTo (tab bk rs d) bk rs q bk.length)
          have hR4 : Rout w w.heap.size bk rs (d + 1) d q 0 w4 := by
            refine ⟨n' + 1, _, by omega, hk4, ?_, hb'.grown hg4 hb'.size (by intro k hk; simp at hk; omega)⟩
            rw [HE.out]
            exact hf'.next (by omega)
          have HR4 := Lib.hid hR4
          clear hk4 hf' hk' hR4 hg4 hb'
          go_simp
          exact hK undef w4 trivial HR4.out trivial
        | k + 1, hR', hK => exact hR'.elim
      case hend =>
        rintro ⟨tm, df⟩ w' hsz hdf hR hrest _
        have hdf' : df = [] := hdf
        subst hdf'
        obtain ⟨n', f', hn', hk', hf', hb'⟩ : Outl w w.heap.size bk rs (d + 1 + 1) (d + 1) q w' := hR
        have hsz : tm.size = 28 := hsz
        have e0 : tm.getD 0 undef = .string S := hrest 0 (by kernel_rfl)
        have e1 : tm.getD 1 undef = u := hrest 1 (by kernel_rfl)
        have e2 : tm.getD 2 undef = undef := hrest 2 (by kernel_rfl)
        have e3 : tm.getD 3 undef = undef := hrest 3 (by kernel_rfl)
        have e4 : tm.getD 4 undef = .map none := hrest 4 (by kernel_rfl)
        have e5 : tm.getD 5 undef = .map (some w.heap.size) := hrest 5 (by kernel_rfl)
        have e6 : tm.getD 6 undef = .int .i64 q := hrest 6 (by kernel_rfl)
        have e7 : tm.getD 7 undef = .map (some w.heap.size) := hrest 7 (by kernel_rfl)
        have e8 : tm.getD 8 undef = tri (1, 0, 0) := hrest 8 (by kernel_rfl)
        have e9 : tm.getD 9 undef = .map (some w.heap.size) := hrest 9 (by kernel_rfl)
        have e10 : tm.getD 10 undef = .string S := hrest 10 (by kernel_rfl)
        have e11 : tm.getD 11 undef = .int .i64 rs.length := hrest 11 (by kernel_rfl)
        have e12 : tm.getD 12 undef = .int .i64 (rs.length - 1) := hrest 12 (by kernel_rfl)
        have e13 : tm.getD 13 undef = .int .i64 q := hrest 13 (by kernel_rfl)
        have e14 : tm.getD 14 undef = .bool true := hrest 14 (by kernel_rfl)
        have e15 : tm.getD 15 undef = u15 := hrest 15 (by kernel_rfl)
        have e16 : tm.getD 16 undef = u16 := hrest 16 (by kernel_rfl)
        have e27 : tm.getD 27 undef = undef := hrest 27 (by kernel_rfl)
        clear hrest
        have htm := frame_of tm 28 hsz
        simp only [show List.range 28 = [0, 1, 2, 3, 4, 5, 6, 7, 8, 9, 10, 11, 12, 13, 14, 15, 16, 17, 18, 19, 20, 21, 22, 23, 24, 25, 26, 27] from rfl, List.map] at htm
        generalize tm.getD 0 undef = x0 at *
        generalize tm.getD 1 undef = x1 at *
        generalize tm.getD 2 undef = x2 at *
        generalize tm.getD 3 undef = x3 at *
        generalize tm.getD 4 undef = x4 at *
        generalize tm.getD 5 undef = x5 at *
        generalize tm.getD 6 undef = x6 at *
        generalize tm.getD 7 undef = x7 at *
        generalize tm.getD 8 undef = x8 at *
        generalize tm.getD 9 undef = x9 at *
        generalize tm.getD 10 undef = x10 at *
        generalize tm.getD 11 undef = x11 at *
        generalize tm.getD 12 undef = x12 at *
        generalize tm.getD 13 undef = x13 at *
        generalize tm.getD 14 undef = x14 at *
        generalize tm.getD 15 undef = x15 at *
        generalize tm.getD 16 undef = x16 at *
        generalize tm.getD 17 undef = x17 at *
        generalize tm.getD 18 undef = x18 at *
        generalize tm.getD 19 undef = x19 at *
        generalize tm.getD 20 undef = x20 at *
        generalize tm.getD 21 undef = x21 at *
        generalize tm.getD 22 undef = x22 at *
        generalize tm.getD 23 undef = x23 at *
        generalize tm.getD 24 undef = x24 at *
        generalize tm.getD 25 undef = x25 at *
        generalize tm.getD 26 undef = x26 at *
        generalize tm.getD 27 undef = x27 at *
        subst htm
        subst e0 e1 e2 e3 e4 e5 e6 e7 e8 e9 e10 e11 e12 e13 e14 e15 e16 e27
        have HK2 := Lib.hid hk'
        have HF2 := Lib.hid hf'
        clear hk' hf' hsz
        go_wp2_with fail
        go_roundw
        case rel => exact ⟨q, d + 1, n', f', by omega, by go_num, by omega, HK2.out, HF2.out, hb'⟩
        case measure => simp [intOf]

end Go.Proofs.Ytcfnklpbiodhjaa
