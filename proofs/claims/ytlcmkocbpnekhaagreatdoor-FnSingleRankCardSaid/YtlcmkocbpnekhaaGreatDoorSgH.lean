/-
  All orders of so many trains, visited with a callback: what the program's visitOrders does. For texts of at most 1048576 bytes.
-/
import Derived.Test.YtlcmkocbpnekhaaGreatDoorSgG
namespace Go.Proofs.YtlcmkocbpnekhaaGreatDoor
open Go.RowKit Go.Sort

def sD : ByteArray := ⟨#[68]⟩
def sU : ByteArray := ⟨#[85]⟩
/-- All orders of so many trains, byte by byte. -/
def allF : Nat → Nat → Nat → List ByteArray
  | 0, _, _ => [⟨#[]⟩]
  | n + 1, u, d => (if 0 < d then (allF n u (d - 1)).map (fun o => sD ++ o) else []) ++ (if 0 < u then (allF n (u - 1) d).map (fun o => sU ++ o) else [])

theorem ba_assoc (a b c : ByteArray) : a ++ b ++ c = a ++ (b ++ c) := by
  apply ByteArray.ext; simp
theorem ba_nil (a : ByteArray) : a ++ (⟨#[]⟩ : ByteArray) = a := by
  apply ByteArray.ext; simp

theorem add_text (A B : ByteArray) (h : A.size + B.size ≤ 9223372036854775807) : ∀ w, (Op.stringOp .add A B).run Tryz.prog w = .ok (.string (A ++ B)) w := fun w => run_string_add_sum (P := Tryz.prog) w A B (by omega)
theorem map_put (a b : ByteArray) (l : List ByteArray) : (l.map (fun o => b ++ o)).map (fun o => a ++ o) = l.map (fun o => a ++ b ++ o) := by
  rw [List.map_map]
  apply List.map_congr_left
  intro o _
  exact (ba_assoc a b o).symm

set_option maxRecDepth 100000 in
set_option maxHeartbeats 2000000 in
theorem visit {N : Nat} {caps : Array Value} {Inv : List ByteArray → World → Prop} (HC : ∀ (args : Array Value) (X : World), (callFunc N args).run Tryz.prog X = .ok (.enter N args) X)
    (CB : ∀ (done : List ByteArray) (X : World) (o : ByteArray), o.size ≤ 12 → done.length < 4096 → Inv done X → Calls Tryz.prog N (#[.string o] ++ caps) X fun e X' => e = .returned (.tuple #[]) ∧ Inv (done ++ [o]) X') :
    ∀ (n u d : Nat) (others : ByteArray) (done : List ByteArray) (w : World), u + d = n → others.size + n ≤ 12 → done.length + (allF n u d).length ≤ 4096 → Inv done w →
      Calls Tryz.prog 34 #[.string others, .int .i64 u, .int .i64 d, .func (.func N) #[] caps] w fun e w' => e = .returned (.tuple #[]) ∧ Inv (done ++ (allF n u d).map (fun o => others ++ o)) w' := by
  intro n
  induction n with
  | zero =>
    intro u d others done w hud hsz hlen hI
    obtain rfl : u = 0 := by omega
    obtain rfl : d = 0 := by omega
    have C := Lib.hid (CB done w others (by omega) (by simp [allF] at hlen; omega) hI)
    have E := Lib.hid (show done ++ (allF 0 0 0).map (fun o => others ++ o) = done ++ [others] by simp [allF, ba_nil])
    rw [E.out]
    clear CB hI E hlen
    go_enter Tryz.func34, Tryz.ntmps34
    go_wp2_with fail
    refine Calls.mono C.out ?_
    rintro e X' ⟨rfl, hI'⟩
    go_wp2_with fail
    exact bodyPost_ret (v := .tuple #[]) (by simp [results, Tryz.results34, go_sem]) rfl ⟨rfl, hI'⟩
  | succ n ih =>
    intro u d others done w hud hsz hlen hI
    have IH := Lib.hid ih
    clear ih
    have pd := add_text others ⟨#[68]⟩ (by rw [show (⟨#[68]⟩ : ByteArray).size = 1 from rfl]; omega)
    have pu := add_text others ⟨#[85]⟩ (by rw [show (⟨#[85]⟩ : ByteArray).size = 1 from rfl]; omega)
    have sd : (others ++ (⟨#[68]⟩ : ByteArray)).size = others.size + 1 := by rw [ByteArray.size_append]; rfl
    have su : (others ++ (⟨#[85]⟩ : ByteArray)).size = others.size + 1 := by rw [ByteArray.size_append]; rfl
    have hu12 : (u : Int) ≤ 12 := by omega
    have hd12 : (d : Int) ≤ 12 := by omega
    have hn0 : ((u : Int) == 0 && (d : Int) == 0) = false := by
      cases h1 : ((u : Int) == 0) <;> simp at h1 ⊢
      omega
    rcases Nat.eq_zero_or_pos d with hd | hd
    · subst hd
      have hu : 0 < u := by omega
      obtain ⟨v, rfl⟩ : ∃ v, u = v + 1 := ⟨u - 1, by omega⟩
      have E := Lib.hid (show done ++ (allF (n + 1) (v + 1) 0).map (fun o => others ++ o) = done ++ (allF n v 0).map (fun o => others ++ ⟨#[85]⟩ ++ o) by
        simp only [allF, Nat.lt_irrefl, if_false, List.nil_append, Nat.zero_lt_succ, if_true, Nat.add_sub_cancel]
        rw [map_put]; rfl)
      have C := Lib.hid (IH.out v 0 (others ++ ⟨#[85]⟩) done w (by omega) (by omega) (by simp only [allF, Nat.lt_irrefl, if_false, List.nil_append, Nat.zero_lt_succ, if_true, Nat.add_sub_cancel, List.length_map] at hlen; exact hlen) hI)
      rw [E.out]
      obtain ⟨ou, hou⟩ : ∃ x, x = others ++ (⟨#[85]⟩ : ByteArray) := ⟨_, rfl⟩
      rw [← hou] at pu C su ⊢
      obtain ⟨kv, hkv⟩ : ∃ x, x = v + 1 := ⟨_, rfl⟩
      have t1 : ((kv : Int) == 0) = false := by rw [hkv]; simp; omega
      have hw : IntKind.i64.wrap ((kv : Int) - 1) = (v : Int) := by rw [hkv, show (((v + 1 : Nat) : Int)) - 1 = (v : Int) by omega]; exact IntWalk.i64_in _ (by omega)
      have t2 : (0 : Int) < (kv : Int) := by omega
      rw [← hkv] at hu12 ⊢
      clear hI pd sd hn0 hkv hou E hu hud hsz su CB hlen
      go_enter Tryz.func34, Tryz.ntmps34
      go_wp2_with (go_at_call 34; refine C.out.mono ?_; rintro e X' ⟨rfl, hI'⟩)
      go_end0
      exact ⟨rfl, hI'⟩
    · obtain ⟨b, rfl⟩ : ∃ b, d = b + 1 := ⟨d - 1, by omega⟩
      have CD := Lib.hid (IH.out u b (others ++ ⟨#[68]⟩) done w (by omega) (by omega) (by simp only [allF, Nat.zero_lt_succ, if_true, Nat.add_sub_cancel, List.length_append, List.length_map] at hlen; omega) hI)
      obtain ⟨kd, hkd⟩ : ∃ x, x = b + 1 := ⟨_, rfl⟩
      have hwd : IntKind.i64.wrap ((kd : Int) - 1) = (b : Int) := by rw [hkd, show (((b + 1 : Nat) : Int)) - 1 = (b : Int) by omega]; exact IntWalk.i64_in _ (by omega)
      have t3 : (0 : Int) < (kd : Int) := by omega
      have t4 : ((kd : Int) == 0) = false := by rw [hkd]; simp; omega
      rcases Nat.eq_zero_or_pos u with hu | hu
      · subst hu
        have E := Lib.hid (show done ++ (allF (n + 1) 0 (b + 1)).map (fun o => others ++ o) = done ++ (allF n 0 b).map (fun o => others ++ ⟨#[68]⟩ ++ o) by
          simp only [allF, Nat.lt_irrefl, if_false, List.append_nil, Nat.zero_lt_succ, if_true, Nat.add_sub_cancel]
          rw [map_put]; rfl)
        rw [E.out]
        obtain ⟨od, hod⟩ : ∃ x, x = others ++ (⟨#[68]⟩ : ByteArray) := ⟨_, rfl⟩
        rw [← hod] at pd CD sd ⊢
        rw [← hkd] at hd12 ⊢
        clear hI pu su hn0 hkd hod E hud hsz sd CB hd hlen
        go_enter Tryz.func34, Tryz.ntmps34
        go_wp2_with (go_at_call 34; refine CD.out.mono ?_; rintro e X' ⟨rfl, hI'⟩)
        go_end0
        exact ⟨rfl, hI'⟩
      · obtain ⟨v, rfl⟩ : ∃ v, u = v + 1 := ⟨u - 1, by omega⟩
        have E := Lib.hid (show done ++ (allF (n + 1) (v + 1) (b + 1)).map (fun o => others ++ o) = (done ++ (allF n (v + 1) b).map (fun o => others ++ ⟨#[68]⟩ ++ o)) ++ (allF n v (b + 1)).map (fun o => others ++ ⟨#[85]⟩ ++ o) by
          simp only [allF, Nat.zero_lt_succ, if_true, Nat.add_sub_cancel]
          rw [List.map_append, map_put, map_put, List.append_assoc]; rfl)
        have CU := Lib.hid (fun (X : World) (hX : Inv (done ++ (allF n (v + 1) b).map (fun o => others ++ ⟨#[68]⟩ ++ o)) X) => IH.out v (b + 1) (others ++ ⟨#[85]⟩) _ X (by omega) (by omega) (by simp only [allF, Nat.zero_lt_succ, if_true, Nat.add_sub_cancel, List.length_append, List.length_map] at hlen ⊢; omega) hX)
        rw [E.out]
        obtain ⟨od, hod⟩ : ∃ x, x = others ++ (⟨#[68]⟩ : ByteArray) := ⟨_, rfl⟩
        obtain ⟨ou, hou⟩ : ∃ x, x = others ++ (⟨#[85]⟩ : ByteArray) := ⟨_, rfl⟩
        rw [← hod] at pd CD CU ⊢
        rw [← hou] at pu CU ⊢
        obtain ⟨kv, hkv⟩ : ∃ x, x = v + 1 := ⟨_, rfl⟩
        have t1 : ((kv : Int) == 0) = false := by rw [hkv]; simp; omega
        have hw : IntKind.i64.wrap ((kv : Int) - 1) = (v : Int) := by rw [hkv, show (((v + 1 : Nat) : Int)) - 1 = (v : Int) by omega]; exact IntWalk.i64_in _ (by omega)
        have t2 : (0 : Int) < (kv : Int) := by omega
        rw [← hkv] at hu12 CD CU ⊢
        rw [← hkd] at hd12 CU ⊢
        clear hI hn0 hkd hod hou E hud hsz sd su CB hd hkv hu hlen
        go_enter Tryz.func34, Tryz.ntmps34
        go_wp2_with (first
          | (go_at_call_of 34 (Value.string od); refine CD.out.mono ?_; rintro e X' ⟨rfl, hI'⟩)
          | (go_at_call_of 34 (Value.string ou); refine (CU.out _ hI').mono ?_; rintro e X2 ⟨rfl, hI2⟩))
        go_end0
        exact ⟨rfl, hI2⟩

theorem allF_len (n u d : Nat) : (allF n u d).length ≤ 2 ^ n := by
  induction n generalizing u d with
  | zero => simp [allF]
  | succ n ih =>
    have h1 := ih u (d - 1)
    have h2 := ih (u - 1) d
    have h3 : 2 ^ (n + 1) = 2 ^ n + 2 ^ n := by rw [Nat.pow_succ]; omega
    simp only [allF, List.length_append]
    split <;> split <;> simp only [List.length_map, List.length_nil] <;> omega
theorem allF_many {n u d : Nat} (hn : n ≤ 12) : (allF n u d).length ≤ 4096 := by
  have h := allF_len n u d
  have : 2 ^ n ≤ 2 ^ 12 := Nat.pow_le_pow_right (by omega) hn
  omega
/-- All orders of a line. -/
def ords (s : Sg) : List ByteArray := allF (s.A.length + s.B.length) s.A.length s.B.length
theorem map_nil_put (l : List ByteArray) : l.map (fun o => (⟨#[]⟩ : ByteArray) ++ o) = l := by
  have : (fun o : ByteArray => (⟨#[]⟩ : ByteArray) ++ o) = id := by
    funext o; apply ByteArray.ext; simp
  rw [this, List.map_id]

set_option maxRecDepth 100000 in
set_option maxHeartbeats 2000000 in
theorem eachOrder {N : Nat} {caps : Array Value} {Inv : List ByteArray → World → Prop} (HC : ∀ (args : Array Value) (X : World), (callFunc N args).run Tryz.prog X = .ok (.enter N args) X)
    (CB : ∀ (done : List ByteArray) (X : World) (o : ByteArray), o.size ≤ 12 → done.length < 4096 → Inv done X → Calls Tryz.prog N (#[.string o] ++ caps) X fun e X' => e = .returned (.tuple #[]) ∧ Inv (done ++ [o]) X')
    {w : World} {v : Value} {s : Sg} (h : SgV w v s) (hs : sgB s = true) (hI : ∀ o, Inv [] (w.alloc o)) :
    Calls Tryz.prog 15 #[v, .func (.func N) #[] caps] w fun e w' => e = .returned (.tuple #[]) ∧ Inv (ords s) w' := by
  have hl := (sgB_of hs).lenA
  have hl2 := (sgB_of hs).lenB
  obtain ⟨a, n, c, a', n', c', rfl, i1, i2⟩ := h.form
  have hn := slice_len i1
  have hn' := slice_len i2
  obtain ⟨r, hr⟩ : ∃ r, r = s.run := ⟨_, rfl⟩
  obtain ⟨hd, hh⟩ : ∃ r, r = s.head := ⟨_, rfl⟩
  rw [← hr, ← hh]
  have pa := Quad.new w (.slice a n c) (.slice a' n' c') (.int .i64 r) (.int .i64 hd) 25
  have hI := hI (.cells #[.slice a n c, .slice a' n' c', .int .i64 r, .int .i64 hd] 25)
  obtain ⟨W, hW⟩ : ∃ W, W = w.alloc (.cells #[.slice a n c, .slice a' n' c', .int .i64 r, .int .i64 hd] 25) := ⟨_, rfl⟩
  rw [← hW] at pa hI
  have C := visit HC CB (n + n') n n' ⟨#[]⟩ [] W rfl (by rw [show (⟨#[]⟩ : ByteArray).size = 0 from rfl]; omega) (by have := allF_many (n := n + n') (u := n) (d := n') (by omega); simpa using this) hI
  rw [List.nil_append, map_nil_put] at C
  have E : allF (n + n') n n' = ords s := by rw [hn, hn']; rfl
  rw [E] at C
  have C := Lib.hid C
  have p0 := pa.cell0
  have p1 := pa.cell1
  have HW := Lib.hid hW.symm
  clear hI CB HC E hn hn' hl hl2 h i1 i2 hr hh hW pa
  go_enter Tryz.func15, Tryz.ntmps15
  go_upto_region 1 with fail
  rw [HW.out]
  go_wp2_with (go_at_call 34; refine C.out.mono ?_; rintro e X' ⟨rfl, hI'⟩)
  go_end0
  exact ⟨rfl, hI'⟩

end Go.Proofs.YtlcmkocbpnekhaaGreatDoor
