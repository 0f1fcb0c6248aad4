/-
  How many tokens directions need: the model's and the program's TokenNeeds. For texts of at most 9223372036854775806 bytes.
-/
import Derived.Test.YtlcmkocbpnekhaaDoorDirA
namespace Go.Proofs.YtlcmkocbpnekhaaDoor
open Go.RowKit Go.Sort

/-- What TokenNeeds hands back. -/
def ndA (S : ByteArray) : Int := if dirB S then needA S S.size else 0
def ndB (S : ByteArray) : Int := if dirB S then needB S S.size else 0
theorem bal_U {S : ByteArray} {k : Nat} (h : bt S k = 85) : bal S (k + 1) = bal S k + 1 := by simp [bal, h]
theorem bal_D {S : ByteArray} {k : Nat} (h : bt S k ≠ 85) : bal S (k + 1) = bal S k - 1 := by simp only [bal, if_neg h]; omega
theorem needA_succ (S : ByteArray) (k : Nat) : needA S (k + 1) = max (needA S k) (bal S (k + 1)) := rfl
theorem needB_succ (S : ByteArray) (k : Nat) : needB S (k + 1) = max (needB S k) (- bal S (k + 1)) := rfl
theorem dir_size {S : ByteArray} (h : dirB S = true) : (S.size : Int) ≤ 30 := by have := (dirB_of h).1; omega
/-- One letter further, turned round: as the model counts. -/
theorem needs_round {S : ByteArray} {k : Nat} {nw lo hi : Int} (h : nw = -bal S k ∧ lo = -needA S k ∧ hi = needB S k) (nw' lo' hi' : Int)
    (h1 : nw' = if bt S k = 85 then nw - 1 else nw + 1) (h2 : lo' = min lo nw') (h3 : hi' = max hi nw') : nw' = -bal S (k + 1) ∧ lo' = -needA S (k + 1) ∧ hi' = needB S (k + 1) := by
  obtain ⟨rfl, rfl, rfl⟩ := h
  subst h2
  subst h3
  rw [needA_succ, needB_succ]
  by_cases e : bt S k = 85
  · rw [if_pos e] at h1
    have := bal_U e
    subst h1
    omega
  · rw [if_neg e] at h1
    have := bal_D e
    subst h1
    omega
theorem needs_round2 {S : ByteArray} {k : Nat} {a b m : Int} (h : a = needA S k ∧ b = needB S k ∧ m = bal S k) (a' b' m' : Int)
    (h1 : m' = if bt S k = 85 then m + 1 else m - 1) (h2 : a' = max a m') (h3 : b' = max b (-m')) : a' = needA S (k + 1) ∧ b' = needB S (k + 1) ∧ m' = bal S (k + 1) := by
  obtain ⟨rfl, rfl, rfl⟩ := h
  subst h2
  subst h3
  rw [needA_succ, needB_succ]
  by_cases e : bt S k = 85
  · rw [if_pos e] at h1
    have := bal_U e
    subst h1
    omega
  · rw [if_neg e] at h1
    have := bal_D e
    subst h1
    omega

set_option maxHeartbeats 2000000 in
theorem implNeeds (S : ByteArray) (hS : S.size ≤ 9223372036854775806) (w : World) :
    Calls Tryd.prog 8 #[.string S] w fun e w' => e = .returned (.tuple #[.int .i64 (ndA S), .int .i64 (ndB S), .bool (dirB S)]) ∧ Below w.heap.size w w' := by
  have V := Lib.hid (implDirections S (by omega))
  obtain ⟨d, hd⟩ : ∃ d, d = dirB S := ⟨_, rfl⟩
  rw [← hd] at V
  cases d
  · have E := Lib.hid (show ndA S = 0 ∧ ndB S = 0 ∧ dirB S = false by unfold ndA ndB; rw [← hd]; exact ⟨rfl, rfl, rfl⟩)
    clear hd
    go_enter Tryd.func8, Tryd.ntmps8
    go_wp2_with (go_at_call 20; refine (V.out _).mono ?_)
    rintro e w1 ⟨rfl, b1⟩
    go_wp2_with fail
    exact bodyPost_ret (v := .tuple #[.int .i64 0, .int .i64 0, .bool false]) (by simp [results, Tryd.results8, go_sem]) rfl ⟨by rw [E.out.1, E.out.2.1, E.out.2.2], b1⟩
  · have E := Lib.hid (show ndA S = needA S S.size ∧ ndB S = needB S S.size ∧ dirB S = true by unfold ndA ndB; rw [← hd]; exact ⟨rfl, rfl, rfl⟩)
    have hsz := dir_size hd.symm
    clear hd
    go_enter Tryd.func8, Tryd.ntmps8
    go_wp2_with (go_at_call 20; refine (V.out _).mono ?_)
    rintro e w1 ⟨rfl, b1⟩
    have B1 := Lib.hid b1
    clear b1
    go_wp2_with fail
    go_loopw [5, 6, 7, 14] (fun a b m i wr => ∃ (k : Nat) (x y z : Int), k ≤ S.size ∧ i = .int .i64 k ∧ a = .int .i64 x ∧ b = .int .i64 y ∧ m = .int .i64 z ∧ (x = needA S k ∧ y = needB S k ∧ z = bal S k) ∧ Below w.heap.size w wr) (fun _ _ _ i _ => S.size - (intOf i).toNat)
    case atStart => exact ⟨0, 0, 0, 0, by omega, rfl, rfl, rfl, rfl, ⟨rfl, rfl, rfl⟩, B1.out⟩
    case round =>
      obtain ⟨k, x, y, z, hk, rfl, rfl, rfl, rfl, hq, hbel⟩ := hrel
      have g1 := bal_range S k
      have g2 := needA_range S k
      have g3 := needB_range S k
      obtain ⟨b1, b2, b3, b4, b5, b6⟩ : 0 ≤ x ∧ x ≤ 30 ∧ 0 ≤ y ∧ y ≤ 30 ∧ -30 ≤ z ∧ z ≤ 30 := ⟨by omega, by omega, by omega, by omega, by omega, by omega⟩
      have Q := Lib.hid hq
      clear hq g1 g2 g3
      by_cases hlt : k < S.size
      · have hki : (k : Int) < (S.size : Int) := by omega
        have hix : ∀ (w : World), (Instr.index 9 (.string S) (.int .i64 k)).run Tryd.prog w = .ok (.int .u8 (bt S k)) w := by
          intro w
          rw [run_index_string _ _ _ _ _ Tryd.underlying9, dif_pos ⟨by omega, hki⟩, ← bt_get hlt]
          rfl
        have NR := Lib.hid (fun x' y' z' => needs_round2 Q.out x' y' z')
        obtain ⟨c, hc⟩ : ∃ c, c = bt S k := ⟨_, rfl⟩
        rw [← hc] at hix NR
        clear hc Q
        by_cases h1 : c = 85
        · subst h1
          go_wp2_with fail
          go_roundw
          case rel => exact ⟨k + 1, _, _, _, by omega, by go_num, rfl, rfl, rfl, NR.out _ _ _ rfl rfl rfl, hbel⟩
          case measure => simp [intOf]; omega
        · have t1 : (c == 85) = false := by simp [h1]
          have NR' := Lib.hid (fun x' y' z' (h : z' = z - 1) => NR.out x' y' z' (h.trans (if_neg h1).symm))
          clear NR h1
          go_wp2_with fail
          go_roundw
          case rel => exact ⟨k + 1, _, _, _, by omega, by go_num, rfl, rfl, rfl, NR'.out _ _ _ rfl rfl rfl, hbel⟩
          case measure => simp [intOf]; omega
      · obtain rfl : k = S.size := by omega
        go_wp2_with fail
        exact bodyPost_ret (v := .tuple #[.int .i64 x, .int .i64 y, .bool true]) (by simp [results, Tryd.results8, go_sem]) rfl ⟨by rw [E.out.1, E.out.2.1, E.out.2.2, ← Q.out.1, ← Q.out.2.1], hbel⟩

end Go.Proofs.YtlcmkocbpnekhaaDoor
