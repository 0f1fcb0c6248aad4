/-
  Times later by a number: the program's and the model's. For at most 6 times from 0 to 2000 and numbers from -2000 to 2000.
-/
import Derived.Test.YtlcmkocbpnekhaaSgE
import Derived.Test.YtlcmkocbpnekhaaSgF
namespace Go.Proofs.Ytlcmkocbpnekhaa
open Go.RowKit Go.Sort

def laT (xs : List Int) (k : Int) (j : Nat) : List Int := (xs.take j).map (· + k)
theorem laT_zero (xs : List Int) (k : Int) : laT xs k 0 = [] := by simp [laT]
theorem laT_succ {xs : List Int} {j : Nat} (k : Int) (h : j < xs.length) : laT xs k (j + 1) = laT xs k j ++ [xs.getD j 0 + k] := by
  unfold laT
  rw [List.take_succ_eq_append_getElem h, List.map_append, List.map_singleton]
  simp [h]
theorem laT_all (xs : List Int) (k : Int) : laT xs k xs.length = xs.map (· + k) := by simp [laT]
theorem laT_len {xs : List Int} (k : Int) {j : Nat} (h : j ≤ xs.length) : (laT xs k j).length = j := by simp [laT]; omega

set_option maxHeartbeats 2000000 in
theorem implTimes {w : World} {v : Value} {xs : List Int} {k : Int} (h : Ints w v xs) (hl : xs.length ≤ 6) (hx : ∀ i, i < xs.length → 0 ≤ xs.getD i 0 ∧ xs.getD i 0 ≤ 2000) (hk1 : -2000 ≤ k) (hk2 : k ≤ 2000) :
    Calls Try.prog 57 #[v, .int .i64 k] w (MadeInts w (xs.map (· + k))) := by
  have I1 := Lib.hid h
  obtain ⟨a, c, rfl, -, -⟩ := h
  have MR := make_room xs.length (by omega) w
  have eb := below_alloc w (.cells (madeCells #[.int .i64 0] xs.length) 3)
  have ob := room_own xs.length (by omega) w
  obtain ⟨W2, hW2⟩ : ∃ X, X = w.alloc (.cells (madeCells #[.int .i64 0] xs.length) 3) := ⟨_, rfl⟩
  rw [← hW2] at eb ob MR
  have OV := Lib.hid (show OwnI W2 w.heap.size (.slice (some ⟨w.heap.size, 0, none⟩) 0 xs.length) (laT xs k 0) by rw [laT_zero]; exact ob)
  have BV := Lib.hid eb
  have SZ := Lib.hid eb.size
  have HX := Lib.hid hx
  have FS := Lib.hid (fun (j : Nat) (hj : j < xs.length) => laT_succ (xs := xs) k hj)
  have FL := Lib.hid (fun (j : Nat) (hj : j ≤ xs.length) => laT_len (xs := xs) k hj)
  have FA := Lib.hid (laT_all xs k)
  have hli : (xs.length : Int) ≤ 6 := by omega
  obtain ⟨n, hn⟩ : ∃ n, n = xs.length := ⟨_, rfl⟩
  have HN := Lib.hid hn
  rw [← hn] at MR OV hli ⊢
  clear hW2 eb ob hx hl hn
  go_enter Try.func57, Try.ntmps57
  go_wp2_with fail
  go_loopw [5, 7, 13] (fun t _ i wr => ∃ (j : Nat), j ≤ n ∧ i = .int .i64 j ∧ Hid (OwnI wr w.heap.size t (laT xs k j)) ∧ Hid (Below w.heap.size w wr) ∧ Hid (w.heap.size ≤ wr.heap.size)) (fun _ _ i _ => n - (intOf i).toNat)
  case atStart => exact ⟨0, by omega, rfl, OV, BV, SZ⟩
  case round =>
    obtain ⟨j, hj, rfl, ho, hbel, hsz⟩ := hrel
    by_cases hlt : j < n
    · have hlt2 : j < xs.length := by rw [← HN.out]; exact hlt
      obtain ⟨b, o, c1, e, hb, hc⟩ := ints_at I1.out (by omega)
      simp only [Value.slice.injEq] at e
      obtain ⟨rfl, -, -⟩ := e
      have hcell := (hbel.out.cell (p := ⟨b, o + j, none⟩) hb).trans (hc j hlt2)
      have hr := HX.out j hlt2
      have F := FS.out j hlt2
      have LK := Lib.hid (show (laT xs k j).length ≤ 1048576 by rw [FL.out j (by omega)]; omega)
      obtain ⟨x, hx⟩ : ∃ x, x = xs.getD j 0 := ⟨_, rfl⟩
      rw [← hx] at hcell hr F
      have hw1 : wrap64 (x + k) = x + k := IntWalk.wrap64_in _ (by omega)
      have F := Lib.hid F
      have hji : (j : Int) < (n : Int) := by omega
      clear hx hr hc hlt2
      go_wp2_with (at_builtin; refine wpList_addI _ _ rfl rfl rfl rfl ho.out LK.out hsz.out ?_; intro v' w' o' b')
      clear hw1
      go_roundw
      case rel => exact ⟨j + 1, by omega, by go_num, Lib.hid (by rw [F.out]; exact o'), Lib.hid (b' _ _ hbel.out (Nat.le_refl _)), Lib.hid (Nat.le_trans hsz.out (b' 0 _ (below_zero _) (Nat.zero_le _)).size)⟩
      case measure => simp [intOf]; omega
    · obtain rfl : j = n := by omega
      have hff : decide ((j : Int) < (j : Int)) = false := decide_eq_false (by omega)
      clear hlt hj
      go_wp2_with fail
      go_ret
      exact ⟨_, rfl, by rw [← FA.out, ← HN.out]; exact ho.out, hbel.out⟩

set_option maxHeartbeats 2000000 in
theorem specTimes {w : World} {v : Value} {xs : List Int} {k : Int} (h : Ints w v xs) (hl : xs.length ≤ 6) (hx : ∀ i, i < xs.length → 0 ≤ xs.getD i 0 ∧ xs.getD i 0 ≤ 2000) (hk1 : -2000 ≤ k) (hk2 : k ≤ 2000) :
    Calls Try.prog 58 #[v, .int .i64 k] w (MadeInts w (xs.map (· + k))) := by
  have I1 := Lib.hid h
  obtain ⟨a, c, rfl, -, -⟩ := h
  have OV := Lib.hid (show OwnI (w.alloc (.cells #[] 3)) w.heap.size (.slice (some ⟨w.heap.size, 0, none⟩) 0 0) (laT xs k 0) by rw [laT_zero]; exact own_empty w)
  have BV := Lib.hid (below_alloc w (.cells #[] 3))
  have SZ := Lib.hid BV.out.size
  have HX := Lib.hid hx
  have FS := Lib.hid (fun (j : Nat) (hj : j < xs.length) => laT_succ (xs := xs) k hj)
  have FL := Lib.hid (fun (j : Nat) (hj : j ≤ xs.length) => laT_len (xs := xs) k hj)
  have FA := Lib.hid (laT_all xs k)
  have hli : (xs.length : Int) ≤ 6 := by omega
  obtain ⟨n, hn⟩ : ∃ n, n = xs.length := ⟨_, rfl⟩
  have HN := Lib.hid hn
  rw [← hn] at hli ⊢
  clear hx hl hn
  go_enter Try.func58, Try.ntmps58
  go_wp2_with fail
  go_loopw [5, 6] (fun t i wr => ∃ (j : Nat), j ≤ n ∧ i = .int .i64 j ∧ Hid (OwnI wr w.heap.size t (laT xs k j)) ∧ Hid (Below w.heap.size w wr) ∧ Hid (w.heap.size ≤ wr.heap.size)) (fun _ i _ => n - (intOf i).toNat)
  case atStart => exact ⟨0, by omega, rfl, OV, BV, SZ⟩
  case round =>
    obtain ⟨j, hj, rfl, ho, hbel, hsz⟩ := hrel
    by_cases hlt : j < n
    · have hlt2 : j < xs.length := by rw [← HN.out]; exact hlt
      obtain ⟨b, o, c1, e, hb, hc⟩ := ints_at I1.out (by omega)
      simp only [Value.slice.injEq] at e
      obtain ⟨rfl, -, -⟩ := e
      have hcell := (hbel.out.cell (p := ⟨b, o + j, none⟩) hb).trans (hc j hlt2)
      have hr := HX.out j hlt2
      have F := FS.out j hlt2
      have LK := Lib.hid (show (laT xs k j).length ≤ 1048576 by rw [FL.out j (by omega)]; omega)
      obtain ⟨x, hx⟩ : ∃ x, x = xs.getD j 0 := ⟨_, rfl⟩
      rw [← hx] at hcell hr F
      have hw1 : wrap64 (x + k) = x + k := IntWalk.wrap64_in _ (by omega)
      have F := Lib.hid F
      have hji : (j : Int) < (n : Int) := by omega
      clear hx hr hc hlt2
      go_wp2_with (at_builtin; refine wpList_addI _ _ rfl rfl rfl rfl ho.out LK.out hsz.out ?_; intro v' w' o' b')
      clear hw1
      go_roundw
      case rel => exact ⟨j + 1, by omega, by go_num, Lib.hid (by rw [F.out]; exact o'), Lib.hid (b' _ _ hbel.out (Nat.le_refl _)), Lib.hid (Nat.le_trans hsz.out (b' 0 _ (below_zero _) (Nat.zero_le _)).size)⟩
      case measure => simp [intOf]; omega
    · obtain rfl : j = n := by omega
      have hff : decide ((j : Int) < (j : Int)) = false := decide_eq_false (by omega)
      clear hlt hj
      go_wp2_with fail
      go_ret
      exact ⟨_, rfl, by rw [← FA.out, ← HN.out]; exact ho.out, hbel.out⟩

end Go.Proofs.Ytlcmkocbpnekhaa
