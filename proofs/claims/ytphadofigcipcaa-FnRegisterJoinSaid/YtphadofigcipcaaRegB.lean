/-
  The model's RegisterUntil and RegisterBlock; a copy of notes. For lists of at most 1048576 notes.
-/
import Derived.Test.YtphadofigcipcaaRegS
import Derived.Test.YtphadofigcipcaaBlockG
namespace Go.Proofs.Ytphadofigcipcaa
open Go.RowKit Go.Sort

theorem rd_newsN {w : World} {b o m : Nat} {F : Nat → Value} (hc : ∀ q, q < m → w.cell? ⟨b, o + q, none⟩ = some (F q)) : ∀ j u, ((List.range m).map F)[j]? = some u → w.cell? ((⟨b, o, none⟩ : Addr).add j) = some u := fun j u hu => by
  have hlt : j < m := by
    have := (List.getElem?_eq_some_iff.1 hu).1
    simpa using this
  rw [rangeF_get F hlt] at hu
  simp only [Option.some.injEq] at hu
  subst hu
  have q := hc j hlt
  rw [show (⟨b, o, none⟩ : Addr).add j = ⟨b, o + j, none⟩ by unfold Addr.add; split <;> simp_all]
  exact q
theorem run_copyN {X : World} {base N : Nat} {u : Value} {ms : List Mv} (hr : Mvs X u ms) (hN : X.heap[N]? = some (.cells #[] 29 (0, 0))) (hb : base ≤ N) (ty : TypeId) :
    ∃ v' w', (Builtin.append_ #[23, 23] ty #[.slice (some ⟨N, 0, none⟩) 0 0, u]).run Try.prog X = .ok v' w' ∧ OwnN w' base v' ms ∧ Below X.heap.size X w' := by
  have hNl := (Array.getElem?_eq_some_iff.1 hN).1
  obtain ⟨i0, hi, hz0, hz1, hz2⟩ := info_parts info_note
  obtain ⟨a, c, rfl, hl, hc⟩ := hr
  rcases Nat.eq_zero_or_pos ms.length with h0 | h0
  · have hsrc : Go.Src Try.prog i0.size 23 (.slice a ms.length c) ms.length [] X := by
      rw [h0]
      cases a with
      | none => exact Go.Src.ofNil X Try.underlying23 c
      | some a => exact Go.Src.ofSlice X Try.underlying23 a 0 c [] (by simp) (fun j u hu => by simp at hu) (fun u hu => by cases hu)
    have hr := Go.run_append_room_src (w := X) 23 23 ty 29 i0 Try.underlying23 hi N 0 0 0 _ ms.length [] hsrc (by omega) (fun j hj => by simp at hj) (fun j hj => by simp at hj)
    refine ⟨_, _, hr, ?_, ?_⟩
    · rw [h0]
      unfold OwnN Ow
      rw [h0]
      refine ⟨by simp, .inr ⟨N, 0, #[], rfl, hb, ?_, Nat.le_refl _, by simp [maxLen], rfl, by simp⟩⟩
      exact hN
    · exact Below.refl _ _
  · rcases hc with hc | ⟨b, o, rfl, hb', hcell⟩
    · omega
    · obtain ⟨v', w', hr, ho, hg⟩ := run_append_arg_grows (P := Try.prog) (w := X) 23 ty 29 i0 (.agg #[.int .i64 0, .string ⟨#[]⟩]) 2 24 Try.underlying23 hi hz0 hz1 hz2 rfl (by decide) ⟨N, 0, none⟩ 0 0 [] rfl (fun j u hu => by simp at hu) ⟨b, o, none⟩ ms.length c ((List.range (ms.length * 2)).map (mvF ms)) (by simp) (rd_newsN hcell) (by omega) (by unfold maxLen; omega) (by omega)
      refine ⟨v', w', hr, ?_, ⟨hg.os, hg.tape, hg.output, hg.size, fun j hj => hg.block j hj (by simp)⟩⟩
      have : Ow w' X.heap.size 29 2 v' ms.length (mvF ms) := by
        unfold Ow
        simpa using ho
      exact this.mono (by omega)
theorem wpList_copyN {ops : Array Oper} {rest : List Oper} {o : Oper} {a : Act} {w : World} {Q : Exit → Act → World → Prop} (hgd : o.guard = none) (s x : Operand)
    (ho : o.op = .call { callee := .builtin .append, args := #[s, x], argTypes := #[23, 23] })
    {base N : Nat} {u : Value} {ms : List Mv} (hs : a.eval s = .slice (some ⟨N, 0, none⟩) 0 0) (hx : a.eval x = u) (hr : Mvs w u ms) (hN : w.heap[N]? = some (.cells #[] 29 (0, 0))) (hb : base ≤ N)
    (h : ∀ v' w', OwnN w' base v' ms → Below w.heap.size w w' → wpList Try.prog ops Q rest (a.put o.dst v') w') : wpList Try.prog ops Q (o :: rest) a w :=
  wpList_plain hgd fun _ hK => by
    obtain ⟨v', w', hr, h2, h3⟩ := run_copyN hr hN hb o.type
    unfold Oper.wp execOp
    simp only [ho, resolve, invoke, builtin, Sem.run_bind, Sem.run_pure, Result.andThen_ok, List.map_toArray, List.map_cons, List.map_nil, hs, hx, hr]
    exact hK _ _ (h v' w' h2 h3)
/-- The first notes of a list that can be read. -/
theorem Mvs.take {w : World} {a : Option Addr} {n cap : Nat} {ms : List Mv} (h : Mvs w (.slice a n cap) ms) {k : Nat} (hk : k ≤ ms.length) : Mvs w (.slice a k cap) (ms.take k) := by
  have hlen : (ms.take k).length = k := by rw [List.length_take]; omega
  obtain ⟨a', c', e, ⟨l1, l2⟩, hc⟩ := h
  simp only [Value.slice.injEq] at e
  obtain ⟨rfl, rfl, rfl⟩ := e
  refine ⟨a, cap, by rw [hlen], ⟨by omega, by omega⟩, ?_⟩
  by_cases h0 : k = 0
  · exact .inl (by omega)
  · rcases hc with hc | ⟨b, o, rfl, hb, hcell⟩
    · omega
    · refine .inr ⟨b, o, rfl, hb, fun q hq => ?_⟩
      rw [hlen] at hq
      rw [mvF_take hq]
      exact hcell q (by omega)

set_option maxRecDepth 100000 in
set_option maxHeartbeats 2000000 in
theorem specUntil {w : World} {v : Value} {ns : List Mv} (h : Mvs w v ns) (m : Int) : Calls Try.prog 70 #[v, .int .i64 m] w (MadeNts w (untL ns m)) := by
  obtain ⟨a, cap, rfl⟩ := Rd.slice h
  have hl := Rd.len h
  have hl' : (ns.length : Int) ≤ 1048576 := by omega
  have AT := Lib.hid (fun (i : Nat) (hi : i < ns.length) => Mvs.at h hi)
  have H := Lib.hid h
  have UI := Lib.hid (fun (n : Nat) (hn : n ≤ ns.length) (p : ∀ i, i < n → (ns.getD i noMv).1 ≤ m) (q : n < ns.length → m < (ns.getD n noMv).1) => untL_is hn p q)
  have hcap : (ns.length : Int) ≤ (cap : Int) := by
    obtain ⟨a', c', e, ⟨_, l2⟩, _⟩ := h
    simp only [Value.slice.injEq] at e
    obtain ⟨_, _, rfl⟩ := e
    omega
  have TK := Lib.hid (fun (k : Nat) (hk : k ≤ ns.length) => Rd.below (Mvs.take H.out hk) (below_alloc w (.cells #[] 29)))
  have NEW := Lib.hid (show (w.alloc (.cells #[] 29)).heap[w.heap.size]? = some (.cells #[] 29 (0, 0)) from World.alloc_heap_new w _)
  clear h
  go_enter Try.func70, Try.ntmps70
  go_wp2_with fail
  go_loop [5] (fun i => ∃ k : Nat, k ≤ ns.length ∧ i = .int .i64 k ∧ Hid (∀ j, j < k → (ns.getD j noMv).1 ≤ m)) (fun i => ns.length - (intOf i).toNat)
  case atStart => exact ⟨0, by omega, rfl, Lib.hid (fun j hj => absurd hj (by omega))⟩
  case round =>
    obtain ⟨k, hk, rfl, HN⟩ := hrel
    have hkc : (k : Int) ≤ (cap : Int) := by omega
    by_cases hlt : k < ns.length
    · obtain ⟨b, o, rfl, hb, hcell⟩ := AT.out k hlt
      obtain ⟨c0, c1⟩ := hcell k hlt
      have hki : (k : Int) < (ns.length : Int) := by omega
      have hkt : decide ((k : Int) < (ns.length : Int)) = true := decide_eq_true hki
      have U := Lib.hid (fun (g : m < (ns.getD k noMv).1) => UI.out k hk HN.out (fun _ => g))
      have NX := Lib.hid (fun (g : (ns.getD k noMv).1 ≤ m) => show ∀ j, j < k + 1 → (ns.getD j noMv).1 ≤ m from fun j hj => by
        by_cases q : j = k
        · rw [q]; exact g
        · exact HN.out j (by omega))
      obtain ⟨x, hx⟩ : ∃ x, x = (ns.getD k noMv).1 := ⟨_, rfl⟩
      rw [← hx] at c0 U NX
      clear hx hcell c1
      by_cases g : x ≤ m
      · have hd : decide (x ≤ m) = true := decide_eq_true g
        have N := Lib.hid (NX.out g)
        clear U NX
        go_wp2_with fail
        go_round
        case rel => exact ⟨k + 1, by omega, by go_num, N⟩
        case measure => simp [intOf]; omega
      · have hd : decide (x ≤ m) = false := decide_eq_false g
        have E := Lib.hid (U.out (by omega))
        clear U NX
        go_wp2_with (at_builtin; refine wpList_copyN rfl _ _ rfl rfl rfl (TK.out k hk) NEW.out (Nat.le_refl _) ?_)
        intro v' w5 own bel
        obtain ⟨av', cv', rfl⟩ := Ow.slice own
        have O5 := Lib.hid own
        have B5 := Lib.hid ((below_alloc w (.cells #[] 29)).trans (bel.mono (by simp)))
        clear own bel
        go_wp2_with fail
        go_ret
        exact ⟨_, rfl, by rw [E.out]; exact O5.out, B5.out⟩
    · have hke : k = ns.length := by omega
      have hkt : (ns.length : Int) ≤ (k : Int) := by omega
      have E := Lib.hid (UI.out k hk HN.out (fun q => absurd q (by omega)))
      clear hlt hke
      go_wp2_with (at_builtin; refine wpList_copyN rfl _ _ rfl rfl rfl (TK.out k hk) NEW.out (Nat.le_refl _) ?_)
      intro v' w5 own bel
      obtain ⟨av', cv', rfl⟩ := Ow.slice own
      have O5 := Lib.hid own
      have B5 := Lib.hid ((below_alloc w (.cells #[] 29)).trans (bel.mono (by simp)))
      clear own bel
      go_wp2_with fail
      go_ret
      exact ⟨_, rfl, by rw [E.out]; exact O5.out, B5.out⟩

set_option maxHeartbeats 1000000 in
theorem specRegisterUntil {w : World} {v : Value} {ns : List Mv} (h : Mvs w v ns) (m : Int) : Calls Try.prog 23 #[v, .int .i64 m] w (MadeNtsB w (untV ns m) (regB ns)) := by
  have RV := Lib.hid (specRegisterValid h)
  have UT := Lib.hid (fun (X : World) (c : Below w.heap.size w X) => specUntil (Rd.below h c) m)
  obtain ⟨a, cap, rfl⟩ := Rd.slice h
  cases hr : regB ns
  · rw [hr] at RV
    have S := Lib.hid (show untV ns m = [] by unfold untV; rw [regL_no hr]; rfl)
    clear h hr
    go_enter Try.func23, Try.ntmps23
    go_wp2_with (go_at_call 62; refine RV.out.mono ?_)
    rintro e w1 ⟨rfl, b1⟩
    have O := Lib.hid (show OwnN (w1.alloc (.cells #[] 29)) w.heap.size (.slice (some ⟨w1.heap.size, 0, none⟩) 0 0) [] from (ow_empty w1 29 2 (mvF [])).mono b1.size)
    go_wp2_with fail
    go_ret2
    exact ⟨_, rfl, by rw [S.out]; exact O.out, b1.alloc b1.size _⟩
  · rw [hr] at RV
    have S := Lib.hid (show untV ns m = untL ns m by unfold untV; rw [regL_yes hr])
    clear h hr
    go_enter Try.func23, Try.ntmps23
    go_wp2_with (go_at_call 62; refine RV.out.mono ?_)
    rintro e w1 ⟨rfl, b1⟩
    go_wp2_with (go_at_call 70; refine (UT.out _ b1).mono ?_)
    rintro e w2 ⟨u, rfl, o2, b2⟩
    obtain ⟨au, cu, rfl⟩ := Ow.slice o2
    have O := Lib.hid (Ow.mono o2 b1.size)
    clear o2
    go_wp2_with fail
    go_ret2
    exact ⟨_, rfl, by rw [S.out]; exact O.out, chain b1 b2⟩

end Go.Proofs.Ytphadofigcipcaa
