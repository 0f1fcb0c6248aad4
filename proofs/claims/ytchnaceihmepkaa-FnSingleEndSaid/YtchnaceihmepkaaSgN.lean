/-
  All orders as a list: the model's l8All. (The own lists of strings are laid here anew: never together with StrO.)
-/
import Derived.Test.YtchnaceihmepkaaSgM
import Derived.Maps.AppendAt
namespace Go.Proofs.Ytchnaceihmepkaa
open Go.RowKit Go.Sort

/-! ### Orders are orders -/
theorem put_list (b : UInt8) (o : ByteArray) : (⟨#[b]⟩ : ByteArray) ++ o = ⟨(b :: o.data.toList).toArray⟩ := by
  apply ByteArray.ext; apply Array.toList_inj.1; simp
theorem bt_put0 (b : UInt8) (o : ByteArray) : bt ((⟨#[b]⟩ : ByteArray) ++ o) 0 = (b.toNat : Int) := by
  rw [put_list, bt_list]; rfl
theorem bt_put (b : UInt8) (o : ByteArray) (k : Nat) : bt ((⟨#[b]⟩ : ByteArray) ++ o) (k + 1) = bt o k := by
  have e : o = ⟨o.data.toList.toArray⟩ := by apply ByteArray.ext; simp
  rw [put_list, bt_list]
  conv => rhs; rw [e, bt_list]
  rfl
theorem pre_size (b : UInt8) (o : ByteArray) : ((⟨#[b]⟩ : ByteArray) ++ o).size = o.size + 1 := by
  rw [ByteArray.size_append, Nat.add_comm]; rfl
theorem upTo_put (b : UInt8) (o : ByteArray) (k : Nat) : upTo ((⟨#[b]⟩ : ByteArray) ++ o) (k + 1) = (if (b.toNat : Int) = 85 then 1 else 0) + upTo o k := by
  induction k with
  | zero => simp only [upTo, bt_put0]; omega
  | succ k ih =>
    have e : ∀ S : ByteArray, ∀ j, upTo S (j + 1) = upTo S j + (if bt S j = 85 then 1 else 0) := fun _ _ => rfl
    rw [e, ih, e o, bt_put]; omega
theorem only_put {b : UInt8} {o : ByteArray} (hb : (b.toNat : Int) = 85 ∨ (b.toNat : Int) = 68) (h : ∀ j, j < o.size → bt o j = 85 ∨ bt o j = 68) : ∀ j, j < ((⟨#[b]⟩ : ByteArray) ++ o).size → bt ((⟨#[b]⟩ : ByteArray) ++ o) j = 85 ∨ bt ((⟨#[b]⟩ : ByteArray) ++ o) j = 68 := by
  intro j hj
  rw [pre_size] at hj
  cases j with
  | zero => rw [bt_put0]; exact hb
  | succ j => rw [bt_put]; exact h j (by omega)
theorem allF_ok (n : Nat) : ∀ u d, u + d = n → ∀ o ∈ allF n u d, OrdOk u d o := by
  induction n with
  | zero =>
    intro u d h o ho
    obtain rfl : u = 0 := by omega
    obtain rfl : d = 0 := by omega
    simp only [allF, List.mem_singleton] at ho
    subst ho
    exact ⟨fun j hj => absurd hj (Nat.not_lt_zero _), rfl, rfl⟩
  | succ n ih =>
    intro u d h o ho
    rw [allF, List.mem_append] at ho
    rcases ho with ho | ho
    · split at ho
      · rename_i hd
        obtain ⟨p, hp, rfl⟩ := List.mem_map.1 ho
        have q := ih u (d - 1) (by omega) p hp
        refine ⟨only_put (.inr rfl) q.only, ?_, ?_⟩
        · show upTo ((⟨#[68]⟩ : ByteArray) ++ p) ((⟨#[68]⟩ : ByteArray) ++ p).size = u
          rw [pre_size, upTo_put, q.ups]; simp
        · show ((⟨#[68]⟩ : ByteArray) ++ p).size = u + d
          rw [pre_size, q.size]; omega
      · cases ho
    · split at ho
      · rename_i hd
        obtain ⟨p, hp, rfl⟩ := List.mem_map.1 ho
        have q := ih (u - 1) d (by omega) p hp
        refine ⟨only_put (.inl rfl) q.only, ?_, ?_⟩
        · show upTo ((⟨#[85]⟩ : ByteArray) ++ p) ((⟨#[85]⟩ : ByteArray) ++ p).size = u
          rw [pre_size, upTo_put, q.ups]
          have : ((85 : UInt8).toNat : Int) = 85 := rfl
          rw [if_pos this]; omega
        · show ((⟨#[85]⟩ : ByteArray) ++ p).size = u + d
          rw [pre_size, q.size]; omega
      · cases ho
theorem ords_ok {s : Sg} (hs : sgB s = true) {o : ByteArray} (ho : o ∈ ords s) : sgO s o = true := sgO_yes hs (ordB_yes (allF_ok _ _ _ rfl o ho))
theorem ords_size {s : Sg} (hs : sgB s = true) {o : ByteArray} (ho : o ∈ ords s) : o.size ≤ 12 := sgO_size (ords_ok hs ho)
theorem allF_size {n u d : Nat} (h : u + d = n) {o : ByteArray} (ho : o ∈ allF n u d) : o.size = n := by rw [(allF_ok n u d h o ho).size, h]
theorem getD_in {l : List ByteArray} {k : Nat} (h : k < l.length) : l.getD k ⟨#[]⟩ ∈ l := by
  rw [List.getD_eq_getElem?_getD, List.getElem?_eq_getElem h]; exact List.getElem_mem h

/-! ### Own lists of strings -/
def OwnS (w : World) (base : Nat) (v : Value) (ss : List ByteArray) : Prop := w.ownsRow base 9 1 v ss.length (ss.map Value.string)
theorem OwnS.below {w w' : World} {base : Nat} {v : Value} {ss : List ByteArray} (h : OwnS w base v ss) (hb : Below w.heap.size w w') : OwnS w' base v ss :=
  World.ownsRow.kept h (below_grown hb) (by cases v.ownBlock <;> simp)
theorem OwnS.kept {w w' : World} {base : Nat} {v : Value} {ss : List ByteArray} (h : OwnS w base v ss) {row : Option Nat} (hg : w.grownBy w' row) (hne : v.ownBlock = none ∨ v.ownBlock ≠ row) : OwnS w' base v ss :=
  World.ownsRow.kept h hg hne
theorem ownS_empty (w : World) : OwnS (w.alloc (.cells #[] 9)) w.heap.size (.slice (some ⟨w.heap.size, 0, none⟩) 0 0) [] :=
  World.ownsRow_lit w #[] 0 (Nat.le_refl _) (by simp [maxLen]) rfl
theorem ownS_one (w : World) (s : ByteArray) : OwnS (w.alloc (.cells #[.string s] 9)) w.heap.size (.slice (some ⟨w.heap.size, 0, none⟩) 1 1) [s] :=
  World.ownsRow_lit w #[.string s] 1 (Nat.le_refl _) (by simp [maxLen]) rfl
theorem info_str : (Try.prog.info? 9).map (fun i => (i.zero, i.size, i.bytes)) = some (some (.string ⟨#[]⟩), 1, 16) := by kernel_rfl
theorem str_new (w : World) (s : ByteArray) : ∀ j u, [Value.string s][j]? = some u → (w.alloc (.cells #[.string s] 9)).cell? ((⟨w.heap.size, 0, none⟩ : Addr).add j) = some u := by
  have hn : (w.alloc (.cells #[.string s] 9)).heap[w.heap.size]? = some (.cells #[.string s] 9 (0, 0)) := Go.Deep.blk_alloc_new _ _
  intro j u hu
  cases j with
  | zero =>
    have e : (⟨w.heap.size, 0, none⟩ : Addr).add 0 = ⟨w.heap.size, 0, none⟩ := rfl
    rw [e]
    simp only [World.cell?, hn]
    simpa using hu
  | succ j => simp at hu
theorem OwnS.cells {w : World} {base : Nat} {v : Value} {ss : List ByteArray} (h : OwnS w base v ss) :
    ∃ a cap, v = .slice a ss.length cap ∧ ss.length ≤ cap ∧ (ss = [] ∨ ∃ g, a = some ⟨g, 0, none⟩ ∧ base ≤ g ∧ g < w.heap.size ∧ ∀ i, i < ss.length → w.cell? ⟨g, i, none⟩ = some (.string (ss.getD i ⟨#[]⟩))) := by
  rcases h.2 with ⟨rfl, h0⟩ | ⟨g, cap, cur, rfl, hb, hg, hnc, _⟩
  · have : ss = [] := List.eq_nil_of_length_eq_zero h0
    subst this
    exact ⟨none, 0, rfl, Nat.le_refl _, .inl rfl⟩
  · refine ⟨_, cap, rfl, by omega, .inr ⟨g, rfl, hb, (Array.getElem?_eq_some_iff.1 hg).1, fun i hi => ?_⟩⟩
    have := World.ownsRow.cellAt h i (by simpa using hi)
    rw [this]
    simp [hi]
theorem OwnS.shape {w : World} {base : Nat} {v : Value} {ss : List ByteArray} (h : OwnS w base v ss) : ∃ a n c, v = .slice a n c := by
  obtain ⟨a, c, e, -⟩ := h.cells
  exact ⟨a, _, c, e⟩
/-- One owned list lies apart from a later one. -/
theorem apart_new {w w' : World} {b b' : Nat} {v R : Value} {xs ys : List ByteArray} (h : OwnS w b v xs) (hR : OwnS w' b' R ys) (hb : w.heap.size ≤ b') : R.ownBlock = none ∨ R.ownBlock ≠ v.ownBlock := by
  cases e : R.ownBlock with
  | none => exact .inl rfl
  | some g =>
    refine .inr fun q => ?_
    have h1 := World.ownsRow.lt hR g e
    have h2 := World.ownsRow.lt h g q.symm
    omega
theorem wpList_addS {ops : Array Oper} {rest : List Oper} {o : Oper} {a : Act} {w0 : World} {Q : Exit → Act → World → Prop} {x : ByteArray} {base b2 : Nat} {v R : Value} {xs rs : List ByteArray} (s y : Operand) (hgd : o.guard = none)
    (ho : o.op = .call { callee := .builtin .append, args := #[s, y], argTypes := #[56, 56] })
    (hs : a.eval s = v) (hy : a.eval y = .slice (some ⟨w0.heap.size, 0, none⟩) 1 1) (hv : OwnS w0 base v xs) (hR : OwnS w0 b2 R rs) (hap : R.ownBlock = none ∨ R.ownBlock ≠ v.ownBlock) (hl : xs.length ≤ 1048576) (hb : base ≤ w0.heap.size)
    (h : ∀ v' w', OwnS w' base v' (xs ++ [x]) → OwnS w' b2 R rs → (R.ownBlock = none ∨ R.ownBlock ≠ v'.ownBlock) → (∀ n W, Below n W w0 → n ≤ base → Below n W w') → wpList Try.prog ops Q rest (a.put o.dst v') w') :
    wpList Try.prog ops Q (o :: rest) a (w0.alloc (.cells #[.string x] 9)) := by
  obtain ⟨i0, hi, hz0, hz1, hz2⟩ := info_parts info_str
  refine wpList_append_own_at _ hgd s y 56 ho base 9 i0 (.string ⟨#[]⟩) 1 16 Try.underlying56 hi hz0 hz1 hz2 rfl (by decide) v xs.length (xs.map Value.string) hs (World.ownsRow.kept hv (below_grown (below_alloc _ _)) (by cases v.ownBlock <;> simp)) ⟨w0.heap.size, 0, none⟩ 1 1 [.string x] hy rfl (str_new _ _) ?c2 ?c3 ?c4 ?c5 ?_
  case c2 => intro u hu; simp at hu; subst hu; rfl
  case c3 => simp only [maxLen]; omega
  case c4 => omega
  case c5 => simp; omega
  intro v' w' hown' hgrow _ hat
  refine h v' w' ?_ ((hR.below (below_alloc _ _)).kept hgrow hap) ?_ (fun n W hW hn => (hW.alloc (Nat.le_trans hn hb) _).grown hgrow (by simp; omega) (fun g hg => Nat.le_trans hn (World.ownsRow.lt hv g hg).1))
  · unfold OwnS
    rw [List.length_append, List.map_append]
    exact hown'
  · rw [Go.Deep.nblk_alloc] at hat
    rcases hap with q | q
    · exact .inl q
    · rcases hat with e | e
      · exact .inr (by rw [e]; exact q)
      · refine .inr (fun z => ?_)
        rw [e] at z
        have := (World.ownsRow.lt hR _ z).2
        omega
def MadeStrs (w : World) (ss : List ByteArray) (e : Ending) (w' : World) : Prop := ∃ v, e = .returned v ∧ OwnS w' w.heap.size v ss ∧ Below w.heap.size w w'
theorem take_next' (l : List ByteArray) {k : Nat} (h : k < l.length) : l.take (k + 1) = l.take k ++ [l.getD k ⟨#[]⟩] := by
  rw [List.take_add_one]; simp [h]

set_option maxRecDepth 100000 in
set_option maxHeartbeats 4000000 in
theorem specAll (n : Nat) : ∀ (u d : Nat) (w : World), u + d = n → n ≤ 12 → Calls Try.prog 58 #[.int .i64 u, .int .i64 d] w (MadeStrs w (allF n u d)) := by
  induction n with
  | zero =>
    intro u d w h hn
    obtain rfl : u = 0 := by omega
    obtain rfl : d = 0 := by omega
    have O := Lib.hid (ownS_one w ⟨#[]⟩)
    have B := Lib.hid (below_alloc w (.cells #[.string ⟨#[]⟩] 9))
    clear h hn
    go_enter Try.func58, Try.ntmps58
    go_wp2_with fail
    go_ret
    exact ⟨_, rfl, O.out, B.out⟩
  | succ n ih =>
    intro u d w h hn
    have b0 := below_alloc w (.cells #[] 9)
    have o0 := ownS_empty w
    obtain ⟨w0, hw0⟩ : ∃ X, X = w.alloc (.cells #[] 9) := ⟨_, rfl⟩
    rw [← hw0] at b0 o0
    have HW := Lib.hid hw0.symm
    have B0 := Lib.hid b0
    have O0 := Lib.hid o0
    clear hw0 b0 o0
    have hu12 : (u : Int) ≤ 12 := by omega
    have hd12 : (d : Int) ≤ 12 := by omega
    rcases Nat.eq_zero_or_pos d with hd | hd
    · subst hd
      obtain ⟨v, rfl⟩ : ∃ v, u = v + 1 := ⟨u - 1, by omega⟩
      have E0 : allF (n + 1) (v + 1) 0 = [] ++ (allF n v 0).map (fun x => (⟨#[85]⟩ : ByteArray) ++ x) := by
        simp only [allF, Nat.lt_irrefl, if_false, List.nil_append, Nat.zero_lt_succ, if_true, Nat.add_sub_cancel]; rfl
      have CU := Lib.hid (ih v 0 w0 (by omega) (by omega))
      have HLU := allF_many (n := n) (u := v) (d := 0) (by omega)
      have HZU : ∀ o ∈ allF n (v) (0), o.size ≤ 12 := fun o ho => by have := allF_size (n := n) (u := v) (d := 0) (by omega) ho; omega
      obtain ⟨us, hus⟩ : ∃ x, x = allF n (v) (0) := ⟨_, rfl⟩
      rw [← hus] at E0 CU HLU HZU
      have HLU := Lib.hid HLU
      have HZU := Lib.hid HZU
      clear hus
      obtain ⟨kv, hkv⟩ : ∃ x, x = v + 1 := ⟨_, rfl⟩
      have t1 : ((kv : Int) == 0) = false := by rw [hkv]; simp; omega
      have t2 : (0 : Int) < (kv : Int) := by omega
      have hw : IntKind.i64.wrap ((kv : Int) - 1) = (v : Int) := by rw [hkv, show (((v + 1 : Nat) : Int)) - 1 = (v : Int) by omega]; exact IntWalk.i64_in _ (by omega)
      rw [← hkv] at E0 hu12 ⊢
      have E := Lib.hid E0
      have HPU := Lib.hid (show ([] : List ByteArray).length ≤ 4096 by simp)
      clear E0 ih hkv h hn
      go_enter Try.func58, Try.ntmps58
      go_upto_region 4 with fail
      rw [HW.out]
      go_wp2_with (go_at_call 58; refine CU.out.mono ?_; rintro e w1U ⟨RU, rfl, oU, bU⟩; obtain ⟨raU, rcU, rfl, -, -⟩ := oU.cells)
      have OVU := Lib.hid (O0.out.below bU)
      have APU := Lib.hid (apart_new O0.out oU (Nat.le_refl _))
      have BBU := Lib.hid (B0.out.trans (bU.mono B0.out.size))
      have ORU := Lib.hid oU
      clear oU bU
      go_loopw [5, 9] (fun o i wr => ∃ (k : Nat) (oa : Option Addr) (on oc : Nat), k ≤ us.length ∧ i = .int .i64 k ∧ o = .slice oa on oc ∧ Hid (OwnS wr w.heap.size o ([] ++ (us.take k).map (fun x => (⟨#[85]⟩ : ByteArray) ++ x))) ∧ Hid (OwnS wr w0.heap.size (.slice raU us.length rcU) us) ∧ Hid (((.slice raU us.length rcU) : Value).ownBlock = none ∨ ((.slice raU us.length rcU) : Value).ownBlock ≠ o.ownBlock) ∧ Hid (Below w.heap.size w wr)) (fun _ i _ => us.length - (intOf i).toNat)
      case atStart => exact ⟨0, _, _, _, Nat.zero_le _, rfl, rfl, Lib.hid (by simpa using OVU.out), ORU, APU, BBU⟩
      case round =>
        clear OVU APU ORU
        obtain ⟨k, oa, on, oc, hk, rfl, rfl, HO, HR, HA, HB⟩ := hrel
        rcases Nat.lt_or_ge k us.length with hlt | hge
        · obtain ⟨ga, gc, e, hcap, hc⟩ := HR.out.cells
          simp only [Value.slice.injEq, true_and] at e
          obtain ⟨rfl, rfl⟩ := e
          rcases hc with hn | ⟨g, rfl, hbg, hgl, hcell⟩
          · rw [hn] at hlt; exact absurd hlt (Nat.not_lt_zero _)
          have c0 := hcell k hlt
          have SZ := HZU.out _ (getD_in hlt)
          have pd := add_text ⟨#[85]⟩ (us.getD k ⟨#[]⟩) (by rw [show (⟨#[85]⟩ : ByteArray).size = 1 from rfl]; omega)
          have TN := Lib.hid (take_next' us hlt)
          obtain ⟨x, hx⟩ : ∃ x, x = us.getD k ⟨#[]⟩ := ⟨_, rfl⟩
          rw [← hx] at c0 pd TN
          obtain ⟨y, hy⟩ : ∃ y, y = (⟨#[85]⟩ : ByteArray) ++ x := ⟨_, rfl⟩
          rw [← hy] at pd
          have HY := Lib.hid hy
          have hki : (k : Int) < (us.length : Int) := by omega
          have hkm : (k : Int) ≤ 4096 := by have := HLU.out; omega
          have LL := Lib.hid (show ([] ++ (us.take k).map (fun x => (⟨#[85]⟩ : ByteArray) ++ x)).length ≤ 1048576 by rw [List.length_append, List.length_map, List.length_take]; have := HLU.out; have := HPU.out; omega)
          have hsz := Lib.hid HB.out.size
          have HK := Lib.hid hlt
          clear hx hy SZ hcell hgl hbg hcap hk
          go_wp2_with (at_builtin; refine wpList_addS _ _ rfl rfl rfl rfl HO.out HR.out HA.out LL.out hsz.out ?_; intro v' w' o' r' ap' b'; obtain ⟨z1, zl, z2, rfl⟩ := o'.shape)
          go_roundw
          case rel =>
            refine ⟨k + 1, _, _, _, by have := HK.out; omega, by go_num, rfl, Lib.hid ?_, Lib.hid r', Lib.hid ap', Lib.hid (b' _ _ HB.out (Nat.le_refl _))⟩
            rw [TN.out, List.map_append, ← List.append_assoc, List.map_singleton, ← HY.out]; exact o'
          case measure => have := HK.out; simp [intOf]; omega
        · obtain rfl : k = us.length := by omega
          rw [List.take_length] at HO
          have hff : decide ((us.length : Int) < (us.length : Int)) = false := decide_eq_false (by omega)
          clear hge hk
          go_wp2_with fail
          go_ret
          exact ⟨_, rfl, by rw [E.out]; exact HO.out, HB.out⟩
    obtain ⟨b, rfl⟩ : ∃ v, d = v + 1 := ⟨d - 1, by omega⟩
    clear hd
    rcases Nat.eq_zero_or_pos u with hu | hu
    · subst hu
      have E0 : allF (n + 1) 0 (b + 1) = [] ++ (allF n 0 b).map (fun x => (⟨#[68]⟩ : ByteArray) ++ x) := by
        simp only [allF, Nat.lt_irrefl, if_false, List.nil_append, List.append_nil, Nat.zero_lt_succ, if_true, Nat.add_sub_cancel]; rfl
      have CD := Lib.hid (ih 0 b w0 (by omega) (by omega))
      have HLD := allF_many (n := n) (u := 0) (d := b) (by omega)
      have HZD : ∀ o ∈ allF n (0) (b), o.size ≤ 12 := fun o ho => by have := allF_size (n := n) (u := 0) (d := b) (by omega) ho; omega
      obtain ⟨ds, hds⟩ : ∃ x, x = allF n (0) (b) := ⟨_, rfl⟩
      rw [← hds] at E0 CD HLD HZD
      have HLD := Lib.hid HLD
      have HZD := Lib.hid HZD
      clear hds
      obtain ⟨kd, hkd⟩ : ∃ x, x = b + 1 := ⟨_, rfl⟩
      have t3 : ((kd : Int) == 0) = false := by rw [hkd]; simp; omega
      have t4 : (0 : Int) < (kd : Int) := by omega
      have hwd : IntKind.i64.wrap ((kd : Int) - 1) = (b : Int) := by rw [hkd, show (((b + 1 : Nat) : Int)) - 1 = (b : Int) by omega]; exact IntWalk.i64_in _ (by omega)
      rw [← hkd] at E0 hd12 ⊢
      have E := Lib.hid E0
      have HPD := Lib.hid (show ([] : List ByteArray).length ≤ 4096 by simp)
      clear E0 ih hkd h hn
      go_enter Try.func58, Try.ntmps58
      go_upto_region 4 with fail
      rw [HW.out]
      go_wp2_with (go_at_call 58; refine CD.out.mono ?_; rintro e w1D ⟨RD, rfl, oD, bD⟩; obtain ⟨raD, rcD, rfl, -, -⟩ := oD.cells)
      have OVD := Lib.hid (O0.out.below bD)
      have APD := Lib.hid (apart_new O0.out oD (Nat.le_refl _))
      have BBD := Lib.hid (B0.out.trans (bD.mono B0.out.size))
      have ORD := Lib.hid oD
      clear oD bD
      go_loopw [5, 7] (fun o i wr => ∃ (k : Nat) (oa : Option Addr) (on oc : Nat), k ≤ ds.length ∧ i = .int .i64 k ∧ o = .slice oa on oc ∧ Hid (OwnS wr w.heap.size o ([] ++ (ds.take k).map (fun x => (⟨#[68]⟩ : ByteArray) ++ x))) ∧ Hid (OwnS wr w0.heap.size (.slice raD ds.length rcD) ds) ∧ Hid (((.slice raD ds.length rcD) : Value).ownBlock = none ∨ ((.slice raD ds.length rcD) : Value).ownBlock ≠ o.ownBlock) ∧ Hid (Below w.heap.size w wr)) (fun _ i _ => ds.length - (intOf i).toNat)
      case atStart => exact ⟨0, _, _, _, Nat.zero_le _, rfl, rfl, Lib.hid (by simpa using OVD.out), ORD, APD, BBD⟩
      case round =>
        clear OVD APD ORD
        obtain ⟨k, oa, on, oc, hk, rfl, rfl, HO, HR, HA, HB⟩ := hrel
        rcases Nat.lt_or_ge k ds.length with hlt | hge
        · obtain ⟨ga, gc, e, hcap, hc⟩ := HR.out.cells
          simp only [Value.slice.injEq, true_and] at e
          obtain ⟨rfl, rfl⟩ := e
          rcases hc with hn | ⟨g, rfl, hbg, hgl, hcell⟩
          · rw [hn] at hlt; exact absurd hlt (Nat.not_lt_zero _)
          have c0 := hcell k hlt
          have SZ := HZD.out _ (getD_in hlt)
          have pd := add_text ⟨#[68]⟩ (ds.getD k ⟨#[]⟩) (by rw [show (⟨#[68]⟩ : ByteArray).size = 1 from rfl]; omega)
          have TN := Lib.hid (take_next' ds hlt)
          obtain ⟨x, hx⟩ : ∃ x, x = ds.getD k ⟨#[]⟩ := ⟨_, rfl⟩
          rw [← hx] at c0 pd TN
          obtain ⟨y, hy⟩ : ∃ y, y = (⟨#[68]⟩ : ByteArray) ++ x := ⟨_, rfl⟩
          rw [← hy] at pd
          have HY := Lib.hid hy
          have hki : (k : Int) < (ds.length : Int) := by omega
          have hkm : (k : Int) ≤ 4096 := by have := HLD.out; omega
          have LL := Lib.hid (show ([] ++ (ds.take k).map (fun x => (⟨#[68]⟩ : ByteArray) ++ x)).length ≤ 1048576 by rw [List.length_append, List.length_map, List.length_take]; have := HLD.out; have := HPD.out; omega)
          have hsz := Lib.hid HB.out.size
          have HK := Lib.hid hlt
          clear hx hy SZ hcell hgl hbg hcap hk
          go_wp2_with (at_builtin; refine wpList_addS _ _ rfl rfl rfl rfl HO.out HR.out HA.out LL.out hsz.out ?_; intro v' w' o' r' ap' b'; obtain ⟨z1, zl, z2, rfl⟩ := o'.shape)
          go_roundw
          case rel =>
            refine ⟨k + 1, _, _, _, by have := HK.out; omega, by go_num, rfl, Lib.hid ?_, Lib.hid r', Lib.hid ap', Lib.hid (b' _ _ HB.out (Nat.le_refl _))⟩
            rw [TN.out, List.map_append, ← List.append_assoc, List.map_singleton, ← HY.out]; exact o'
          case measure => have := HK.out; simp [intOf]; omega
        · obtain rfl : k = ds.length := by omega
          rw [List.take_length] at HO
          have hff : decide ((ds.length : Int) < (ds.length : Int)) = false := decide_eq_false (by omega)
          clear hge hk
          go_wp2_with fail
          go_ret
          exact ⟨_, rfl, by rw [E.out]; exact HO.out, HB.out⟩
    · obtain ⟨v, rfl⟩ : ∃ v, u = v + 1 := ⟨u - 1, by omega⟩
      have E0 : allF (n + 1) (v + 1) (b + 1) = ([] ++ (allF n (v + 1) b).map (fun x => (⟨#[68]⟩ : ByteArray) ++ x)) ++ (allF n v (b + 1)).map (fun x => (⟨#[85]⟩ : ByteArray) ++ x) := by
        rw [allF_two, List.nil_append]; rfl
      have CD := Lib.hid (ih (v + 1) b w0 (by omega) (by omega))
      have CU := Lib.hid (fun X => ih v (b + 1) X (by omega) (by omega))
      have HLD := allF_many (n := n) (u := v + 1) (d := b) (by omega)
      have HZD : ∀ o ∈ allF n (v + 1) (b), o.size ≤ 12 := fun o ho => by have := allF_size (n := n) (u := v + 1) (d := b) (by omega) ho; omega
      obtain ⟨ds, hds⟩ : ∃ x, x = allF n (v + 1) (b) := ⟨_, rfl⟩
      rw [← hds] at E0 CD HLD HZD
      have HLD := Lib.hid HLD
      have HZD := Lib.hid HZD
      clear hds
      have HLU := allF_many (n := n) (u := v) (d := b + 1) (by omega)
      have HZU : ∀ o ∈ allF n (v) (b + 1), o.size ≤ 12 := fun o ho => by have := allF_size (n := n) (u := v) (d := b + 1) (by omega) ho; omega
      obtain ⟨us, hus⟩ : ∃ x, x = allF n (v) (b + 1) := ⟨_, rfl⟩
      rw [← hus] at E0 CU HLU HZU
      have HLU := Lib.hid HLU
      have HZU := Lib.hid HZU
      clear hus
      obtain ⟨kv, hkv⟩ : ∃ x, x = v + 1 := ⟨_, rfl⟩
      have t1 : ((kv : Int) == 0) = false := by rw [hkv]; simp; omega
      have t2 : (0 : Int) < (kv : Int) := by omega
      have hw : IntKind.i64.wrap ((kv : Int) - 1) = (v : Int) := by rw [hkv, show (((v + 1 : Nat) : Int)) - 1 = (v : Int) by omega]; exact IntWalk.i64_in _ (by omega)
      obtain ⟨kd, hkd⟩ : ∃ x, x = b + 1 := ⟨_, rfl⟩
      have t3 : ((kd : Int) == 0) = false := by rw [hkd]; simp; omega
      have t4 : (0 : Int) < (kd : Int) := by omega
      have hwd : IntKind.i64.wrap ((kd : Int) - 1) = (b : Int) := by rw [hkd, show (((b + 1 : Nat) : Int)) - 1 = (b : Int) by omega]; exact IntWalk.i64_in _ (by omega)
      rw [← hkd] at E0 CU hd12 ⊢
      rw [← hkv] at E0 CD hu12 ⊢
      have E := Lib.hid E0
      have HPD := Lib.hid (show ([] : List ByteArray).length ≤ 4096 by simp)
      have HPU := Lib.hid (show ([] ++ ds.map (fun x => (⟨#[68]⟩ : ByteArray) ++ x)).length ≤ 4096 by rw [List.nil_append, List.length_map]; exact HLD.out)
      clear E0 ih hkv hkd h hn hu
      go_enter Try.func58, Try.ntmps58
      go_upto_region 4 with fail
      rw [HW.out]
      go_wp2_with (go_at_call 58; refine CD.out.mono ?_; rintro e w1D ⟨RD, rfl, oD, bD⟩; obtain ⟨raD, rcD, rfl, -, -⟩ := oD.cells)
      have OVD := Lib.hid (O0.out.below bD)
      have APD := Lib.hid (apart_new O0.out oD (Nat.le_refl _))
      have BBD := Lib.hid (B0.out.trans (bD.mono B0.out.size))
      have ORD := Lib.hid oD
      clear oD bD
      go_loopw [5, 7] (fun o i wr => ∃ (k : Nat) (oa : Option Addr) (on oc : Nat), k ≤ ds.length ∧ i = .int .i64 k ∧ o = .slice oa on oc ∧ Hid (OwnS wr w.heap.size o ([] ++ (ds.take k).map (fun x => (⟨#[68]⟩ : ByteArray) ++ x))) ∧ Hid (OwnS wr w0.heap.size (.slice raD ds.length rcD) ds) ∧ Hid (((.slice raD ds.length rcD) : Value).ownBlock = none ∨ ((.slice raD ds.length rcD) : Value).ownBlock ≠ o.ownBlock) ∧ Hid (Below w.heap.size w wr)) (fun _ i _ => ds.length - (intOf i).toNat)
      case atStart => exact ⟨0, _, _, _, Nat.zero_le _, rfl, rfl, Lib.hid (by simpa using OVD.out), ORD, APD, BBD⟩
      case round =>
        clear OVD APD ORD
        obtain ⟨k, oa, on, oc, hk, rfl, rfl, HO, HR, HA, HB⟩ := hrel
        rcases Nat.lt_or_ge k ds.length with hlt | hge
        · obtain ⟨ga, gc, e, hcap, hc⟩ := HR.out.cells
          simp only [Value.slice.injEq, true_and] at e
          obtain ⟨rfl, rfl⟩ := e
          rcases hc with hn | ⟨g, rfl, hbg, hgl, hcell⟩
          · rw [hn] at hlt; exact absurd hlt (Nat.not_lt_zero _)
          have c0 := hcell k hlt
          have SZ := HZD.out _ (getD_in hlt)
          have pd := add_text ⟨#[68]⟩ (ds.getD k ⟨#[]⟩) (by rw [show (⟨#[68]⟩ : ByteArray).size = 1 from rfl]; omega)
          have TN := Lib.hid (take_next' ds hlt)
          obtain ⟨x, hx⟩ : ∃ x, x = ds.getD k ⟨#[]⟩ := ⟨_, rfl⟩
          rw [← hx] at c0 pd TN
          obtain ⟨y, hy⟩ : ∃ y, y = (⟨#[68]⟩ : ByteArray) ++ x := ⟨_, rfl⟩
          rw [← hy] at pd
          have HY := Lib.hid hy
          have hki : (k : Int) < (ds.length : Int) := by omega
          have hkm : (k : Int) ≤ 4096 := by have := HLD.out; omega
          have LL := Lib.hid (show ([] ++ (ds.take k).map (fun x => (⟨#[68]⟩ : ByteArray) ++ x)).length ≤ 1048576 by rw [List.length_append, List.length_map, List.length_take]; have := HLD.out; have := HPD.out; omega)
          have hsz := Lib.hid HB.out.size
          have HK := Lib.hid hlt
          clear hx hy SZ hcell hgl hbg hcap hk
          go_wp2_with (at_builtin; refine wpList_addS _ _ rfl rfl rfl rfl HO.out HR.out HA.out LL.out hsz.out ?_; intro v' w' o' r' ap' b'; obtain ⟨z1, zl, z2, rfl⟩ := o'.shape)
          go_roundw
          case rel =>
            refine ⟨k + 1, _, _, _, by have := HK.out; omega, by go_num, rfl, Lib.hid ?_, Lib.hid r', Lib.hid ap', Lib.hid (b' _ _ HB.out (Nat.le_refl _))⟩
            rw [TN.out, List.map_append, ← List.append_assoc, List.map_singleton, ← HY.out]; exact o'
          case measure => have := HK.out; simp [intOf]; omega
        · obtain rfl : k = ds.length := by omega
          rw [List.take_length] at HO
          have hff : decide ((ds.length : Int) < (ds.length : Int)) = false := decide_eq_false (by omega)
          have O1 := HO
          have B1 := HB
          have CUX := CU.out wr
          clear hge hk HO HR HA HB
          go_wp2_with (go_at_call 58; refine CUX.mono ?_; rintro e w1U ⟨RU, rfl, oU, bU⟩; obtain ⟨raU, rcU, rfl, -, -⟩ := oU.cells)
          have OVU := Lib.hid (O1.out.below bU)
          have APU := Lib.hid (apart_new O1.out oU (Nat.le_refl _))
          have BBU := Lib.hid (B1.out.trans (bU.mono B1.out.size))
          have ORU := Lib.hid oU
          clear oU bU
          go_loopw [5, 9] (fun o i wq => ∃ (k : Nat) (oa : Option Addr) (on oc : Nat), k ≤ us.length ∧ i = .int .i64 k ∧ o = .slice oa on oc ∧ Hid (OwnS wq w.heap.size o (([] ++ ds.map (fun x => (⟨#[68]⟩ : ByteArray) ++ x)) ++ (us.take k).map (fun x => (⟨#[85]⟩ : ByteArray) ++ x))) ∧ Hid (OwnS wq wr.heap.size (.slice raU us.length rcU) us) ∧ Hid (((.slice raU us.length rcU) : Value).ownBlock = none ∨ ((.slice raU us.length rcU) : Value).ownBlock ≠ o.ownBlock) ∧ Hid (Below w.heap.size w wq)) (fun _ i _ => us.length - (intOf i).toNat)
          case atStart => exact ⟨0, _, _, _, Nat.zero_le _, rfl, rfl, Lib.hid (by simpa using OVU.out), ORU, APU, BBU⟩
          case round =>
            clear OVU APU ORU
            obtain ⟨k, oa, on, oc, hk, rfl, rfl, HO, HR, HA, HB⟩ := hrel
            rcases Nat.lt_or_ge k us.length with hlt | hge
            · obtain ⟨ga, gc, e, hcap, hc⟩ := HR.out.cells
              simp only [Value.slice.injEq, true_and] at e
              obtain ⟨rfl, rfl⟩ := e
              rcases hc with hn | ⟨g, rfl, hbg, hgl, hcell⟩
              · rw [hn] at hlt; exact absurd hlt (Nat.not_lt_zero _)
              have c0 := hcell k hlt
              have SZ := HZU.out _ (getD_in hlt)
              have pd := add_text ⟨#[85]⟩ (us.getD k ⟨#[]⟩) (by rw [show (⟨#[85]⟩ : ByteArray).size = 1 from rfl]; omega)
              have TN := Lib.hid (take_next' us hlt)
              obtain ⟨x, hx⟩ : ∃ x, x = us.getD k ⟨#[]⟩ := ⟨_, rfl⟩
              rw [← hx] at c0 pd TN
              obtain ⟨y, hy⟩ : ∃ y, y = (⟨#[85]⟩ : ByteArray) ++ x := ⟨_, rfl⟩
              rw [← hy] at pd
              have HY := Lib.hid hy
              have hki : (k : Int) < (us.length : Int) := by omega
              have hkm : (k : Int) ≤ 4096 := by have := HLU.out; omega
              have LL := Lib.hid (show (([] ++ ds.map (fun x => (⟨#[68]⟩ : ByteArray) ++ x)) ++ (us.take k).map (fun x => (⟨#[85]⟩ : ByteArray) ++ x)).length ≤ 1048576 by rw [List.length_append, List.length_map, List.length_take]; have := HLU.out; have := HPU.out; omega)
              have hsz := Lib.hid HB.out.size
              have HK := Lib.hid hlt
              clear hx hy SZ hcell hgl hbg hcap hk
              go_wp2_with (at_builtin; refine wpList_addS _ _ rfl rfl rfl rfl HO.out HR.out HA.out LL.out hsz.out ?_; intro v' w' o' r' ap' b'; obtain ⟨z1, zl, z2, rfl⟩ := o'.shape)
              go_roundw
              case rel =>
                refine ⟨k + 1, _, _, _, by have := HK.out; omega, by go_num, rfl, Lib.hid ?_, Lib.hid r', Lib.hid ap', Lib.hid (b' _ _ HB.out (Nat.le_refl _))⟩
                rw [TN.out, List.map_append, ← List.append_assoc, List.map_singleton, ← HY.out]; exact o'
              case measure => have := HK.out; simp [intOf]; omega
            · obtain rfl : k = us.length := by omega
              rw [List.take_length] at HO
              have hff : decide ((us.length : Int) < (us.length : Int)) = false := decide_eq_false (by omega)
              clear hge hk
              go_wp2_with fail
              go_ret
              exact ⟨_, rfl, by rw [E.out]; exact HO.out, HB.out⟩

end Go.Proofs.Ytchnaceihmepkaa
