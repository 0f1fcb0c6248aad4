/-
  Drawn short texts: directions. (What chapter 3's drawn texts hold too: never together with DrawE.) For codes of at most 1048576 bytes.
-/
import Derived.Test.YtilkphehonilbaaDoorDraws1
import Derived.Test.YtilkphehonilbaaDoorTri
namespace Go.Proofs.YtilkphehonilbaaDoor
open Go.RowKit Go.Sort

theorem Rdr.lt {w : World} {g p : Nat} (h : Rdr w g p) : g < w.heap.size := by
  obtain ⟨v, n, h1, _⟩ := h
  exact (Array.getElem?_eq_some_iff.1 h1).1
theorem Rdr.below {w w' : World} {g p B : Nat} (h : Rdr w g p) (hb : Below B w w') (hg : g < B) : Rdr w' g p := by
  obtain ⟨v, n, h1, hbt, hne⟩ := h
  refine ⟨v, n, (hb.block g hg).trans h1, ?_, hne⟩
  obtain ⟨a, cap, rfl, hm, hc⟩ := hbt
  refine ⟨a, cap, rfl, hm, ?_⟩
  rcases hc with h0 | ⟨b, o, rfl, hb', hcell⟩
  · exact .inl h0
  · by_cases h0 : n = 0
    · exact .inl h0
    · have hbg := hne (by omega) b o _ _ rfl
      refine .inr ⟨b, o, rfl, Nat.lt_of_lt_of_le hb' hb.size, fun i hi => ?_⟩
      obtain ⟨x, hx, hx2⟩ := hcell i hi
      exact ⟨x, (hb.cell (p := ⟨b, o + i, none⟩) (by simp only; omega)).trans hx, hx2⟩
/-- A pick, from a base below the reader's block on. -/
theorem Below.pick {B g : Nat} {w w1 w2 : World} (h : Below B w w1) (hB : B ≤ w1.heap.size) (hg : B ≤ g) (k : w1.grownBy w2 (some g)) : Below B w w2 :=
  h.grown k hB (fun b hb => by simp only [Option.some.injEq] at hb; omega)

/-- A list of short strings. -/
def Shorts (w : World) (v : Value) (n : Nat) : Prop :=
  ∃ b cap, v = .slice (some ⟨b, 0, none⟩) n cap ∧ b < w.heap.size ∧ ∀ i, i < n → ∃ s : ByteArray, w.cell? ⟨b, i, none⟩ = some (.string s) ∧ s.size ≤ 2

set_option maxHeartbeats 1000000 in
theorem ofRd {w : World} {g p n : Nat} {v : Value} (h : Rdr w g p) (hs : Shorts w v n) (hn1 : 1 ≤ n) (hn : n ≤ 100) (hp : p ≤ 1000000) (hne : ∀ b o k c, v = .slice (some ⟨b, o, none⟩) k c → b ≠ g) :
    Calls Tryd.prog 56 #[.pointer (some ⟨g, 0, none⟩), v] w fun e w' => ∃ s : ByteArray, e = .returned (.string s) ∧ s.size ≤ 2 ∧ Rdr w' g (p + 1) ∧ w.grownBy w' (some g) := by
  obtain ⟨b, cap, rfl, hb, hc⟩ := hs
  have hbg := hne b 0 n cap rfl
  have HC := Lib.hid hc
  clear hc hne
  go_enter Tryd.func56, Tryd.ntmps56
  go_wp2_with (go_at_call 35; refine (pick h (by omega) (by omega) (by omega)).mono ?_)
  rintro e w2 ⟨r, rfl, hr0, hr1, hr, g2⟩
  have hr1' := hr1 (by omega)
  obtain ⟨j, rfl⟩ : ∃ j : Nat, r = j := ⟨r.toNat, by omega⟩
  obtain ⟨s, hsc, hss⟩ := HC.out j (by omega)
  have c1 : w2.cell? ⟨b, 0 + j, none⟩ = some (.string s) := by
    rw [Nat.zero_add]
    exact (World.cell?_of_block (g2.block b hb (fun e => hbg (by simpa using e)))).trans hsc
  have c2 := c1
  rw [Nat.zero_add] at c2
  clear hr1 hsc
  go_wp2_with fail
  go_ret
  exact ⟨s, rfl, hss, hr, g2⟩

theorem lit_shorts3 (w : World) (s1 s2 s3 : ByteArray) (t : TypeId) (h1 : s1.size ≤ 2) (h2 : s2.size ≤ 2) (h3 : s3.size ≤ 2) : Shorts (w.alloc (.cells #[.string s1, .string s2, .string s3] t)) (.slice (some ⟨w.heap.size, 0, none⟩) 3 3) 3 := by
  have hn : (w.alloc (.cells #[.string s1, .string s2, .string s3] t)).heap[w.heap.size]? = some (.cells #[.string s1, .string s2, .string s3] t (0, 0)) := Go.Deep.blk_alloc_new _ _
  refine ⟨w.heap.size, 3, rfl, (Array.getElem?_eq_some_iff.1 hn).1, fun i hi => ?_⟩
  match i, hi with
  | 0, _ => exact ⟨s1, by simp only [World.cell?, hn]; rfl, h1⟩
  | 1, _ => exact ⟨s2, by simp only [World.cell?, hn]; rfl, h2⟩
  | 2, _ => exact ⟨s3, by simp only [World.cell?, hn]; rfl, h3⟩

theorem lit_shorts2 (w : World) (s1 s2 : ByteArray) (t : TypeId) (h1 : s1.size ≤ 2) (h2 : s2.size ≤ 2) : Shorts (w.alloc (.cells #[.string s1, .string s2] t)) (.slice (some ⟨w.heap.size, 0, none⟩) 2 2) 2 := by
  have hn : (w.alloc (.cells #[.string s1, .string s2] t)).heap[w.heap.size]? = some (.cells #[.string s1, .string s2] t (0, 0)) := Go.Deep.blk_alloc_new _ _
  refine ⟨w.heap.size, 2, rfl, (Array.getElem?_eq_some_iff.1 hn).1, fun i hi => ?_⟩
  match i, hi with
  | 0, _ => exact ⟨s1, by simp only [World.cell?, hn]; rfl, h1⟩
  | 1, _ => exact ⟨s2, by simp only [World.cell?, hn]; rfl, h2⟩

/-- What a drawn text is. -/
def DrawnText (B : Nat) (w : World) (g P m : Nat) (e : Ending) (w' : World) : Prop :=
  ∃ (S : ByteArray) (q : Nat), e = .returned (.string S) ∧ S.size ≤ m ∧ Rdr w' g q ∧ q ≤ P ∧ Below B w w'
/-- A short drawn text; nothing that was there has turned. -/
def ShortText (w : World) (m : Nat) (e : Ending) (w' : World) : Prop := ∃ S : ByteArray, e = .returned (.string S) ∧ S.size ≤ m ∧ Below w.heap.size w w'

/-- The reader and the list of a literal that is made behind it. -/
theorem lit_apart {g n k : Nat} {w : World} (h : g < w.heap.size) : ∀ b o m c, Value.slice (some ⟨w.heap.size, 0, none⟩) n k = .slice (some ⟨b, o, none⟩) m c → b ≠ g := by
  intro b o m c e
  simp only [Value.slice.injEq, Option.some.injEq, Addr.mk.injEq] at e
  omega

end Go.Proofs.YtilkphehonilbaaDoor
