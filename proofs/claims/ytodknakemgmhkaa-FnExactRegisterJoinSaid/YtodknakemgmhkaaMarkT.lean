/-
  The laws' mark of a string: a text of its number. For numbers of at most 4611686018427387904.
-/
import Derived.Test.YtodknakemgmhkaaBlockH
import Derived.Laws.IdiomStrings
namespace Go.Proofs.Ytodknakemgmhkaa
open Go.RowKit Go.Sort

def digB (d : Nat) : UInt8 := UInt8.ofNat (48 + d)
theorem digB_toNat {d : Nat} (h : d < 10) : (digB d).toNat = 48 + d := by
  unfold digB
  rw [UInt8.toNat_ofNat']
  omega
/-- The digits of a number ahead of a text. -/
def mkGo (k : Nat) (out : ByteArray) : ByteArray := if _h : k = 0 then out else mkGo (k / 10) (⟨#[digB (k % 10)]⟩ ++ out)
  termination_by k
  decreasing_by omega
theorem mkGo_zero (out : ByteArray) : mkGo 0 out = out := by unfold mkGo; rfl
theorem mkGo_step {k : Nat} (h : k ≠ 0) (out : ByteArray) : mkGo k out = mkGo (k / 10) (⟨#[digB (k % 10)]⟩ ++ out) := by
  rw [mkGo]
  simp [h]
/-- The mark of a number. -/
def mkT (k : Int) : ByteArray := if k ≤ 0 then ⟨#[109, 48]⟩ else ⟨#[109]⟩ ++ mkGo k.toNat ⟨#[]⟩

theorem conv_one (w : World) (d : Nat) (hd : d < 10) : (Go.convert 98 9 (.slice (some ⟨w.heap.size, 0, none⟩) 1 1)).run Try.prog (w.alloc (.cells #[.int .u8 (48 + (d : Int))] 5)) = .ok (.string ⟨#[digB d]⟩) (w.alloc (.cells #[.int .u8 (48 + (d : Int))] 5)) := by
  have hn : (w.alloc (.cells #[.int .u8 (48 + (d : Int))] 5)).heap[w.heap.size]? = some (.cells #[.int .u8 (48 + (d : Int))] 5 (0, 0)) := Go.Deep.blk_alloc_new _ _
  refine run_convert_bytes_back _ _ _ 5 ⟨w.heap.size, 0, none⟩ 1 [digB d] Try.underlying98 Try.underlying5 Try.underlying9 ?_
  intro j hj
  have : j = 0 := by simpa using hj
  subst this
  have e : (⟨w.heap.size, 0, none⟩ : Addr).add 0 = ⟨w.heap.size, 0, none⟩ := rfl
  rw [e]
  simp only [World.cell?, hn, List.getElem_cons_zero, digB_toNat hd]
  rfl

set_option maxRecDepth 100000 in
set_option maxHeartbeats 4000000 in
theorem markText (k : Int) (hk0 : 0 ≤ k) (hk : k ≤ 4611686018427387904) (w : World) :
    Calls Try.prog 73 #[.int .i64 k] w fun e w' => e = .returned (.string (mkT k)) ∧ Below w.heap.size w w' := by
  by_cases h0 : k ≤ 0
  · have E := Lib.hid (show mkT k = ⟨#[109, 48]⟩ by unfold mkT; rw [if_pos h0])
    go_enter Try.func73, Try.ntmps73
    go_wp2_with fail
    go_ret
    exact ⟨ret_str E.out.symm, Below.refl _ _⟩
  · obtain ⟨K, rfl⟩ : ∃ K : Nat, k = K := ⟨k.toNat, by omega⟩
    have E := Lib.hid (show mkT (K : Int) = ⟨#[109]⟩ ++ mkGo K ⟨#[]⟩ by unfold mkT; rw [if_neg h0]; rfl)
    have hK : K ≤ 4611686018427387904 := by omega
    go_enter Try.func73, Try.ntmps73
    go_wp2_with fail
    go_loopw [0, 3] (fun v s wr => ∃ (k : Nat) (out : ByteArray), v = .int .i64 k ∧ s = .string out ∧ out.size + k ≤ K ∧ mkGo k out = mkGo K ⟨#[]⟩ ∧ Below w.heap.size w wr) (fun v _ _ => (intOf v).toNat)
    case atStart => exact ⟨K, ⟨#[]⟩, rfl, rfl, by show 0 + K ≤ K; omega, rfl, Below.refl _ _⟩
    case round =>
      obtain ⟨k, out, rfl, rfl, hsz, hgo, hbel⟩ := hrel
      have GO := Lib.hid hgo
      clear hgo
      by_cases hz : k = 0
      · subst hz
        have EE := Lib.hid (show mkT (K : Int) = ⟨#[109]⟩ ++ out by rw [E.out, ← GO.out, mkGo_zero])
        have hadd : ¬ 9223372036854775807 < (1 : Nat) + out.size := by omega
        go_wp2_with fail
        go_ret
        exact ⟨ret_str EE.out.symm, hbel⟩
      · have hpos : (0 : Int) < (k : Int) := by omega
        obtain ⟨d, hd⟩ : ∃ d, d = k % 10 := ⟨_, rfl⟩
        obtain ⟨q, hq⟩ : ∃ q, q = k / 10 := ⟨_, rfl⟩
        have hd10 : d < 10 := by omega
        have hrem : (k : Int).tmod 10 = (d : Int) := by rw [hd]; rfl
        have hquo : (k : Int).tdiv 10 = (q : Int) := by rw [hq]; rfl
        have hw8 : IntKind.u8.wrap (48 + (d : Int)) = 48 + (d : Int) := by
          show (48 + (d : Int)) % 256 = _
          omega
        have hcv := conv_one wr d hd10
        have hb2 := hbel.alloc hbel.size (.cells #[.int .u8 (48 + (d : Int))] 5)
        have hadd : ¬ 9223372036854775807 < (1 : Nat) + out.size := by omega
        have GN := Lib.hid (show mkGo q (⟨#[digB d]⟩ ++ out) = mkGo K ⟨#[]⟩ by rw [← GO.out, mkGo_step hz, hd, hq])
        have hs2 : ((⟨#[digB d]⟩ : ByteArray) ++ out).size + q ≤ K := by
          rw [ByteArray.size_append]
          show 1 + out.size + q ≤ K
          omega
        have hqk : q < k := by omega
        clear hd hq
        go_wp2_with fail
        go_roundw
        case rel => exact ⟨q, _, rfl, rfl, hs2, GN.out, hb2⟩
        case measure => simp [intOf]; omega

end Go.Proofs.Ytodknakemgmhkaa
