/-
  Drawn ends of the staff and directions. For codes of at most 1048576 bytes.
-/
import Derived.Test.YthjodagbgmpbhaaDoorDrawA
namespace Go.Proofs.YthjodagbgmpbhaaDoor
open Go.RowKit Go.Sort

/-- A drawn end and directions. -/
def DrawnAt (w : World) (e : Ending) (w' : World) : Prop := ∃ (x : Int) (S : ByteArray), e = .returned (.tuple #[.int .i64 x, .string S]) ∧ 0 ≤ x ∧ x ≤ 3 ∧ S.size ≤ 100 ∧ Below w.heap.size w w'

set_option maxHeartbeats 2000000 in
theorem drawStaffKinds {w : World} {a : Option Addr} {len cap : Nat} {zs : List Int} (h : IsRowK .u8 w a len cap zs) (hl : len ≤ 1048576) :
    Calls Tryd.prog 9 #[.slice a len cap] w (DrawnAt w) := by
  go_enter Tryd.func9, Tryd.ntmps9
  go_wp2_with (go_at_call 18; refine (openRd h hl).mono ?_)
  rintro e w1 ⟨g, rfl, hg, hr, b1⟩
  have R1 := Lib.hid hr
  have B1 := Lib.hid b1
  clear hr b1
  go_wp2_with (go_at_call 22; refine (pick R1.out (by omega) (by omega) (by omega)).mono ?_)
  rintro e w2 ⟨x, rfl, x0, x1, hr, g2⟩
  have x1' := x1 (by omega)
  have R2 := Lib.hid hr
  have B2 := Lib.hid (Below.pick B1.out B1.out.size hg g2)
  clear hr g2 x1
  go_wp2_with (go_at_call 22; refine (pick R2.out (by omega) (by omega) (by omega)).mono ?_)
  rintro e w3 ⟨y, rfl, y0, y1, hr, g3⟩
  have y1' := y1 (by omega)
  have R3 := Lib.hid hr
  have B3 := Lib.hid (Below.pick B2.out B2.out.size hg g3)
  clear hr g3 y1
  have yy : 0 ≤ y / 15 ∧ y / 15 ≤ 1 := by omega
  go_wp2_with (go_at_call 17; refine (drawDirs R3.out (by omega) hg 8 (by omega)).mono ?_)
  rintro e w4 ⟨S, q, rfl, hS, -, -, b4⟩
  go_wp2_with fail
  go_ret2
  exact ⟨_, S, rfl, by omega, by omega, hS, B3.out.trans b4⟩

set_option maxHeartbeats 1000000 in
theorem drawStaffMany {w : World} {a : Option Addr} {len cap : Nat} {zs : List Int} (h : IsRowK .u8 w a len cap zs) (hl : len ≤ 1048576) :
    Calls Tryd.prog 15 #[.slice a len cap] w (DrawnAt w) := by
  go_enter Tryd.func15, Tryd.ntmps15
  go_wp2_with (go_at_call 9; refine (drawStaffKinds h hl).mono ?_)
  rintro e w1 ⟨x, S, rfl, h1, h2, h3, b1⟩
  go_wp2_with fail
  go_ret2
  exact ⟨x, S, rfl, h1, h2, h3, b1⟩

end Go.Proofs.YthjodagbgmpbhaaDoor
