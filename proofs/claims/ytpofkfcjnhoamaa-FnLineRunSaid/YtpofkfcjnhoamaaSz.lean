/-
  What the laws' helper on sizes says of one list. No condition.
-/
import Derived.Test.YtpofkfcjnhoamaaRowK
import Derived.Test.YtpofkfcjnhoamaaSlices
namespace Go.Proofs.Ytpofkfcjnhoamaa
open Go.RowKit

set_option maxHeartbeats 400000 in
theorem szInts {w : World} {a : Option Addr} {n cap : Nat} {m : Int} (hn : n ≤ maxLen) (h0 : 0 ≤ m) (h1 : m ≤ 1048576) :
    Calls Try.prog 63 #[.slice a n cap, .int .i64 m] w fun e w' => e = .returned (.int .i64 (if m < n then -1 else m - n)) ∧ w = w' := by
  unfold maxLen at hn
  by_cases hlt : m < (n : Int)
  · go_enter Try.func63, Try.ntmps63
    go_wp2_with fail
    go_ret
    exact ⟨rfl, rfl⟩
  · have hge : (n : Int) ≤ m := by omega
    clear hlt
    go_enter Try.func63, Try.ntmps63
    go_wp2_with fail
    go_ret
    exact ⟨rfl, rfl⟩

end Go.Proofs.Ytpofkfcjnhoamaa
