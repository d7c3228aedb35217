/- The law SumsDegrees: it returns true, whatever its argument is. -/
import Derived.Test.YtopfcppmbkidgaaLawDeg1
import Derived.Test.YtopfcppmbkidgaaLawDeg2
namespace Go.Proofs.Ytopfcppmbkidgaa
open Go.RowKit

theorem deg_any (n : Int) (w : World) : Calls Try.prog 11 #[.int .i64 n] w fun e w' => e = .returned (.bool true) ∧ Below w.heap.size w w' := by
  by_cases h : n < 1 ∨ 60 < n
  · exact deg_no n h w
  · obtain ⟨k, rfl⟩ := Int.eq_ofNat_of_zero_le (show 0 ≤ n by omega)
    by_cases h1 : k = 1
    · subst h1
      exact deg_one w
    · exact deg_yes k (by omega) (by omega) w
end Go.Proofs.Ytopfcppmbkidgaa
