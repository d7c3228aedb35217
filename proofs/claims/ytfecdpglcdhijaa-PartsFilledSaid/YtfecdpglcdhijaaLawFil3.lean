/- The law PartsFilled: its walk, all cases together. Condition: the slice lies in memory. -/
import Derived.Test.YtfecdpglcdhijaaLawFil2
namespace Go.Proofs.Ytfecdpglcdhijaa
open Go.RowKit

theorem lawFilled_any (a : Option Addr) (n c : Nat) (xs : List Int) (m : Int) (w : World) (h : Ints w a n xs) (hc : n ≤ c) (hn : n ≤ 4611686018427387904) (hcm : c ≤ maxLen) :
    Calls Try.prog 14 #[.slice a n c, .int .i64 m] w fun e w' => e = .returned (.bool true) ∧ Below w.heap.size w w' := by
  cases hP : isP xs with
  | false => exact lawFilled_no a n c xs m w h hP hc hn hcm
  | true =>
    by_cases hs : sumL xs ≤ 20
    · exact lawFilled_ok a n c xs m w h hP hs hc hcm
    · exact lawFilled_big a n c xs m w h hP (by omega) hc hcm
end Go.Proofs.Ytfecdpglcdhijaa
