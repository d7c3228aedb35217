/- The count of primitive solutions of small numbers: one part of the numbers. -/
import Derived.Test.YtbdadckedhcibaaScan
namespace Go.Proofs.Ytbdadckedhcibaa
theorem scanCheckA : scanCheck 0 35 = true := by decide +kernel
end Go.Proofs.Ytbdadckedhcibaa
