/- The best fractions: one part of the numbers. -/
import Derived.Test.YtbdadckedhcibaaBestMath
namespace Go.Proofs.Ytbdadckedhcibaa
theorem bestCheck0 : bestCheck 0 12 = true := by decide +kernel
theorem bestCheck1 : bestCheck 12 11 = true := by decide +kernel
theorem bestCheck2 : bestCheck 23 11 = true := by decide +kernel
end Go.Proofs.Ytbdadckedhcibaa
