/- The best fractions: one part of the numbers. -/
import Derived.Test.YtbdadckedhcibaaBestMath
namespace Go.Proofs.Ytbdadckedhcibaa
theorem bestCheck3 : bestCheck 34 11 = true := by decide +kernel
theorem bestCheck4 : bestCheck 45 11 = true := by decide +kernel
theorem bestCheck5 : bestCheck 56 11 = true := by decide +kernel
end Go.Proofs.Ytbdadckedhcibaa
