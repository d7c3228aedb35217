/- The best fractions: one part of the numbers. -/
import Derived.Test.YtbdadckedhcibaaBestMath
namespace Go.Proofs.Ytbdadckedhcibaa
theorem bestCheck6 : bestCheck 67 11 = true := by decide +kernel
theorem bestCheck7 : bestCheck 78 11 = true := by decide +kernel
theorem bestCheck8 : bestCheck 89 12 = true := by decide +kernel
end Go.Proofs.Ytbdadckedhcibaa
