/- The numbers of fillings, checked by the kernel for the partitions of at most 20 whose greatest part is from 1 to 4. No condition. -/
import Derived.Test.YtfecdpglcdhijaaFillSum
namespace Go.Proofs.Ytfecdpglcdhijaa
set_option maxRecDepth 1000000 in
theorem filledA : chkPart filledOK 0 4 = true := by decide +kernel
end Go.Proofs.Ytfecdpglcdhijaa
