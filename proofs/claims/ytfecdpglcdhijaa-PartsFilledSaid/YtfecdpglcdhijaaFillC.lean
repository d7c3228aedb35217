/- The numbers of fillings, checked by the kernel for the partitions of at most 20 whose greatest part is from 6 to 6. No condition. -/
import Derived.Test.YtfecdpglcdhijaaFillSum
namespace Go.Proofs.Ytfecdpglcdhijaa
set_option maxRecDepth 1000000 in
theorem filledC : chkPart filledOK 5 1 = true := by decide +kernel
end Go.Proofs.Ytfecdpglcdhijaa
