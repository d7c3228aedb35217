/- The squares of the numbers of fillings over all partitions of a number of at most 14, checked by the kernel. No condition. -/
import Derived.Test.YtfecdpglcdhijaaFillSum
namespace Go.Proofs.Ytfecdpglcdhijaa
set_option maxRecDepth 1000000 in
theorem squaresF : (List.range 15).all squaresOK = true := by decide +kernel
end Go.Proofs.Ytfecdpglcdhijaa
