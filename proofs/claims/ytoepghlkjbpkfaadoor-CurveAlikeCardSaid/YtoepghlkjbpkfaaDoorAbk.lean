/- A block that a region makes while it draws its order. No condition. -/
import Derived.Test.YtoepghlkjbpkfaaDoorExp
namespace Go.Proofs.YtoepghlkjbpkfaaDoor
open Go.RowKit

/-- What is left after a region is the same for each block and each world that it may leave. -/
theorem share_rest {S G : Nat → World → Prop} {T : Prop} (main : (∀ g W, S g W → G g W) → T) (rest : ∀ g W, S g W → G g W) : T := main rest
end Go.Proofs.YtoepghlkjbpkfaaDoor
