/- pinasterlaw03.PotKnown comes to true on the shadow, where the ends of some calls are known. Conditions: none. -/
import Derived.Test.YtgkfllgmjnndhaaProg
import Derived.Test.YtgkfllgmjnndhaaXX
import Derived.KernelRfl
namespace Go.Proofs.Ytgkfllgmjnndhaa
open Go Go.RowKit
set_option maxRecDepth 1000000 in
theorem potKnown_run : isTrue (@runS ⟨[(36, .bool true)]⟩ Try.prog [] 20000 4 []) = true := by kernel_rfl
end Go.Proofs.Ytgkfllgmjnndhaa
