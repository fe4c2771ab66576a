/- pinasterlaw03.works, called without arguments, returns true, in each world: reckoned out on the shadow. Conditions: none. -/
import Derived.Test.YtgkfllgmjnndhaaProg
import Derived.Test.YtgkfllgmjnndhaaXX
import Derived.KernelRfl
namespace Go.Proofs.Ytgkfllgmjnndhaa
open Go Go.RowKit
set_option maxRecDepth 1000000 in
theorem potKnown_works_run : isTrue (@runS ⟨[]⟩ Try.prog [] 20000 36 []) = true := by kernel_rfl
theorem potKnown_works_null : NullR Try.prog 36 (.bool true) := closed_null null_nil potKnown_works_run
end Go.Proofs.Ytgkfllgmjnndhaa
