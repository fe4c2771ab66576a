/- pinasterlaw08.shared, called without arguments, returns true, in each world: reckoned out on the shadow. Conditions: none. -/
import Derived.Test.YtghmokjdknapcaaProg
import Derived.Test.YtghmokjdknapcaaXX
import Derived.KernelRfl
namespace Go.Proofs.Ytghmokjdknapcaa
open Go Go.RowKit
set_option maxRecDepth 1000000 in
theorem purseKnown_shared_run : isTrue (@runS ⟨[], []⟩ Try.prog [] 30000 14 []) = true := by kernel_rfl
theorem purseKnown_shared_null : NullR Try.prog 14 (.bool true) := closed_null null_nil purseKnown_shared_run
end Go.Proofs.Ytghmokjdknapcaa
