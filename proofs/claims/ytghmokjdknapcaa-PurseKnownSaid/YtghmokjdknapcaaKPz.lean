/- pinasterlaw08.PurseKnown comes to true on the shadow, where the ends of some calls are known. Conditions: none. -/
import Derived.Test.YtghmokjdknapcaaProg
import Derived.Test.YtghmokjdknapcaaXX
import Derived.KernelRfl
namespace Go.Proofs.Ytghmokjdknapcaa
open Go Go.RowKit
set_option maxRecDepth 1000000 in
theorem purseKnown_run : isTrue (@runS ⟨[(16, .bool true), (14, .bool true), (15, .bool true)], []⟩ Try.prog [] 30000 3 []) = true := by kernel_rfl
end Go.Proofs.Ytghmokjdknapcaa
