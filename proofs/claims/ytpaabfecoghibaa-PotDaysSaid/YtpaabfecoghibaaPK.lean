/- pinasterlaw03.works, called without arguments, returns true, in each world: reckoned out on the shadow. Conditions: none. -/
import Derived.Test.YtpaabfecoghibaaProg
import Derived.Test.YtpaabfecoghibaaK11
import Derived.KernelRfl
namespace Go.Proofs.Ytpaabfecoghibaa
open Go Go.RowKit
set_option linter.unusedSimpArgs false
set_option linter.unusedVariables false
set_option maxRecDepth 1000000 in
theorem pot_works_run : isTrue (@runS ⟨[], [], false, 0⟩ Try.prog gl0 60000 7 []) = true := by kernel_rfl
theorem pot_works_null : NullR Try.prog 7 (.bool true) := @closed_null ⟨[], [], false, 0⟩ _ _ _ _ null_nil pot_works_run
end Go.Proofs.Ytpaabfecoghibaa
