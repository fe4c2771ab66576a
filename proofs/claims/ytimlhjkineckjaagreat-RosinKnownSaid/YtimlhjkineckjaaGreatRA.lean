/- pinasterlaw07.works, called without arguments, returns true, in each world: reckoned on the shadow, where the ends of some calls are known. Conditions: none. -/
import Derived.Test.YtimlhjkineckjaaGreatProg
import Derived.Test.YtimlhjkineckjaaGreatYD
import Derived.KernelRfl
import Derived.Test.YtimlhjkineckjaaGreatFF
import Derived.Test.YtimlhjkineckjaaGreatG0
import Derived.Test.YtimlhjkineckjaaGreatG1
import Derived.Test.YtimlhjkineckjaaGreatG2
import Derived.Test.YtimlhjkineckjaaGreatG3
namespace Go.Proofs.YtimlhjkineckjaaGreat
open Go Go.RowKit
set_option maxRecDepth 1000000 in
theorem rosin_works_run : isTrue (@runS ⟨[], [F1x, G0x, G1x, G2x, G3x]⟩ Tryz.prog [] 30000 22 []) = true := by kernel_rfl
theorem rosin_works_null : NullR Tryz.prog 22 (.bool true) := closed_nullE null_nil (ent_cons F1_ent (ent_cons G0_ent (ent_cons G1_ent (ent_cons G2_ent (ent_cons G3_ent ent_nil))))) rosin_works_run
end Go.Proofs.YtimlhjkineckjaaGreat
