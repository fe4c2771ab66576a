/- pinasterlaw07.RosinKnown, called without arguments, returns true, in each world: reckoned on the shadow, where the ends of some calls are known. Conditions: none. -/
import Derived.Test.YtimlhjkineckjaaGreatProg
import Derived.Test.YtimlhjkineckjaaGreatYD
import Derived.KernelRfl
import Derived.Test.YtimlhjkineckjaaGreatRA
import Derived.Test.YtimlhjkineckjaaGreatFF
import Derived.Test.YtimlhjkineckjaaGreatI1
import Derived.Test.YtimlhjkineckjaaGreatI2
import Derived.Test.YtimlhjkineckjaaGreatJJ
namespace Go.Proofs.YtimlhjkineckjaaGreat
open Go Go.RowKit
set_option maxRecDepth 1000000 in
theorem rosinKnown_run : isTrue (@runS ⟨[(22, .bool true)], [F1x, F2x, F3x, I1x, I2x, J1x, J2x, J3x]⟩ Tryz.prog [] 30000 12 []) = true := by kernel_rfl
theorem rosinKnown_null : NullR Tryz.prog 12 (.bool true) := closed_nullE (null_cons rosin_works_null null_nil) (ent_cons F1_ent (ent_cons F2_ent (ent_cons F3_ent (ent_cons I1_ent (ent_cons I2_ent (ent_cons J1_ent (ent_cons J2_ent (ent_cons J3_ent ent_nil)))))))) rosinKnown_run
end Go.Proofs.YtimlhjkineckjaaGreat
