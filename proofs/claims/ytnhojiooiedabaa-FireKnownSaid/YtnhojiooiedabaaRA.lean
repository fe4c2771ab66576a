/- pinasterlaw04.works, called without arguments, returns true, in each world: reckoned on the shadow, where the ends of some calls are known. Conditions: none. -/
import Derived.Test.YtnhojiooiedabaaProg
import Derived.Test.YtnhojiooiedabaaYD
import Derived.KernelRfl
import Derived.Test.YtnhojiooiedabaaE1
import Derived.Test.YtnhojiooiedabaaE2
import Derived.Test.YtnhojiooiedabaaE3
import Derived.Test.YtnhojiooiedabaaE6
import Derived.Test.YtnhojiooiedabaaE7
namespace Go.Proofs.Ytnhojiooiedabaa
open Go Go.RowKit
set_option maxRecDepth 1000000 in
theorem fire_works_run : isTrue (@runS ⟨[], [A1x, A2x, A3x, A4x, A5x, A6x, A7x, A8x, A9x, B0x, B1x]⟩ Try.prog [] 30000 17 []) = true := by kernel_rfl
theorem fire_works_null : NullR Try.prog 17 (.bool true) := closed_nullE null_nil (ent_cons A1_ent (ent_cons A2_ent (ent_cons A3_ent (ent_cons A4_ent (ent_cons A5_ent (ent_cons A6_ent (ent_cons A7_ent (ent_cons A8_ent (ent_cons A9_ent (ent_cons B0_ent (ent_cons B1_ent ent_nil))))))))))) fire_works_run
end Go.Proofs.Ytnhojiooiedabaa
