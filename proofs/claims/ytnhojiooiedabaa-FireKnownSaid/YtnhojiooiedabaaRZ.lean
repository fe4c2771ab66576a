/- pinasterlaw04.FireKnown, called without arguments, returns true, in each world: reckoned on the shadow, where the ends of some calls are known. Conditions: none. -/
import Derived.Test.YtnhojiooiedabaaProg
import Derived.Test.YtnhojiooiedabaaYD
import Derived.KernelRfl
import Derived.Test.YtnhojiooiedabaaRA
import Derived.Test.YtnhojiooiedabaaE4
import Derived.Test.YtnhojiooiedabaaE5
import Derived.Test.YtnhojiooiedabaaE6
import Derived.Test.YtnhojiooiedabaaE8
namespace Go.Proofs.Ytnhojiooiedabaa
open Go Go.RowKit
set_option maxRecDepth 1000000 in
theorem fireKnown_run : isTrue (@runS ⟨[(17, .bool true)], [C1x, C2x, C3x, C4x, C5x, C6x, C7x, C8x, C9x, D1x, D2x, D3x, D4x, D5x]⟩ Try.prog [] 30000 3 []) = true := by kernel_rfl
theorem fireKnown_null : NullR Try.prog 3 (.bool true) := closed_nullE (null_cons fire_works_null null_nil) (ent_cons C1_ent (ent_cons C2_ent (ent_cons C3_ent (ent_cons C4_ent (ent_cons C5_ent (ent_cons C6_ent (ent_cons C7_ent (ent_cons C8_ent (ent_cons C9_ent (ent_cons D1_ent (ent_cons D2_ent (ent_cons D3_ent (ent_cons D4_ent (ent_cons D5_ent ent_nil)))))))))))))) fireKnown_run
end Go.Proofs.Ytnhojiooiedabaa
