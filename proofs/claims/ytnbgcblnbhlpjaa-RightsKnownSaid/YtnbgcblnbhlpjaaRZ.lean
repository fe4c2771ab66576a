/- pinaster/pinasterlaw09.RightsKnown, called without arguments, returns true, in each world: reckoned on the shadow, where the ends of some calls are known. Conditions: none. -/
import Derived.Test.YtnbgcblnbhlpjaaProg
import Derived.Test.YtnbgcblnbhlpjaaK14
import Derived.KernelRfl
import Derived.Test.YtnbgcblnbhlpjaaRA
import Derived.Test.YtnbgcblnbhlpjaaS01
import Derived.Test.YtnbgcblnbhlpjaaS02
import Derived.Test.YtnbgcblnbhlpjaaS03
import Derived.Test.YtnbgcblnbhlpjaaS04
import Derived.Test.YtnbgcblnbhlpjaaS05
import Derived.Test.YtnbgcblnbhlpjaaS06
import Derived.Test.YtnbgcblnbhlpjaaS07
import Derived.Test.YtnbgcblnbhlpjaaS08
import Derived.Test.YtnbgcblnbhlpjaaS09
import Derived.Test.YtnbgcblnbhlpjaaS10
import Derived.Test.YtnbgcblnbhlpjaaS11
import Derived.Test.YtnbgcblnbhlpjaaS12
import Derived.Test.YtnbgcblnbhlpjaaS13
import Derived.Test.YtnbgcblnbhlpjaaS14
import Derived.Test.YtnbgcblnbhlpjaaS15
import Derived.Test.YtnbgcblnbhlpjaaS16
import Derived.Test.YtnbgcblnbhlpjaaS17
import Derived.Test.YtnbgcblnbhlpjaaS18
import Derived.Test.YtnbgcblnbhlpjaaS19
import Derived.Test.YtnbgcblnbhlpjaaS20
import Derived.Test.YtnbgcblnbhlpjaaS21
import Derived.Test.YtnbgcblnbhlpjaaS30
import Derived.Test.YtnbgcblnbhlpjaaRH
namespace Go.Proofs.Ytnbgcblnbhlpjaa
open Go Go.RowKit
set_option maxRecDepth 1000000 in
theorem rightsKnown_run : isTrue (@runS ⟨[(18, .bool true)], [S01x, S02x, S03x, S04x, S05x, S06x, S07x, S08x, S09x, S10x, S11x, S12x, S13x, S14x, S15x, S16x, S17x, S18x, S19x, S20x, S21x, S30x, G01x], false, 0⟩ Try.prog gl0 30000 3 []) = true := by kernel_rfl
theorem rightsKnown_null : NullR Try.prog 3 (.bool true) := closed_nullE (null_cons rightsKnown_works_null null_nil) (ent_cons S01_ent (ent_cons S02_ent (ent_cons S03_ent (ent_cons S04_ent (ent_cons S05_ent (ent_cons S06_ent (ent_cons S07_ent (ent_cons S08_ent (ent_cons S09_ent (ent_cons S10_ent (ent_cons S11_ent (ent_cons S12_ent (ent_cons S13_ent (ent_cons S14_ent (ent_cons S15_ent (ent_cons S16_ent (ent_cons S17_ent (ent_cons S18_ent (ent_cons S19_ent (ent_cons S20_ent (ent_cons S21_ent (ent_cons S30_ent (ent_cons G01_ent ent_nil))))))))))))))))))))))) rightsKnown_run
end Go.Proofs.Ytnbgcblnbhlpjaa
