/- The reference's pots. Conditions: as each theorem says. -/
import Derived.Test.YtpaabfecoghibaaPW
namespace Go.Proofs.Ytpaabfecoghibaa
open Go Go.RowKit
attribute [local irreducible] addC subC mulC quoI remI forceN forceB bR getC iR kI callI rcI oldC oA nextC readR
set_option maxRecDepth 1000000
set_option maxHeartbeats 8000000
set_option linter.unusedVariables false
set_option linter.unusedSimpArgs false
section
variable (f : Nat → Nat → Option Value)
end
end Go.Proofs.Ytpaabfecoghibaa
