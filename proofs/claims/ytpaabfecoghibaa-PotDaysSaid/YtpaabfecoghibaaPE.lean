/- The reference of layer 3: a run is checked. Conditions: as each theorem says. -/
import Derived.Test.YtpaabfecoghibaaPD
import Derived.Test.YtpaabfecoghibaaPP
namespace Go.Proofs.Ytpaabfecoghibaa
open Go Go.RowKit
attribute [local irreducible] addC subC mulC quoI remI forceN forceB bR getC iR kI callI rcI oldC oA nextC readR
set_option maxRecDepth 1000000
set_option maxHeartbeats 8000000
set_option linter.unusedVariables false
set_option linter.unusedSimpArgs false
theorem hasT_no {ps : List Pt} {i : Nat} {s : ByteArray} : hasT (ps.take i) s = false ↔ ∀ (j : Nat) (y : Pt), ps[j]? = some y → j < i → ¬ (y.tag.toList = s.toList) := by
  rw [hasT, List.any_eq_false]
  constructor
  · intro h j y hy hj e
    exact h y (List.mem_of_getElem? (i := j) (by rw [List.getElem?_take, if_pos hj]; exact hy)) (by rw [beq_iff_eq]; exact e)
  · intro h y hy
    obtain ⟨j, hj⟩ := List.mem_iff_getElem?.1 hy
    rw [List.getElem?_take] at hj
    split at hj
    · rw [beq_iff_eq]; exact h j y hj (by assumption)
    · cases hj
section
variable (f : Nat → Nat → Option Value)
end
end Go.Proofs.Ytpaabfecoghibaa
