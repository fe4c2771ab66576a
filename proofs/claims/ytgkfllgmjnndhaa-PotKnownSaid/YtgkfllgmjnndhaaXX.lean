/- A closed call that comes to true on the shadow does so in each world, and leaves what was there. Over any program without package variables that it asks for. Conditions: as each law says. -/
import Derived.Test.YtgkfllgmjnndhaaXW
namespace Go.Proofs.Ytgkfllgmjnndhaa
open Go Go.RowKit
theorem Tr.get_none {α : Type} (n : Nat) : (Tr.nil : Tr α).get n = none := rfl
theorem den0 (P : Program) (w : World) : Den P ⟨w.heap.size, []⟩ [] (fun _ => none) sh0 w :=
  Den.mk (by exact ⟨Nat.le_refl _, fun k hk => (List.not_mem_nil hk).elim⟩) (by intro j sb hj; cases hj) (by intro j _; rfl) (by intro j _; rfl) (by intro i j si sj b κ κ' hi; cases hi)
    (by intro j t cs f hj; cases hj) (by intro j t cs f hj; cases hj) (by intro f _; rfl) (by intro x hx; cases hx)
theorem bool_rel {μ : Mu} {b : Bool} {v : Value} (h : Rel μ (.bool b) v) : v = .bool b := by
  cases h with
  | ground _ => rfl
/-- **A closed call that comes to true**, where the ends of some calls without arguments are known. -/
theorem closed_null {T : List (FuncId × Value)} {P : Program} {n : Nat} {f : FuncId} (hT : ∀ x ∈ T, NullR P x.1 x.2) (h : isTrue (@runS ⟨T⟩ P [] n f []) = true) : NullR P f (.bool true) := by
  letI : Orc := ⟨T⟩
  haveI : OrcOk P := ⟨hT⟩
  unfold isTrue at h
  split at h
  · rename_i b hb
    subst h
    unfold runS at hb
    obtain ⟨v, h', hk, hent, hc⟩ := callF_ok (by rfl) (exec_right (by rfl) n) hb
    cases hk
    refine ⟨rfl, hent, fun w => (hc _ _ w #[] (den0 P w) .nil).mono ?_⟩
    rintro e w' ⟨μ', v', rfl, p, hv⟩
    exact ⟨by rw [bool_rel hv], p.bel.low⟩
  · cases h
theorem null_nil {P : Program} : ∀ x ∈ ([] : List (FuncId × Value)), NullR P x.1 x.2 := fun x hx => by cases hx
theorem null_cons {P : Program} {g : FuncId} {v : Value} {T : List (FuncId × Value)} (n : NullR P g v) (h : ∀ x ∈ T, NullR P x.1 x.2) : ∀ x ∈ ((g, v) :: T), NullR P x.1 x.2 := fun x hx => by
  rcases List.mem_cons.1 hx with rfl | hx
  · exact n
  · exact h x hx
theorem closed_any {P : Program} {f : FuncId} (n : NullR P f (.bool true)) (w : World) :
    CallsIn Fence.wide 0 P f #[] w fun e w' => e = .returned (.bool true) ∧ Below w.heap.size w w' := n.2.2 w
end Go.Proofs.Ytgkfllgmjnndhaa
