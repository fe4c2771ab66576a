/- pinastertop.priced08, called without arguments, returns true, in each world: reckoned out on the shadow; the grades of its one grade are reckoned whatever the order of a map is. Conditions: none. -/
import Derived.Test.YtnkbopfnnbmdaaaGreatProg
import Derived.Test.YtnkbopfnnbmdaaaGreatK14
import Derived.KernelRfl
namespace Go.Proofs.YtnkbopfnnbmdaaaGreat
open Go Go.RowKit
set_option linter.unusedSimpArgs false
set_option linter.unusedVariables false
noncomputable def F1x : Ent := { g := 51, args := [.slice (some ⟨0, 0, some 0⟩) 1 1], mem := [(59, [.string ⟨#[97]⟩, .int .i64 5, .int .i64 0, .int .i64 2000, .int .i64 0, .int .i64 1000, .int .i64 0])], v := .slice (some ⟨0, 0, some 1⟩) 1 0, res := some (106, [.string ⟨#[97]⟩, .int .i64 5, .int .i64 0, .int .i64 2000, .int .i64 0, .int .i64 1000, .int .i64 0, .int .i64 0, .int .i64 0, .int .i64 0, .int .i64 0, .int .i64 0, .int .i64 5, .int .i64 2000, .int .i64 300, .int .i64 1000]) }
set_option maxRecDepth 1000000 in
theorem F1_run : @runEF ⟨[], [], false, 0⟩ Tryz.prog 3000 3000 15 F1x = some (.tuple ⟨endOf 15 F1x :: resOf F1x⟩) := by kernel_rfl
set_option maxRecDepth 1000000 in
theorem F1_ent : EntR Tryz.prog F1x := ent_okF null_nil ent_nil (by kernel_rfl) F1_run
set_option maxRecDepth 1000000 in
theorem priced_run : isTrue (@runS ⟨[], [F1x], false, 0⟩ Tryz.prog gl0 20000 7 []) = true := by kernel_rfl
theorem priced_null : NullR Tryz.prog 7 (.bool true) := closed_nullE null_nil (ent_cons F1_ent ent_nil) priced_run
end Go.Proofs.YtnkbopfnnbmdaaaGreat
