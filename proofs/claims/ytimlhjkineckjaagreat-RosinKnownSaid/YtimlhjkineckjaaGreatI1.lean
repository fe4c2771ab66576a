/- rosin.Grades at the chapter's grades, and no tests: what it comes to, reckoned on the shadow. Conditions: none. -/
import Derived.Test.YtimlhjkineckjaaGreatProg
import Derived.Test.YtimlhjkineckjaaGreatYD
import Derived.KernelRfl
import Derived.Test.YtimlhjkineckjaaGreatFF
namespace Go.Proofs.YtimlhjkineckjaaGreat
open Go Go.RowKit
noncomputable def I1x : Ent := { g := 19, args := [.slice (some ⟨0, 0, some 0⟩) 2 2, .slice none 0 0], mem := [(67, [.string ⟨#[120]⟩, .int .i64 300, .int .i64 700, .int .i64 800, .int .i64 160, .int .i64 5, .int .i64 90, .string ⟨#[110]⟩, .int .i64 600, .int .i64 650, .int .i64 850, .int .i64 150, .int .i64 20, .int .i64 60])], v := .tuple ⟨[.slice (some ⟨0, 0, some 1⟩) 3 0, .int .i64 0]⟩, res := some (3, [.int .i64 0, .int .i64 1, .int .i64 2]) }
set_option maxRecDepth 1000000 in
theorem I1_run : @runE ⟨[], [F1x]⟩ Tryz.prog 3000 4529 I1x = some (.tuple ⟨endOf 4529 I1x :: resOf I1x⟩) := by kernel_rfl
theorem I1_ent : EntR Tryz.prog I1x := ent_ok null_nil (ent_cons F1_ent ent_nil) (by kernel_rfl) I1_run
end Go.Proofs.YtimlhjkineckjaaGreat
