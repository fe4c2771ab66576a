/- rosin.Grades at three grades, of which the last is hidden, and no tests: what it comes to, reckoned on the shadow. Conditions: none. -/
import Derived.Test.YtimlhjkineckjaaGreatProg
import Derived.Test.YtimlhjkineckjaaGreatYD
import Derived.KernelRfl
import Derived.Test.YtimlhjkineckjaaGreatFF
namespace Go.Proofs.YtimlhjkineckjaaGreat
open Go Go.RowKit
noncomputable def I2x : Ent := { g := 19, args := [.slice (some ⟨0, 0, some 1⟩) 3 0, .slice none 0 0], mem := [(67, [.string ⟨#[120]⟩, .int .i64 300, .int .i64 700, .int .i64 800, .int .i64 160, .int .i64 5, .int .i64 90, .string ⟨#[110]⟩, .int .i64 600, .int .i64 650, .int .i64 850, .int .i64 150, .int .i64 20, .int .i64 60, .string ⟨#[122]⟩, .int .i64 300, .int .i64 700, .int .i64 800, .int .i64 160, .int .i64 5, .int .i64 0])], v := .tuple ⟨[.slice (some ⟨0, 0, some 1⟩) 3 0, .int .i64 0]⟩, res := some (3, [.int .i64 0, .int .i64 1, .int .i64 3]) }
set_option maxRecDepth 1000000 in
theorem I2_run : @runE ⟨[], [F2x]⟩ Tryz.prog 3000 4560 I2x = some (.tuple ⟨endOf 4560 I2x :: resOf I2x⟩) := by kernel_rfl
theorem I2_ent : EntR Tryz.prog I2x := ent_ok null_nil (ent_cons F2_ent ent_nil) (by kernel_rfl) I2_run
end Go.Proofs.YtimlhjkineckjaaGreat
