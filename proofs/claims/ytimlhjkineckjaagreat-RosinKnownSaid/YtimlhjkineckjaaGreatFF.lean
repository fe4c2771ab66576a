/- rosin.gradesOf at three lists of grades comes to what is written out, whatever order the entries of its map come in: reckoned on the shadow. Conditions: none. -/
import Derived.Test.YtimlhjkineckjaaGreatProg
import Derived.Test.YtimlhjkineckjaaGreatYD
import Derived.KernelRfl
namespace Go.Proofs.YtimlhjkineckjaaGreat
open Go Go.RowKit
noncomputable def F1x : Ent := { g := 94, args := [.slice (some ⟨0, 0, some 0⟩) 2 2], mem := [(67, [.string ⟨#[120]⟩, .int .i64 300, .int .i64 700, .int .i64 800, .int .i64 160, .int .i64 5, .int .i64 90, .string ⟨#[110]⟩, .int .i64 600, .int .i64 650, .int .i64 850, .int .i64 150, .int .i64 20, .int .i64 60])], v := .slice (some ⟨0, 0, some 1⟩) 2 0, res := some (131, [.string ⟨#[120]⟩, .int .i64 300, .int .i64 700, .int .i64 800, .int .i64 160, .int .i64 5, .int .i64 90, .int .i64 0, .int .i64 0, .int .i64 700, .int .i64 160, .int .i64 0, .int .i64 300, .int .i64 800, .int .i64 300, .int .i64 5, .string ⟨#[110]⟩, .int .i64 600, .int .i64 650, .int .i64 850, .int .i64 150, .int .i64 20, .int .i64 60, .int .i64 1, .int .i64 0, .int .i64 650, .int .i64 150, .int .i64 0, .int .i64 600, .int .i64 850, .int .i64 300, .int .i64 20]) }
set_option maxRecDepth 1000000 in
theorem F1_run : @runEF ⟨[], []⟩ Tryz.prog 3000 3000 24 F1x = some (.tuple ⟨endOf 24 F1x :: resOf F1x⟩) := by kernel_rfl
theorem F1_ent : EntR Tryz.prog F1x := ent_okF null_nil ent_nil (by kernel_rfl) F1_run
noncomputable def F2x : Ent := { g := 94, args := [.slice (some ⟨0, 0, some 1⟩) 3 0], mem := [(67, [.string ⟨#[120]⟩, .int .i64 300, .int .i64 700, .int .i64 800, .int .i64 160, .int .i64 5, .int .i64 90, .string ⟨#[110]⟩, .int .i64 600, .int .i64 650, .int .i64 850, .int .i64 150, .int .i64 20, .int .i64 60, .string ⟨#[122]⟩, .int .i64 300, .int .i64 700, .int .i64 800, .int .i64 160, .int .i64 5, .int .i64 0])], v := .slice (some ⟨0, 0, some 1⟩) 2 0, res := some (131, [.string ⟨#[120]⟩, .int .i64 300, .int .i64 700, .int .i64 800, .int .i64 160, .int .i64 5, .int .i64 90, .int .i64 0, .int .i64 0, .int .i64 700, .int .i64 160, .int .i64 0, .int .i64 300, .int .i64 800, .int .i64 300, .int .i64 5, .string ⟨#[110]⟩, .int .i64 600, .int .i64 650, .int .i64 850, .int .i64 150, .int .i64 20, .int .i64 60, .int .i64 1, .int .i64 0, .int .i64 650, .int .i64 150, .int .i64 0, .int .i64 600, .int .i64 850, .int .i64 300, .int .i64 20]) }
set_option maxRecDepth 1000000 in
theorem F2_run : @runEF ⟨[], []⟩ Tryz.prog 3000 3000 29 F2x = some (.tuple ⟨endOf 29 F2x :: resOf F2x⟩) := by kernel_rfl
theorem F2_ent : EntR Tryz.prog F2x := ent_okF null_nil ent_nil (by kernel_rfl) F2_run
noncomputable def F3x : Ent := { g := 94, args := [.slice (some ⟨0, 0, some 0⟩) 1 1], mem := [(67, [.string ⟨#[113]⟩, .int .i64 1000, .int .i64 0, .int .i64 2000, .int .i64 0, .int .i64 1000, .int .i64 1])], v := .slice (some ⟨0, 0, some 1⟩) 1 0, res := some (131, [.string ⟨#[113]⟩, .int .i64 1000, .int .i64 0, .int .i64 2000, .int .i64 0, .int .i64 1000, .int .i64 1, .int .i64 0, .int .i64 0, .int .i64 0, .int .i64 0, .int .i64 0, .int .i64 1000, .int .i64 2000, .int .i64 300, .int .i64 1000]) }
set_option maxRecDepth 1000000 in
theorem F3_run : @runEF ⟨[], []⟩ Tryz.prog 3000 3000 15 F3x = some (.tuple ⟨endOf 15 F3x :: resOf F3x⟩) := by kernel_rfl
theorem F3_ent : EntR Tryz.prog F3x := ent_okF null_nil ent_nil (by kernel_rfl) F3_run
end Go.Proofs.YtimlhjkineckjaaGreat
