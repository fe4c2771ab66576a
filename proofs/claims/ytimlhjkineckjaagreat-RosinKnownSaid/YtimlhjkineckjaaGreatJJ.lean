/- rosin.Settle, Blend and Profit at some lists come to what is written out: reckoned on the shadow. Conditions: none. -/
import Derived.Test.YtimlhjkineckjaaGreatProg
import Derived.Test.YtimlhjkineckjaaGreatYD
import Derived.KernelRfl
import Derived.Test.YtimlhjkineckjaaGreatFF
import Derived.Test.YtimlhjkineckjaaGreatH0
import Derived.Test.YtimlhjkineckjaaGreatH1
import Derived.Test.YtimlhjkineckjaaGreatH2
import Derived.Test.YtimlhjkineckjaaGreatH3
namespace Go.Proofs.YtimlhjkineckjaaGreat
open Go Go.RowKit
noncomputable def J1x : Ent := { g := 23, args := [.slice (some ⟨0, 0, some 0⟩) 2 2, .slice (some ⟨1, 0, some 0⟩) 4 4, .int .i64 0], mem := [(67, [.string ⟨#[120]⟩, .int .i64 300, .int .i64 700, .int .i64 800, .int .i64 160, .int .i64 5, .int .i64 90, .string ⟨#[110]⟩, .int .i64 600, .int .i64 650, .int .i64 850, .int .i64 150, .int .i64 20, .int .i64 60]), (57, [.int .i64 0, .int .i64 310, .int .i64 15, .int .i64 1, .int .i64 760, .int .i64 10, .int .i64 2, .int .i64 165, .int .i64 3, .int .i64 3, .int .i64 4, .int .i64 1])], v := .tuple ⟨[.int .i64 0, .int .i64 1, .int .i64 0]⟩, res := none }
set_option maxRecDepth 1000000 in
theorem J1_run : @runE ⟨[], [F1x, H0x, H1x, H2x, H3x]⟩ Tryz.prog 3000 0 J1x = some (.tuple ⟨endOf 0 J1x :: resOf J1x⟩) := by kernel_rfl
theorem J1_ent : EntR Tryz.prog J1x := ent_ok null_nil (ent_cons F1_ent (ent_cons H0_ent (ent_cons H1_ent (ent_cons H2_ent (ent_cons H3_ent ent_nil))))) (by kernel_rfl) J1_run
noncomputable def J2x : Ent := { g := 29, args := [.slice (some ⟨0, 0, some 0⟩) 2 2, .int .i64 1, .slice (some ⟨1, 0, some 0⟩) 2 2, .int .i64 3], mem := [(67, [.string ⟨#[120]⟩, .int .i64 300, .int .i64 700, .int .i64 800, .int .i64 160, .int .i64 5, .int .i64 90, .string ⟨#[110]⟩, .int .i64 600, .int .i64 650, .int .i64 850, .int .i64 150, .int .i64 20, .int .i64 60]), (74, [.int .i64 200, .int .i64 220, .int .i64 760, .int .i64 780, .int .i64 168, .int .i64 170, .int .i64 2, .int .i64 3, .int .i64 4, .int .i64 50, .int .i64 440, .int .i64 460, .int .i64 700, .int .i64 720, .int .i64 158, .int .i64 160, .int .i64 8, .int .i64 9, .int .i64 6, .int .i64 30])], v := .tuple ⟨[.slice (some ⟨0, 0, some 1⟩) 2 0, .int .i64 90, .int .i64 0]⟩, res := some (3, [.int .i64 0, .int .i64 3]) }
set_option maxRecDepth 1000000 in
theorem J2_run : @runE ⟨[], [F1x]⟩ Tryz.prog 3000 246 J2x = some (.tuple ⟨endOf 246 J2x :: resOf J2x⟩) := by kernel_rfl
theorem J2_ent : EntR Tryz.prog J2x := ent_ok null_nil (ent_cons F1_ent ent_nil) (by kernel_rfl) J2_run
noncomputable def J3x : Ent := { g := 31, args := [.slice (some ⟨0, 0, some 0⟩) 1 1, .slice (some ⟨1, 0, some 0⟩) 2 2, .int .i64 2], mem := [(67, [.string ⟨#[113]⟩, .int .i64 1000, .int .i64 0, .int .i64 2000, .int .i64 0, .int .i64 1000, .int .i64 1]), (74, [.int .i64 200, .int .i64 220, .int .i64 760, .int .i64 780, .int .i64 168, .int .i64 170, .int .i64 2, .int .i64 3, .int .i64 4, .int .i64 50, .int .i64 440, .int .i64 460, .int .i64 700, .int .i64 720, .int .i64 158, .int .i64 160, .int .i64 8, .int .i64 9, .int .i64 6, .int .i64 30])], v := .tuple ⟨[.int .i64 0, .slice (some ⟨0, 0, some 1⟩) 2 0, .int .i64 (-58), .int .i64 0]⟩, res := some (3, [.int .i64 0, .int .i64 2]) }
set_option maxRecDepth 1000000 in
theorem J3_run : @runE ⟨[], [F3x]⟩ Tryz.prog 3000 209 J3x = some (.tuple ⟨endOf 209 J3x :: resOf J3x⟩) := by kernel_rfl
theorem J3_ent : EntR Tryz.prog J3x := ent_ok null_nil (ent_cons F3_ent ent_nil) (by kernel_rfl) J3_run
end Go.Proofs.YtimlhjkineckjaaGreat
