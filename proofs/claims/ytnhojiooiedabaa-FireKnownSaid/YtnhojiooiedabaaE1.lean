/- calls of package fire at given lands come to what is written out: reckoned on the shadow. Conditions: none. -/
import Derived.Test.YtnhojiooiedabaaProg
import Derived.Test.YtnhojiooiedabaaYD
import Derived.KernelRfl
namespace Go.Proofs.Ytnhojiooiedabaa
open Go Go.RowKit
noncomputable def A4x : Ent := { g := 6, args := [.agg ⟨[.int .i64 5, .slice (some ⟨0, 0, some 0⟩) 5 5, .int .i64 8, .int .i64 1, .slice (some ⟨1, 0, some 0⟩) 5 5]⟩, .int .i64 16], mem := [(31, [.int .i64 0, .int .i64 1, .int .i64 10, .int .i64 20, .int .i64 5, .int .i64 1, .int .i64 2, .int .i64 10, .int .i64 30, .int .i64 5, .int .i64 2, .int .i64 3, .int .i64 20, .int .i64 20, .int .i64 10, .int .i64 0, .int .i64 4, .int .i64 5, .int .i64 10, .int .i64 0, .int .i64 3, .int .i64 4, .int .i64 60, .int .i64 90, .int .i64 20]), (3, [.int .i64 0, .int .i64 3, .int .i64 0, .int .i64 12, .int .i64 16])], v := .tuple ⟨[.slice (some ⟨0, 0, some 1⟩) 5 0, .int .i64 31, .int .i64 0]⟩, res := some (3, [.int .i64 (-10), .int .i64 0, .int .i64 10, .int .i64 30, .int .i64 0]) }
set_option maxRecDepth 1000000 in
theorem A4_run : @runE ⟨[], []⟩ Try.prog 30000 1626 A4x = some (.tuple ⟨endOf 1626 A4x :: resOf A4x⟩) := by kernel_rfl
theorem A4_ent : EntR Try.prog A4x := ent_ok null_nil ent_nil (by kernel_rfl) A4_run
noncomputable def A5x : Ent := { g := 15, args := [.agg ⟨[.int .i64 5, .slice (some ⟨0, 0, some 0⟩) 5 5, .int .i64 8, .int .i64 1, .slice (some ⟨1, 0, some 0⟩) 5 5]⟩, .int .i64 2, .int .i64 1], mem := [(31, [.int .i64 0, .int .i64 1, .int .i64 10, .int .i64 20, .int .i64 5, .int .i64 1, .int .i64 2, .int .i64 10, .int .i64 30, .int .i64 5, .int .i64 2, .int .i64 3, .int .i64 20, .int .i64 20, .int .i64 10, .int .i64 0, .int .i64 4, .int .i64 5, .int .i64 10, .int .i64 0, .int .i64 3, .int .i64 4, .int .i64 60, .int .i64 90, .int .i64 20]), (3, [.int .i64 0, .int .i64 3, .int .i64 0, .int .i64 12, .int .i64 16])], v := .tuple ⟨[.slice (some ⟨0, 0, some 1⟩) 3 0, .int .i64 15, .int .i64 0]⟩, res := some (3, [.int .i64 1, .int .i64 2, .int .i64 3]) }
set_option maxRecDepth 1000000 in
theorem A5_run : @runE ⟨[], []⟩ Try.prog 30000 1785 A5x = some (.tuple ⟨endOf 1785 A5x :: resOf A5x⟩) := by kernel_rfl
theorem A5_ent : EntR Try.prog A5x := ent_ok null_nil ent_nil (by kernel_rfl) A5_run
noncomputable def A3x : Ent := { g := 9, args := [.agg ⟨[.int .i64 5, .slice (some ⟨0, 0, some 0⟩) 5 5, .int .i64 8, .int .i64 1, .slice (some ⟨1, 0, some 0⟩) 5 5]⟩, .int .i64 16, .int .i64 0, .int .i64 2], mem := [(31, [.int .i64 0, .int .i64 1, .int .i64 10, .int .i64 20, .int .i64 5, .int .i64 1, .int .i64 2, .int .i64 10, .int .i64 30, .int .i64 5, .int .i64 2, .int .i64 3, .int .i64 20, .int .i64 20, .int .i64 10, .int .i64 0, .int .i64 4, .int .i64 5, .int .i64 10, .int .i64 0, .int .i64 3, .int .i64 4, .int .i64 60, .int .i64 90, .int .i64 20]), (3, [.int .i64 0, .int .i64 3, .int .i64 0, .int .i64 12, .int .i64 16])], v := .tuple ⟨[.int .i64 10, .int .i64 0]⟩, res := none }
set_option maxRecDepth 1000000 in
theorem A3_run : @runE ⟨[], []⟩ Try.prog 30000 0 A3x = some (.tuple ⟨endOf 0 A3x :: resOf A3x⟩) := by kernel_rfl
theorem A3_ent : EntR Try.prog A3x := ent_ok null_nil ent_nil (by kernel_rfl) A3_run
end Go.Proofs.Ytnhojiooiedabaa
