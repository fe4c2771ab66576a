/- calls of package fire at given lands come to what is written out: reckoned on the shadow. Conditions: none. -/
import Derived.Test.YtnhojiooiedabaaProg
import Derived.Test.YtnhojiooiedabaaYD
import Derived.KernelRfl
namespace Go.Proofs.Ytnhojiooiedabaa
open Go Go.RowKit
noncomputable def A8x : Ent := { g := 13, args := [.agg ⟨[.int .i64 5, .slice (some ⟨0, 0, some 0⟩) 5 5, .int .i64 8, .int .i64 1, .slice (some ⟨1, 0, some 0⟩) 5 5]⟩, .int .i64 16, .int .i64 1], mem := [(31, [.int .i64 0, .int .i64 1, .int .i64 10, .int .i64 20, .int .i64 5, .int .i64 1, .int .i64 2, .int .i64 10, .int .i64 30, .int .i64 5, .int .i64 2, .int .i64 3, .int .i64 20, .int .i64 20, .int .i64 10, .int .i64 0, .int .i64 4, .int .i64 5, .int .i64 10, .int .i64 0, .int .i64 3, .int .i64 4, .int .i64 60, .int .i64 90, .int .i64 20]), (3, [.int .i64 0, .int .i64 3, .int .i64 0, .int .i64 12, .int .i64 16])], v := .tuple ⟨[.slice none 0 0, .int .i64 0]⟩, res := none }
set_option maxRecDepth 1000000 in
theorem A8_run : @runE ⟨[], []⟩ Try.prog 30000 0 A8x = some (.tuple ⟨endOf 0 A8x :: resOf A8x⟩) := by kernel_rfl
theorem A8_ent : EntR Try.prog A8x := ent_ok null_nil ent_nil (by kernel_rfl) A8_run
noncomputable def A9x : Ent := { g := 5, args := [.agg ⟨[.int .i64 5, .slice (some ⟨0, 0, some 0⟩) 5 5, .int .i64 8, .int .i64 1, .slice (some ⟨1, 0, some 0⟩) 5 5]⟩, .slice (some ⟨2, 0, some 0⟩) 2 2], mem := [(31, [.int .i64 0, .int .i64 1, .int .i64 10, .int .i64 20, .int .i64 5, .int .i64 1, .int .i64 2, .int .i64 10, .int .i64 30, .int .i64 5, .int .i64 2, .int .i64 3, .int .i64 20, .int .i64 20, .int .i64 10, .int .i64 0, .int .i64 4, .int .i64 5, .int .i64 10, .int .i64 0, .int .i64 3, .int .i64 4, .int .i64 60, .int .i64 90, .int .i64 20]), (3, [.int .i64 0, .int .i64 3, .int .i64 0, .int .i64 12, .int .i64 16]), (3, [.int .i64 1, .int .i64 2])], v := .tuple ⟨[.int .i64 2, .int .i64 0]⟩, res := none }
set_option maxRecDepth 1000000 in
theorem A9_run : @runE ⟨[], []⟩ Try.prog 30000 0 A9x = some (.tuple ⟨endOf 0 A9x :: resOf A9x⟩) := by kernel_rfl
theorem A9_ent : EntR Try.prog A9x := ent_ok null_nil ent_nil (by kernel_rfl) A9_run
noncomputable def A2x : Ent := { g := 14, args := [.agg ⟨[.int .i64 5, .slice (some ⟨0, 0, some 0⟩) 5 5, .int .i64 8, .int .i64 1, .slice (some ⟨1, 0, some 0⟩) 5 5]⟩, .int .i64 0, .int .i64 3], mem := [(31, [.int .i64 0, .int .i64 1, .int .i64 10, .int .i64 20, .int .i64 5, .int .i64 1, .int .i64 2, .int .i64 10, .int .i64 30, .int .i64 5, .int .i64 2, .int .i64 3, .int .i64 20, .int .i64 20, .int .i64 10, .int .i64 0, .int .i64 4, .int .i64 5, .int .i64 10, .int .i64 0, .int .i64 3, .int .i64 4, .int .i64 60, .int .i64 90, .int .i64 20]), (3, [.int .i64 0, .int .i64 3, .int .i64 0, .int .i64 12, .int .i64 16])], v := .tuple ⟨[.agg ⟨[.int .i64 40, .int .i64 70]⟩, .int .i64 0]⟩, res := none }
set_option maxRecDepth 1000000 in
theorem A2_run : @runE ⟨[], []⟩ Try.prog 30000 0 A2x = some (.tuple ⟨endOf 0 A2x :: resOf A2x⟩) := by kernel_rfl
theorem A2_ent : EntR Try.prog A2x := ent_ok null_nil ent_nil (by kernel_rfl) A2_run
end Go.Proofs.Ytnhojiooiedabaa
