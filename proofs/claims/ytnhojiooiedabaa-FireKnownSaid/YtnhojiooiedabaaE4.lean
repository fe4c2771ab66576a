/- calls of package fire at given lands come to what is written out: reckoned on the shadow. Conditions: none. -/
import Derived.Test.YtnhojiooiedabaaProg
import Derived.Test.YtnhojiooiedabaaYD
import Derived.KernelRfl
namespace Go.Proofs.Ytnhojiooiedabaa
open Go Go.RowKit
noncomputable def C1x : Ent := { g := 9, args := [.agg ⟨[.int .i64 5, .slice (some ⟨0, 0, some 0⟩) 5 5, .int .i64 8, .int .i64 1, .slice (some ⟨1, 0, some 0⟩) 5 5]⟩, .int .i64 2, .int .i64 0, .int .i64 2], mem := [(31, [.int .i64 0, .int .i64 1, .int .i64 10, .int .i64 20, .int .i64 5, .int .i64 1, .int .i64 2, .int .i64 10, .int .i64 30, .int .i64 5, .int .i64 2, .int .i64 3, .int .i64 20, .int .i64 20, .int .i64 10, .int .i64 0, .int .i64 4, .int .i64 5, .int .i64 10, .int .i64 0, .int .i64 3, .int .i64 4, .int .i64 60, .int .i64 90, .int .i64 20]), (3, [.int .i64 0, .int .i64 3, .int .i64 0, .int .i64 12, .int .i64 16])], v := .tuple ⟨[.int .i64 20, .int .i64 0]⟩, res := none }
set_option maxRecDepth 1000000 in
theorem C1_run : @runE ⟨[], []⟩ Try.prog 30000 0 C1x = some (.tuple ⟨endOf 0 C1x :: resOf C1x⟩) := by kernel_rfl
theorem C1_ent : EntR Try.prog C1x := ent_ok null_nil ent_nil (by kernel_rfl) C1_run
noncomputable def C2x : Ent := { g := 9, args := [.agg ⟨[.int .i64 5, .slice (some ⟨0, 0, some 0⟩) 5 5, .int .i64 8, .int .i64 1, .slice (some ⟨1, 0, some 0⟩) 5 5]⟩, .int .i64 0, .int .i64 0, .int .i64 2], mem := [(31, [.int .i64 0, .int .i64 1, .int .i64 10, .int .i64 20, .int .i64 5, .int .i64 1, .int .i64 2, .int .i64 10, .int .i64 30, .int .i64 5, .int .i64 2, .int .i64 3, .int .i64 20, .int .i64 20, .int .i64 10, .int .i64 0, .int .i64 4, .int .i64 5, .int .i64 10, .int .i64 0, .int .i64 3, .int .i64 4, .int .i64 60, .int .i64 90, .int .i64 20]), (3, [.int .i64 0, .int .i64 3, .int .i64 0, .int .i64 12, .int .i64 16])], v := .tuple ⟨[.int .i64 0, .int .i64 0]⟩, res := none }
set_option maxRecDepth 1000000 in
theorem C2_run : @runE ⟨[], []⟩ Try.prog 30000 0 C2x = some (.tuple ⟨endOf 0 C2x :: resOf C2x⟩) := by kernel_rfl
theorem C2_ent : EntR Try.prog C2x := ent_ok null_nil ent_nil (by kernel_rfl) C2_run
noncomputable def C3x : Ent := { g := 9, args := [.agg ⟨[.int .i64 5, .slice (some ⟨0, 0, some 0⟩) 5 5, .int .i64 8, .int .i64 1, .slice (some ⟨1, 0, some 0⟩) 5 5]⟩, .int .i64 8, .int .i64 0, .int .i64 2], mem := [(31, [.int .i64 0, .int .i64 1, .int .i64 10, .int .i64 20, .int .i64 5, .int .i64 1, .int .i64 2, .int .i64 10, .int .i64 30, .int .i64 5, .int .i64 2, .int .i64 3, .int .i64 20, .int .i64 20, .int .i64 10, .int .i64 0, .int .i64 4, .int .i64 5, .int .i64 10, .int .i64 0, .int .i64 3, .int .i64 4, .int .i64 60, .int .i64 90, .int .i64 20]), (3, [.int .i64 0, .int .i64 3, .int .i64 0, .int .i64 12, .int .i64 16])], v := .tuple ⟨[.int .i64 0, .int .i64 0]⟩, res := none }
set_option maxRecDepth 1000000 in
theorem C3_run : @runE ⟨[], []⟩ Try.prog 30000 0 C3x = some (.tuple ⟨endOf 0 C3x :: resOf C3x⟩) := by kernel_rfl
theorem C3_ent : EntR Try.prog C3x := ent_ok null_nil ent_nil (by kernel_rfl) C3_run
end Go.Proofs.Ytnhojiooiedabaa
