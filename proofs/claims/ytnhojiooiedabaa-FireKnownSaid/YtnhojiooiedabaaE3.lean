/- calls of package fire at given lands come to what is written out: reckoned on the shadow. Conditions: none. -/
import Derived.Test.YtnhojiooiedabaaProg
import Derived.Test.YtnhojiooiedabaaYD
import Derived.KernelRfl
namespace Go.Proofs.Ytnhojiooiedabaa
open Go Go.RowKit
noncomputable def B1x : Ent := { g := 11, args := [.agg ⟨[.int .i64 5, .slice (some ⟨0, 0, some 0⟩) 5 5, .int .i64 8, .int .i64 1, .slice (some ⟨1, 0, some 0⟩) 5 5]⟩, .int .i64 2, .slice (some ⟨2, 0, some 0⟩) 2 2], mem := [(31, [.int .i64 0, .int .i64 1, .int .i64 10, .int .i64 20, .int .i64 5, .int .i64 1, .int .i64 2, .int .i64 10, .int .i64 30, .int .i64 5, .int .i64 2, .int .i64 3, .int .i64 20, .int .i64 20, .int .i64 10, .int .i64 0, .int .i64 4, .int .i64 5, .int .i64 10, .int .i64 0, .int .i64 3, .int .i64 4, .int .i64 60, .int .i64 90, .int .i64 20]), (3, [.int .i64 0, .int .i64 3, .int .i64 0, .int .i64 12, .int .i64 16]), (3, [.int .i64 1, .int .i64 2])], v := .tuple ⟨[.bool true, .int .i64 0]⟩, res := none }
set_option maxRecDepth 1000000 in
theorem B1_run : @runE ⟨[], []⟩ Try.prog 30000 0 B1x = some (.tuple ⟨endOf 0 B1x :: resOf B1x⟩) := by kernel_rfl
theorem B1_ent : EntR Try.prog B1x := ent_ok null_nil ent_nil (by kernel_rfl) B1_run
noncomputable def A6x : Ent := { g := 10, args := [.agg ⟨[.int .i64 5, .slice (some ⟨0, 0, some 0⟩) 5 5, .int .i64 8, .int .i64 1, .slice (some ⟨1, 0, some 0⟩) 5 5]⟩, .int .i64 16, .slice (some ⟨2, 0, some 0⟩) 2 2], mem := [(31, [.int .i64 0, .int .i64 1, .int .i64 10, .int .i64 20, .int .i64 5, .int .i64 1, .int .i64 2, .int .i64 10, .int .i64 30, .int .i64 5, .int .i64 2, .int .i64 3, .int .i64 20, .int .i64 20, .int .i64 10, .int .i64 0, .int .i64 4, .int .i64 5, .int .i64 10, .int .i64 0, .int .i64 3, .int .i64 4, .int .i64 60, .int .i64 90, .int .i64 20]), (3, [.int .i64 0, .int .i64 3, .int .i64 0, .int .i64 12, .int .i64 16]), (3, [.int .i64 2, .int .i64 3])], v := .tuple ⟨[.bool true, .int .i64 0]⟩, res := none }
set_option maxRecDepth 1000000 in
theorem A6_run : @runE ⟨[], []⟩ Try.prog 30000 0 A6x = some (.tuple ⟨endOf 0 A6x :: resOf A6x⟩) := by kernel_rfl
theorem A6_ent : EntR Try.prog A6x := ent_ok null_nil ent_nil (by kernel_rfl) A6_run
noncomputable def A7x : Ent := { g := 10, args := [.agg ⟨[.int .i64 5, .slice (some ⟨0, 0, some 0⟩) 5 5, .int .i64 8, .int .i64 1, .slice (some ⟨1, 0, some 0⟩) 5 5]⟩, .int .i64 16, .slice (some ⟨2, 0, some 0⟩) 3 3], mem := [(31, [.int .i64 0, .int .i64 1, .int .i64 10, .int .i64 20, .int .i64 5, .int .i64 1, .int .i64 2, .int .i64 10, .int .i64 30, .int .i64 5, .int .i64 2, .int .i64 3, .int .i64 20, .int .i64 20, .int .i64 10, .int .i64 0, .int .i64 4, .int .i64 5, .int .i64 10, .int .i64 0, .int .i64 3, .int .i64 4, .int .i64 60, .int .i64 90, .int .i64 20]), (3, [.int .i64 0, .int .i64 3, .int .i64 0, .int .i64 12, .int .i64 16]), (3, [.int .i64 1, .int .i64 2, .int .i64 3])], v := .tuple ⟨[.bool false, .int .i64 0]⟩, res := none }
set_option maxRecDepth 1000000 in
theorem A7_run : @runE ⟨[], []⟩ Try.prog 30000 0 A7x = some (.tuple ⟨endOf 0 A7x :: resOf A7x⟩) := by kernel_rfl
theorem A7_ent : EntR Try.prog A7x := ent_ok null_nil ent_nil (by kernel_rfl) A7_run
end Go.Proofs.Ytnhojiooiedabaa
