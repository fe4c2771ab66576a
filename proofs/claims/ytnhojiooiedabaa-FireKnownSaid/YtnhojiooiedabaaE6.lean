/- calls of package fire at given lands come to what is written out: reckoned on the shadow. Conditions: none. -/
import Derived.Test.YtnhojiooiedabaaProg
import Derived.Test.YtnhojiooiedabaaYD
import Derived.KernelRfl
namespace Go.Proofs.Ytnhojiooiedabaa
open Go Go.RowKit
noncomputable def C6x : Ent := { g := 5, args := [.agg ⟨[.int .i64 5, .slice (some ⟨0, 0, some 0⟩) 5 5, .int .i64 8, .int .i64 1, .slice (some ⟨1, 0, some 0⟩) 5 5]⟩, .slice none 0 0], mem := [(31, [.int .i64 0, .int .i64 1, .int .i64 10, .int .i64 20, .int .i64 5, .int .i64 1, .int .i64 2, .int .i64 10, .int .i64 30, .int .i64 5, .int .i64 2, .int .i64 3, .int .i64 20, .int .i64 20, .int .i64 10, .int .i64 0, .int .i64 4, .int .i64 5, .int .i64 10, .int .i64 0, .int .i64 3, .int .i64 4, .int .i64 60, .int .i64 90, .int .i64 20]), (3, [.int .i64 0, .int .i64 3, .int .i64 0, .int .i64 12, .int .i64 16])], v := .tuple ⟨[.int .i64 0, .int .i64 0]⟩, res := none }
set_option maxRecDepth 1000000 in
theorem C6_run : @runE ⟨[], []⟩ Try.prog 30000 0 C6x = some (.tuple ⟨endOf 0 C6x :: resOf C6x⟩) := by kernel_rfl
theorem C6_ent : EntR Try.prog C6x := ent_ok null_nil ent_nil (by kernel_rfl) C6_run
noncomputable def C9x : Ent := { g := 13, args := [.agg ⟨[.int .i64 5, .slice (some ⟨0, 0, some 0⟩) 5 5, .int .i64 8, .int .i64 1, .slice (some ⟨1, 0, some 0⟩) 5 5]⟩, .int .i64 2, .int .i64 2], mem := [(31, [.int .i64 0, .int .i64 1, .int .i64 10, .int .i64 20, .int .i64 5, .int .i64 1, .int .i64 2, .int .i64 10, .int .i64 30, .int .i64 5, .int .i64 2, .int .i64 3, .int .i64 20, .int .i64 20, .int .i64 10, .int .i64 0, .int .i64 4, .int .i64 5, .int .i64 10, .int .i64 0, .int .i64 3, .int .i64 4, .int .i64 60, .int .i64 90, .int .i64 20]), (3, [.int .i64 0, .int .i64 3, .int .i64 0, .int .i64 12, .int .i64 16])], v := .tuple ⟨[.slice none 0 0, .int .i64 4]⟩, res := none }
set_option maxRecDepth 1000000 in
theorem C9_run : @runE ⟨[], []⟩ Try.prog 30000 0 C9x = some (.tuple ⟨endOf 0 C9x :: resOf C9x⟩) := by kernel_rfl
theorem C9_ent : EntR Try.prog C9x := ent_ok null_nil ent_nil (by kernel_rfl) C9_run
noncomputable def A1x : Ent := { g := 8, args := [.agg ⟨[.int .i64 5, .slice (some ⟨0, 0, some 0⟩) 5 5, .int .i64 8, .int .i64 1, .slice (some ⟨1, 0, some 0⟩) 5 5]⟩, .int .i64 0, .slice (some ⟨2, 0, some 0⟩) 5 5], mem := [(31, [.int .i64 0, .int .i64 1, .int .i64 10, .int .i64 20, .int .i64 5, .int .i64 1, .int .i64 2, .int .i64 10, .int .i64 30, .int .i64 5, .int .i64 2, .int .i64 3, .int .i64 20, .int .i64 20, .int .i64 10, .int .i64 0, .int .i64 4, .int .i64 5, .int .i64 10, .int .i64 0, .int .i64 3, .int .i64 4, .int .i64 60, .int .i64 90, .int .i64 20]), (3, [.int .i64 0, .int .i64 3, .int .i64 0, .int .i64 12, .int .i64 16]), (3, [.int .i64 10, .int .i64 10, .int .i64 20, .int .i64 5, .int .i64 60])], v := .tuple ⟨[.slice (some ⟨0, 0, some 1⟩) 5 0, .int .i64 0]⟩, res := some (3, [.int .i64 0, .int .i64 10, .int .i64 20, .int .i64 40, .int .i64 5]) }
set_option maxRecDepth 1000000 in
theorem A1_run : @runE ⟨[], []⟩ Try.prog 30000 168 A1x = some (.tuple ⟨endOf 168 A1x :: resOf A1x⟩) := by kernel_rfl
theorem A1_ent : EntR Try.prog A1x := ent_ok null_nil ent_nil (by kernel_rfl) A1_run
noncomputable def C8x : Ent := { g := 14, args := [.agg ⟨[.int .i64 5, .slice (some ⟨0, 0, some 0⟩) 5 5, .int .i64 8, .int .i64 1, .slice (some ⟨1, 0, some 0⟩) 5 5]⟩, .int .i64 0, .int .i64 2], mem := [(31, [.int .i64 0, .int .i64 1, .int .i64 10, .int .i64 20, .int .i64 5, .int .i64 1, .int .i64 2, .int .i64 10, .int .i64 30, .int .i64 5, .int .i64 2, .int .i64 3, .int .i64 20, .int .i64 20, .int .i64 10, .int .i64 0, .int .i64 4, .int .i64 5, .int .i64 10, .int .i64 0, .int .i64 3, .int .i64 4, .int .i64 60, .int .i64 90, .int .i64 20]), (3, [.int .i64 0, .int .i64 3, .int .i64 0, .int .i64 12, .int .i64 16])], v := .tuple ⟨[.agg ⟨[.int .i64 20, .int .i64 50]⟩, .int .i64 0]⟩, res := none }
set_option maxRecDepth 1000000 in
theorem C8_run : @runE ⟨[], []⟩ Try.prog 30000 0 C8x = some (.tuple ⟨endOf 0 C8x :: resOf C8x⟩) := by kernel_rfl
theorem C8_ent : EntR Try.prog C8x := ent_ok null_nil ent_nil (by kernel_rfl) C8_run
noncomputable def D1x : Ent := { g := 14, args := [.agg ⟨[.int .i64 3, .slice (some ⟨0, 0, some 0⟩) 1 1, .int .i64 2, .int .i64 1, .slice (some ⟨1, 0, some 0⟩) 3 3]⟩, .int .i64 0, .int .i64 2], mem := [(31, [.int .i64 0, .int .i64 1, .int .i64 3, .int .i64 5, .int .i64 4]), (3, [.int .i64 1, .int .i64 0, .int .i64 0])], v := .tuple ⟨[.agg ⟨[.int .i64 0, .int .i64 0]⟩, .int .i64 4]⟩, res := none }
set_option maxRecDepth 1000000 in
theorem D1_run : @runE ⟨[], []⟩ Try.prog 30000 0 D1x = some (.tuple ⟨endOf 0 D1x :: resOf D1x⟩) := by kernel_rfl
theorem D1_ent : EntR Try.prog D1x := ent_ok null_nil ent_nil (by kernel_rfl) D1_run
noncomputable def D2x : Ent := { g := 9, args := [.agg ⟨[.int .i64 3, .slice (some ⟨0, 0, some 0⟩) 1 1, .int .i64 2, .int .i64 1, .slice (some ⟨1, 0, some 0⟩) 3 3]⟩, .int .i64 1, .int .i64 0, .int .i64 2], mem := [(31, [.int .i64 0, .int .i64 1, .int .i64 3, .int .i64 5, .int .i64 4]), (3, [.int .i64 1, .int .i64 0, .int .i64 0])], v := .tuple ⟨[.int .i64 0, .int .i64 4]⟩, res := none }
set_option maxRecDepth 1000000 in
theorem D2_run : @runE ⟨[], []⟩ Try.prog 30000 0 D2x = some (.tuple ⟨endOf 0 D2x :: resOf D2x⟩) := by kernel_rfl
theorem D2_ent : EntR Try.prog D2x := ent_ok null_nil ent_nil (by kernel_rfl) D2_run
noncomputable def D3x : Ent := { g := 6, args := [.agg ⟨[.int .i64 3, .slice (some ⟨0, 0, some 0⟩) 1 1, .int .i64 2, .int .i64 1, .slice (some ⟨1, 0, some 0⟩) 3 3]⟩, .int .i64 1], mem := [(31, [.int .i64 0, .int .i64 1, .int .i64 3, .int .i64 5, .int .i64 4]), (3, [.int .i64 1, .int .i64 0, .int .i64 0])], v := .tuple ⟨[.slice (some ⟨0, 0, some 1⟩) 3 0, .int .i64 3, .int .i64 0]⟩, res := some (3, [.int .i64 0, .int .i64 3, .int .i64 0]) }
set_option maxRecDepth 1000000 in
theorem D3_run : @runE ⟨[], []⟩ Try.prog 30000 228 D3x = some (.tuple ⟨endOf 228 D3x :: resOf D3x⟩) := by kernel_rfl
theorem D3_ent : EntR Try.prog D3x := ent_ok null_nil ent_nil (by kernel_rfl) D3_run
noncomputable def D4x : Ent := { g := 13, args := [.agg ⟨[.int .i64 3, .slice (some ⟨0, 0, some 0⟩) 1 1, .int .i64 2, .int .i64 1, .slice (some ⟨1, 0, some 0⟩) 3 3]⟩, .int .i64 1, .int .i64 2], mem := [(31, [.int .i64 0, .int .i64 1, .int .i64 3, .int .i64 5, .int .i64 4]), (3, [.int .i64 1, .int .i64 0, .int .i64 0])], v := .tuple ⟨[.slice (some ⟨0, 0, some 1⟩) 1 0, .int .i64 0]⟩, res := some (3, [.int .i64 2]) }
set_option maxRecDepth 1000000 in
theorem D4_run : @runE ⟨[], []⟩ Try.prog 30000 250 D4x = some (.tuple ⟨endOf 250 D4x :: resOf D4x⟩) := by kernel_rfl
theorem D4_ent : EntR Try.prog D4x := ent_ok null_nil ent_nil (by kernel_rfl) D4_run
noncomputable def D5x : Ent := { g := 15, args := [.agg ⟨[.int .i64 3, .slice (some ⟨0, 0, some 0⟩) 1 1, .int .i64 2, .int .i64 1, .slice (some ⟨1, 0, some 0⟩) 3 3]⟩, .int .i64 1, .int .i64 1], mem := [(31, [.int .i64 0, .int .i64 1, .int .i64 3, .int .i64 5, .int .i64 4]), (3, [.int .i64 1, .int .i64 0, .int .i64 0])], v := .tuple ⟨[.slice (some ⟨0, 0, some 1⟩) 1 0, .int .i64 0, .int .i64 0]⟩, res := some (3, [.int .i64 1]) }
set_option maxRecDepth 1000000 in
theorem D5_run : @runE ⟨[], []⟩ Try.prog 30000 240 D5x = some (.tuple ⟨endOf 240 D5x :: resOf D5x⟩) := by kernel_rfl
theorem D5_ent : EntR Try.prog D5x := ent_ok null_nil ent_nil (by kernel_rfl) D5_run
end Go.Proofs.Ytnhojiooiedabaa
