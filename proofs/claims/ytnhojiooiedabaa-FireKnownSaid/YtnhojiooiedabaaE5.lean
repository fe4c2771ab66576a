/- calls of package fire at given lands come to what is written out: reckoned on the shadow. Conditions: none. -/
import Derived.Test.YtnhojiooiedabaaProg
import Derived.Test.YtnhojiooiedabaaYD
import Derived.KernelRfl
namespace Go.Proofs.Ytnhojiooiedabaa
open Go Go.RowKit
noncomputable def C4x : Ent := { g := 15, args := [.agg ⟨[.int .i64 5, .slice (some ⟨0, 0, some 0⟩) 5 5, .int .i64 8, .int .i64 1, .slice (some ⟨1, 0, some 0⟩) 5 5]⟩, .int .i64 2, .int .i64 2], mem := [(31, [.int .i64 0, .int .i64 1, .int .i64 10, .int .i64 20, .int .i64 5, .int .i64 1, .int .i64 2, .int .i64 10, .int .i64 30, .int .i64 5, .int .i64 2, .int .i64 3, .int .i64 20, .int .i64 20, .int .i64 10, .int .i64 0, .int .i64 4, .int .i64 5, .int .i64 10, .int .i64 0, .int .i64 3, .int .i64 4, .int .i64 60, .int .i64 90, .int .i64 20]), (3, [.int .i64 0, .int .i64 3, .int .i64 0, .int .i64 12, .int .i64 16])], v := .tuple ⟨[.slice (some ⟨0, 0, some 1⟩) 2 0, .int .i64 10, .int .i64 0]⟩, res := some (3, [.int .i64 2, .int .i64 3]) }
set_option maxRecDepth 1000000 in
theorem C4_run : @runE ⟨[], []⟩ Try.prog 30000 1817 C4x = some (.tuple ⟨endOf 1817 C4x :: resOf C4x⟩) := by kernel_rfl
theorem C4_ent : EntR Try.prog C4x := ent_ok null_nil ent_nil (by kernel_rfl) C4_run
noncomputable def C5x : Ent := { g := 12, args := [.agg ⟨[.int .i64 5, .slice (some ⟨0, 0, some 0⟩) 5 5, .int .i64 8, .int .i64 1, .slice (some ⟨1, 0, some 0⟩) 5 5]⟩, .int .i64 16, .slice (some ⟨2, 0, some 0⟩) 1 1], mem := [(31, [.int .i64 0, .int .i64 1, .int .i64 10, .int .i64 20, .int .i64 5, .int .i64 1, .int .i64 2, .int .i64 10, .int .i64 30, .int .i64 5, .int .i64 2, .int .i64 3, .int .i64 20, .int .i64 20, .int .i64 10, .int .i64 0, .int .i64 4, .int .i64 5, .int .i64 10, .int .i64 0, .int .i64 3, .int .i64 4, .int .i64 60, .int .i64 90, .int .i64 20]), (3, [.int .i64 0, .int .i64 3, .int .i64 0, .int .i64 12, .int .i64 16]), (3, [.int .i64 1])], v := .tuple ⟨[.slice (some ⟨0, 0, some 0⟩) 1 1, .int .i64 0]⟩, res := some (3, [.int .i64 0]) }
set_option maxRecDepth 1000000 in
theorem C5_run : @runE ⟨[], []⟩ Try.prog 30000 2925 C5x = some (.tuple ⟨endOf 2925 C5x :: resOf C5x⟩) := by kernel_rfl
theorem C5_ent : EntR Try.prog C5x := ent_ok null_nil ent_nil (by kernel_rfl) C5_run
end Go.Proofs.Ytnhojiooiedabaa
