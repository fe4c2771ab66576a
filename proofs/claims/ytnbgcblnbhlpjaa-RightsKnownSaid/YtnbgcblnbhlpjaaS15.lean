/- rights.firstAfter of two rights (a 0 1 350 358 2 0 false; b 3 1 2 9 2 1 false): what it comes to, reckoned on the shadow. Conditions: none. -/
import Derived.Test.YtnbgcblnbhlpjaaProg
import Derived.Test.YtnbgcblnbhlpjaaK14
import Derived.KernelRfl
namespace Go.Proofs.Ytnbgcblnbhlpjaa
open Go Go.RowKit
noncomputable def S15x : Ent := { g := 54, args := [.agg ⟨[.int .i64 8, .int .i64 0, .int .i64 8, .int .i64 5, .int .i64 5]⟩, .agg ⟨[.string ⟨#[97]⟩, .int .i64 0, .int .i64 1, .int .i64 350, .int .i64 358, .int .i64 2, .int .i64 0, .bool false]⟩, .agg ⟨[.string ⟨#[98]⟩, .int .i64 3, .int .i64 1, .int .i64 2, .int .i64 9, .int .i64 2, .int .i64 1, .bool false]⟩], mem := [], v := .int .i64 9223372036854775807, res := none }
set_option maxRecDepth 1000000 in
theorem S15_run : @runE ⟨[], [], false, 0⟩ Try.prog 30000 0 S15x = some (.tuple ⟨endOf 0 S15x :: resOf S15x⟩) := by kernel_rfl
theorem S15_ent : EntR Try.prog S15x := ent_ok null_nil ent_nil (by kernel_rfl) S15_run
end Go.Proofs.Ytnbgcblnbhlpjaa
