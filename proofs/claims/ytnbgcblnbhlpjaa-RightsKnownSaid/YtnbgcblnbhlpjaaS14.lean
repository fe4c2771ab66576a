/- rights.firstAfter of two rights (a 0 1 0 9 1 0 false; b 0 1 9 20 3 2 false): what it comes to, reckoned on the shadow. Conditions: none. -/
import Derived.Test.YtnbgcblnbhlpjaaProg
import Derived.Test.YtnbgcblnbhlpjaaK14
import Derived.KernelRfl
namespace Go.Proofs.Ytnbgcblnbhlpjaa
open Go Go.RowKit
noncomputable def S14x : Ent := { g := 54, args := [.agg ⟨[.int .i64 1, .int .i64 0, .int .i64 0, .int .i64 0, .int .i64 0]⟩, .agg ⟨[.string ⟨#[97]⟩, .int .i64 0, .int .i64 1, .int .i64 0, .int .i64 9, .int .i64 1, .int .i64 0, .bool false]⟩, .agg ⟨[.string ⟨#[98]⟩, .int .i64 0, .int .i64 1, .int .i64 9, .int .i64 20, .int .i64 3, .int .i64 2, .bool false]⟩], mem := [], v := .int .i64 729, res := none }
set_option maxRecDepth 1000000 in
theorem S14_run : @runE ⟨[], [], false, 0⟩ Try.prog 30000 0 S14x = some (.tuple ⟨endOf 0 S14x :: resOf S14x⟩) := by kernel_rfl
theorem S14_ent : EntR Try.prog S14x := ent_ok null_nil ent_nil (by kernel_rfl) S14_run
end Go.Proofs.Ytnbgcblnbhlpjaa
