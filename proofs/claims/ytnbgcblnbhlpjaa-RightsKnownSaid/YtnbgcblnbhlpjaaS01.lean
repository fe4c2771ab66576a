/- rights.firstAfter of two rights (tap 0 3 60 240 2 0 false; cow 3 6 244 300 3 1 false): what it comes to, reckoned on the shadow. Conditions: none. -/
import Derived.Test.YtnbgcblnbhlpjaaProg
import Derived.Test.YtnbgcblnbhlpjaaK14
import Derived.KernelRfl
namespace Go.Proofs.Ytnbgcblnbhlpjaa
open Go Go.RowKit
noncomputable def S01x : Ent := { g := 54, args := [.agg ⟨[.int .i64 8, .int .i64 0, .int .i64 8, .int .i64 5, .int .i64 5]⟩, .agg ⟨[.string ⟨#[116, 97, 112]⟩, .int .i64 0, .int .i64 3, .int .i64 60, .int .i64 240, .int .i64 2, .int .i64 0, .bool false]⟩, .agg ⟨[.string ⟨#[99, 111, 119]⟩, .int .i64 3, .int .i64 6, .int .i64 244, .int .i64 300, .int .i64 3, .int .i64 1, .bool false]⟩], mem := [], v := .int .i64 9223372036854775807, res := none }
set_option maxRecDepth 1000000 in
theorem S01_run : @runE ⟨[], [], false, 0⟩ Try.prog 30000 0 S01x = some (.tuple ⟨endOf 0 S01x :: resOf S01x⟩) := by kernel_rfl
theorem S01_ent : EntR Try.prog S01x := ent_ok null_nil ent_nil (by kernel_rfl) S01_run
end Go.Proofs.Ytnbgcblnbhlpjaa
