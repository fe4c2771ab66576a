/- rights.firstAfter of two rights (cow 3 6 244 300 3 1 false; tap 0 3 60 240 2 0 false): what it comes to, reckoned on the shadow. Conditions: none. -/
import Derived.Test.YtnbgcblnbhlpjaaProg
import Derived.Test.YtnbgcblnbhlpjaaK14
import Derived.KernelRfl
namespace Go.Proofs.Ytnbgcblnbhlpjaa
open Go Go.RowKit
noncomputable def S11x : Ent := { g := 54, args := [.agg ⟨[.int .i64 8, .int .i64 0, .int .i64 8, .int .i64 5, .int .i64 5]⟩, .agg ⟨[.string ⟨#[99, 111, 119]⟩, .int .i64 3, .int .i64 6, .int .i64 244, .int .i64 300, .int .i64 3, .int .i64 1, .bool false]⟩, .agg ⟨[.string ⟨#[116, 97, 112]⟩, .int .i64 0, .int .i64 3, .int .i64 60, .int .i64 240, .int .i64 2, .int .i64 0, .bool false]⟩], mem := [], v := .int .i64 1684, res := none }
set_option maxRecDepth 1000000 in
theorem S11_run : @runE ⟨[], [], false, 0⟩ Try.prog 30000 0 S11x = some (.tuple ⟨endOf 0 S11x :: resOf S11x⟩) := by kernel_rfl
theorem S11_ent : EntR Try.prog S11x := ent_ok null_nil ent_nil (by kernel_rfl) S11_run
end Go.Proofs.Ytnbgcblnbhlpjaa
