/- rights.firstAfter of two rights (cow 3 4 244 300 2 0 false; cep 2 4 250 330 2 1 true): what it comes to, reckoned on the shadow. Conditions: none. -/
import Derived.Test.YtnbgcblnbhlpjaaProg
import Derived.Test.YtnbgcblnbhlpjaaK14
import Derived.KernelRfl
namespace Go.Proofs.Ytnbgcblnbhlpjaa
open Go Go.RowKit
noncomputable def S07x : Ent := { g := 54, args := [.agg ⟨[.int .i64 8, .int .i64 0, .int .i64 8, .int .i64 5, .int .i64 5]⟩, .agg ⟨[.string ⟨#[99, 111, 119]⟩, .int .i64 3, .int .i64 4, .int .i64 244, .int .i64 300, .int .i64 2, .int .i64 0, .bool false]⟩, .agg ⟨[.string ⟨#[99, 101, 112]⟩, .int .i64 2, .int .i64 4, .int .i64 250, .int .i64 330, .int .i64 2, .int .i64 1, .bool true]⟩], mem := [], v := .int .i64 9223372036854775807, res := none }
set_option maxRecDepth 1000000 in
theorem S07_run : @runE ⟨[], [], false, 0⟩ Try.prog 30000 0 S07x = some (.tuple ⟨endOf 0 S07x :: resOf S07x⟩) := by kernel_rfl
theorem S07_ent : EntR Try.prog S07x := ent_ok null_nil ent_nil (by kernel_rfl) S07_run
end Go.Proofs.Ytnbgcblnbhlpjaa
