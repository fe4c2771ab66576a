/- rights.Fell of the chapter's plots, none a year: what it comes to, reckoned on the shadow. Conditions: none. -/
import Derived.Test.YtnbgcblnbhlpjaaProg
import Derived.Test.YtnbgcblnbhlpjaaK14
import Derived.KernelRfl
namespace Go.Proofs.Ytnbgcblnbhlpjaa
open Go Go.RowKit
noncomputable def S30x : Ent := { g := 15, args := [.slice (some ⟨0, 0, some 0⟩) 3 3, .int .i64 0], mem := [(51, [.int .i64 70, .int .i64 80, .int .i64 81, .int .i64 79, .int .i64 75, .int .i64 81, .int .i64 80, .int .i64 80, .int .i64 90])], v := .tuple ⟨[.slice none 0 0, .int .i64 4]⟩, res := none }
set_option maxRecDepth 1000000 in
theorem S30_run : @runE ⟨[], [], false, 0⟩ Try.prog 30000 0 S30x = some (.tuple ⟨endOf 0 S30x :: resOf S30x⟩) := by kernel_rfl
theorem S30_ent : EntR Try.prog S30x := ent_ok null_nil ent_nil (by kernel_rfl) S30_run
end Go.Proofs.Ytnbgcblnbhlpjaa
