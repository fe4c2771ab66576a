/- Contracts of package stand's reader: take. Conditions: a text that fits into memory. -/
import Derived.Test.YtpkjjiieglebbaaDoorTN
import Derived.Test.YtpkjjiieglebbaaDoorShelf
namespace Go.Proofs.YtpkjjiieglebbaaDoor
open Go Go.RowKit
set_option maxHeartbeats 1000000 in
theorem take_any (Br : Nat) (s : ByteArray) (k : Nat) (w : World) (hs : s.size ≤ maxLen) (hb : Boxed w Br 135 (.string s)) (hk : k ≤ s.size) :
    Calls Tryd.prog 112 #[.pointer (some ⟨Br, 0, none⟩), .int .i64 (k : Int)] w fun e w' =>
      e = .returned (.string (s.extract 0 k)) ∧ w' = w.setCell ⟨Br, 0, none⟩ (.string (s.extract k s.size)) := by
  have c0 := hb.cell
  have c1 := hb.frozen
  have hs' : s.size ≤ 9223372036854775807 := by unfold maxLen at hs; omega
  clear hb
  go_enter Tryd.func112, Tryd.ntmps112
  go_wp2_with fail
  go_ret
  exact ⟨rfl, rfl⟩
theorem expect_yes (Br : Nat) (s p : ByteArray) (w : World) (hb : Boxed w Br 135 (.string s)) (hp : Lib.hasPrefix s.data.toList p.data.toList = true) :
    Calls Tryd.prog 102 #[.pointer (some ⟨Br, 0, none⟩), .string p] w fun e w' =>
      e = .returned (.tuple #[]) ∧ w' = w.setCell ⟨Br, 0, none⟩ (.string ⟨(Lib.trimPrefix s.data.toList p.data.toList).toArray⟩) := by
  have c0 := hb.cell
  have c1 := hb.frozen
  clear hb
  go_enter Tryd.func102, Tryd.ntmps102
  go_wp2_with (go_at_call 111; refine (Tryd.strings_CutPrefix s p _).mono ?_; rintro e w1 ⟨rfl, rfl⟩)
  go_end0
  exact ⟨rfl, rfl⟩
theorem expect_no (Br : Nat) (s p : ByteArray) (w : World) (hb : Boxed w Br 135 (.string s)) (hp : Lib.hasPrefix s.data.toList p.data.toList = false) :
    Calls Tryd.prog 102 #[.pointer (some ⟨Br, 0, none⟩), .string p] w fun e w' =>
      e = .panicked [{ v := .iface 31 (.int .i64 5), recovered := false }] ∧ w' = w := by
  have c0 := hb.cell
  have c1 := hb.frozen
  clear hb
  go_enter Tryd.func102, Tryd.ntmps102
  go_wp2_with (go_at_call 111; refine (Tryd.strings_CutPrefix s p _).mono ?_; rintro e w1 ⟨rfl, rfl⟩)
  exact ⟨rfl, rfl, rfl⟩
end Go.Proofs.YtpkjjiieglebbaaDoor
