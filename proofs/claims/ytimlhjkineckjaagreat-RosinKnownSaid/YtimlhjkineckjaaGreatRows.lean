/-
  No cell of these rows narrows 'for every input' (looked for: loops, veiled, ifaces, maps, wideKeys, modest, calm, conditions, laid).
  DERIVED. THE GIVEN ROWS OF THIS SEAT. 10 by the template 'for every input the law returns true; each argument reads behind the call as it read before'; 0 by the template 'total and deterministic' (their statements: YtimlhjkineckjaaGreatTotals.lean).
  GIVEN WITH THE SEED: the statements are not yours to turn. If you find one false, say at which input.
  Laid BY PROGRAM, IN A SANDBOX (cutbox-rows.mjs): the forced cells as the released guide's own fill.sh prints them over the translation 781651909b2b1d70… (all of the seat's roots in one cut). By AI agents, Wed Nov 11 2026. No macro, syntax, notation, axiom, sorry.
-/
import Derived.Test.YtimlhjkineckjaaGreatChecked
import GoSem.Claim
import GoSem.ClaimJoined
import GoSem.ClaimMapViews
import Derived.JoinedTies
import Derived.KernelRfl
namespace Go.Proofs.YtimlhjkineckjaaGreat
/- THE CELL 'sum', in the pinned program and in every row, IS THE sha256 OF THE DUMP (.gsa) THAT YtimlhjkineckjaaGreatProg.lean LOADS. Nothing in Lean hashes anything: it is a label: what it is worth is what the hold of that sum in a sandbox is worth. -/
noncomputable def Tryz.pinned : Pinned := { name := "ytimlhjkineckjaagreat", sum := "781651909b2b1d70fa872fdbb765bcdd37353a10581f956d55a5b702592e713e", checked := Tryz.checked }
namespace Rows
def none {H : Type} : Left H := { results := [], args := [] }

/-- 'pinasterlaw07.RosinGrades': WHATEVER THE INPUT: true; the input reads as it did. -/
def rosinGradesSpec : ChangeSpec := { name := "rosinGrades", fn := fun _ => fun
  | [d1, d2, d3] => { results := [.lit (.bool true)], args := [d1, d2, d3] }
  | _ => none }
def rosinGradesRow : OpenClaim := { program := "ytimlhjkineckjaagreat", sum := "781651909b2b1d70fa872fdbb765bcdd37353a10581f956d55a5b702592e713e", func := "pinaster/pinasterlaw07.RosinGrades", spec := "rosinGrades", unfollowed := true, recurses := true, plainKeys := false, apart := false }
def RosinGradesSaid : Prop := rosinGradesRow.holds Tryz.pinned (OpenSpec.ofChange rosinGradesSpec)

/-- ITS FALSE NEIGHBOUR: 'it returns false'. Refute it at one input. -/
def rosinGradesWrong : ChangeSpec := { name := "rosinGrades", fn := fun _ => fun
  | [d1, d2, d3] => { results := [.lit (.bool false)], args := [d1, d2, d3] }
  | _ => none }
def RosinGradesWrongFalsely : Prop := rosinGradesRow.holds Tryz.pinned (OpenSpec.ofChange rosinGradesWrong)

/-- 'pinasterlaw07.RosinSettles': WHATEVER THE INPUT: true; the input reads as it did. -/
def rosinSettlesSpec : ChangeSpec := { name := "rosinSettles", fn := fun _ => fun
  | [d1, d2, d3] => { results := [.lit (.bool true)], args := [d1, d2, d3] }
  | _ => none }
def rosinSettlesRow : OpenClaim := { program := "ytimlhjkineckjaagreat", sum := "781651909b2b1d70fa872fdbb765bcdd37353a10581f956d55a5b702592e713e", func := "pinaster/pinasterlaw07.RosinSettles", spec := "rosinSettles", unfollowed := true, recurses := true, plainKeys := false, apart := false }
def RosinSettlesSaid : Prop := rosinSettlesRow.holds Tryz.pinned (OpenSpec.ofChange rosinSettlesSpec)

/-- ITS FALSE NEIGHBOUR: 'it returns false'. Refute it at one input. -/
def rosinSettlesWrong : ChangeSpec := { name := "rosinSettles", fn := fun _ => fun
  | [d1, d2, d3] => { results := [.lit (.bool false)], args := [d1, d2, d3] }
  | _ => none }
def RosinSettlesWrongFalsely : Prop := rosinSettlesRow.holds Tryz.pinned (OpenSpec.ofChange rosinSettlesWrong)

/-- 'pinasterlaw07.RosinMixes': WHATEVER THE INPUT: true; the input reads as it did. -/
def rosinMixesSpec : ChangeSpec := { name := "rosinMixes", fn := fun _ => fun
  | [d1, d2, d3, d4] => { results := [.lit (.bool true)], args := [d1, d2, d3, d4] }
  | _ => none }
def rosinMixesRow : OpenClaim := { program := "ytimlhjkineckjaagreat", sum := "781651909b2b1d70fa872fdbb765bcdd37353a10581f956d55a5b702592e713e", func := "pinaster/pinasterlaw07.RosinMixes", spec := "rosinMixes", unfollowed := true, recurses := true, plainKeys := false, apart := false }
def RosinMixesSaid : Prop := rosinMixesRow.holds Tryz.pinned (OpenSpec.ofChange rosinMixesSpec)

/-- ITS FALSE NEIGHBOUR: 'it returns false'. Refute it at one input. -/
def rosinMixesWrong : ChangeSpec := { name := "rosinMixes", fn := fun _ => fun
  | [d1, d2, d3, d4] => { results := [.lit (.bool false)], args := [d1, d2, d3, d4] }
  | _ => none }
def RosinMixesWrongFalsely : Prop := rosinMixesRow.holds Tryz.pinned (OpenSpec.ofChange rosinMixesWrong)

/-- 'pinasterlaw07.RosinBlends': WHATEVER THE INPUT: true; the input reads as it did. -/
def rosinBlendsSpec : ChangeSpec := { name := "rosinBlends", fn := fun _ => fun
  | [d1, d2, d3, d4] => { results := [.lit (.bool true)], args := [d1, d2, d3, d4] }
  | _ => none }
def rosinBlendsRow : OpenClaim := { program := "ytimlhjkineckjaagreat", sum := "781651909b2b1d70fa872fdbb765bcdd37353a10581f956d55a5b702592e713e", func := "pinaster/pinasterlaw07.RosinBlends", spec := "rosinBlends", unfollowed := true, recurses := true, plainKeys := false, apart := false }
def RosinBlendsSaid : Prop := rosinBlendsRow.holds Tryz.pinned (OpenSpec.ofChange rosinBlendsSpec)

/-- ITS FALSE NEIGHBOUR: 'it returns false'. Refute it at one input. -/
def rosinBlendsWrong : ChangeSpec := { name := "rosinBlends", fn := fun _ => fun
  | [d1, d2, d3, d4] => { results := [.lit (.bool false)], args := [d1, d2, d3, d4] }
  | _ => none }
def RosinBlendsWrongFalsely : Prop := rosinBlendsRow.holds Tryz.pinned (OpenSpec.ofChange rosinBlendsWrong)

/-- 'pinasterlaw07.RosinTrue': WHATEVER THE INPUT: true; the input reads as it did. -/
def rosinTrueSpec : ChangeSpec := { name := "rosinTrue", fn := fun _ => fun
  | [d1, d2, d3, d4] => { results := [.lit (.bool true)], args := [d1, d2, d3, d4] }
  | _ => none }
def rosinTrueRow : OpenClaim := { program := "ytimlhjkineckjaagreat", sum := "781651909b2b1d70fa872fdbb765bcdd37353a10581f956d55a5b702592e713e", func := "pinaster/pinasterlaw07.RosinTrue", spec := "rosinTrue", unfollowed := true, recurses := true, plainKeys := false, apart := false }
def RosinTrueSaid : Prop := rosinTrueRow.holds Tryz.pinned (OpenSpec.ofChange rosinTrueSpec)

/-- ITS FALSE NEIGHBOUR: 'it returns false'. Refute it at one input. -/
def rosinTrueWrong : ChangeSpec := { name := "rosinTrue", fn := fun _ => fun
  | [d1, d2, d3, d4] => { results := [.lit (.bool false)], args := [d1, d2, d3, d4] }
  | _ => none }
def RosinTrueWrongFalsely : Prop := rosinTrueRow.holds Tryz.pinned (OpenSpec.ofChange rosinTrueWrong)

/-- 'pinasterlaw07.RosinNone': WHATEVER THE INPUT: true; the input reads as it did. -/
def rosinNoneSpec : ChangeSpec := { name := "rosinNone", fn := fun _ => fun
  | [d1, d2, d3] => { results := [.lit (.bool true)], args := [d1, d2, d3] }
  | _ => none }
def rosinNoneRow : OpenClaim := { program := "ytimlhjkineckjaagreat", sum := "781651909b2b1d70fa872fdbb765bcdd37353a10581f956d55a5b702592e713e", func := "pinaster/pinasterlaw07.RosinNone", spec := "rosinNone", unfollowed := true, recurses := true, plainKeys := false, apart := false }
def RosinNoneSaid : Prop := rosinNoneRow.holds Tryz.pinned (OpenSpec.ofChange rosinNoneSpec)

/-- ITS FALSE NEIGHBOUR: 'it returns false'. Refute it at one input. -/
def rosinNoneWrong : ChangeSpec := { name := "rosinNone", fn := fun _ => fun
  | [d1, d2, d3] => { results := [.lit (.bool false)], args := [d1, d2, d3] }
  | _ => none }
def RosinNoneWrongFalsely : Prop := rosinNoneRow.holds Tryz.pinned (OpenSpec.ofChange rosinNoneWrong)

/-- 'pinasterlaw07.RosinOrder': WHATEVER THE INPUT: true; the input reads as it did. -/
def rosinOrderSpec : ChangeSpec := { name := "rosinOrder", fn := fun _ => fun
  | [d1, d2, d3] => { results := [.lit (.bool true)], args := [d1, d2, d3] }
  | _ => none }
def rosinOrderRow : OpenClaim := { program := "ytimlhjkineckjaagreat", sum := "781651909b2b1d70fa872fdbb765bcdd37353a10581f956d55a5b702592e713e", func := "pinaster/pinasterlaw07.RosinOrder", spec := "rosinOrder", unfollowed := true, recurses := true, plainKeys := false, apart := false }
def RosinOrderSaid : Prop := rosinOrderRow.holds Tryz.pinned (OpenSpec.ofChange rosinOrderSpec)

/-- ITS FALSE NEIGHBOUR: 'it returns false'. Refute it at one input. -/
def rosinOrderWrong : ChangeSpec := { name := "rosinOrder", fn := fun _ => fun
  | [d1, d2, d3] => { results := [.lit (.bool false)], args := [d1, d2, d3] }
  | _ => none }
def RosinOrderWrongFalsely : Prop := rosinOrderRow.holds Tryz.pinned (OpenSpec.ofChange rosinOrderWrong)

/-- 'pinasterlaw07.RosinBlended': WHATEVER THE INPUT: true; the input reads as it did. -/
def rosinBlendedSpec : ChangeSpec := { name := "rosinBlended", fn := fun _ => fun
  | [d1, d2, d3, d4] => { results := [.lit (.bool true)], args := [d1, d2, d3, d4] }
  | _ => none }
def rosinBlendedRow : OpenClaim := { program := "ytimlhjkineckjaagreat", sum := "781651909b2b1d70fa872fdbb765bcdd37353a10581f956d55a5b702592e713e", func := "pinaster/pinasterlaw07.RosinBlended", spec := "rosinBlended", unfollowed := true, recurses := true, plainKeys := false, apart := false }
def RosinBlendedSaid : Prop := rosinBlendedRow.holds Tryz.pinned (OpenSpec.ofChange rosinBlendedSpec)

/-- ITS FALSE NEIGHBOUR: 'it returns false'. Refute it at one input. -/
def rosinBlendedWrong : ChangeSpec := { name := "rosinBlended", fn := fun _ => fun
  | [d1, d2, d3, d4] => { results := [.lit (.bool false)], args := [d1, d2, d3, d4] }
  | _ => none }
def RosinBlendedWrongFalsely : Prop := rosinBlendedRow.holds Tryz.pinned (OpenSpec.ofChange rosinBlendedWrong)

/-- 'pinasterlaw07.RosinCheapest': WHATEVER THE INPUT: true; the input reads as it did. -/
def rosinCheapestSpec : ChangeSpec := { name := "rosinCheapest", fn := fun _ => fun
  | [d1, d2, d3, d4] => { results := [.lit (.bool true)], args := [d1, d2, d3, d4] }
  | _ => none }
def rosinCheapestRow : OpenClaim := { program := "ytimlhjkineckjaagreat", sum := "781651909b2b1d70fa872fdbb765bcdd37353a10581f956d55a5b702592e713e", func := "pinaster/pinasterlaw07.RosinCheapest", spec := "rosinCheapest", unfollowed := true, recurses := true, plainKeys := false, apart := false }
def RosinCheapestSaid : Prop := rosinCheapestRow.holds Tryz.pinned (OpenSpec.ofChange rosinCheapestSpec)

/-- ITS FALSE NEIGHBOUR: 'it returns false'. Refute it at one input. -/
def rosinCheapestWrong : ChangeSpec := { name := "rosinCheapest", fn := fun _ => fun
  | [d1, d2, d3, d4] => { results := [.lit (.bool false)], args := [d1, d2, d3, d4] }
  | _ => none }
def RosinCheapestWrongFalsely : Prop := rosinCheapestRow.holds Tryz.pinned (OpenSpec.ofChange rosinCheapestWrong)

/-- 'pinasterlaw07.RosinKnown': WHATEVER THE INPUT: true; the input reads as it did. -/
def rosinKnownSpec : ChangeSpec := { name := "rosinKnown", fn := fun _ => fun
  | [] => { results := [.lit (.bool true)], args := [] }
  | _ => none }
def rosinKnownRow : OpenClaim := { program := "ytimlhjkineckjaagreat", sum := "781651909b2b1d70fa872fdbb765bcdd37353a10581f956d55a5b702592e713e", func := "pinaster/pinasterlaw07.RosinKnown", spec := "rosinKnown", unfollowed := true, recurses := true, plainKeys := false, apart := false }
def RosinKnownSaid : Prop := rosinKnownRow.holds Tryz.pinned (OpenSpec.ofChange rosinKnownSpec)

/-- ITS FALSE NEIGHBOUR: 'it returns false'. Refute it at one input. -/
def rosinKnownWrong : ChangeSpec := { name := "rosinKnown", fn := fun _ => fun
  | [] => { results := [.lit (.bool false)], args := [] }
  | _ => none }
def RosinKnownWrongFalsely : Prop := rosinKnownRow.holds Tryz.pinned (OpenSpec.ofChange rosinKnownWrong)

/- THE SECOND FORM. 'bulk': how many values and letters a reading holds, each counted each time it is reached (what is shared counts as often as it is met; a slice's spare places count too). A statement '..UptoSaid' is the law's where the arguments, and the package variables that the reading takes, are together of bulk at most 1048576: NARROWER than '..Said'. Prove '..Said' where nothing that the law and all that it calls make is longer than what came in: it says more and counts as full. Else prove '..UptoSaid'. A law counts once. -/
mutual
def uptoBulk {H : Type} : DataW H → Nat
  | .lit (.string bytes) => bytes.length + 1
  | .lit _ => 1
  | .nil => 1
  | .ptr d => uptoBulk d + 1
  | .slice elems spare => uptoBulkAll elems + uptoBulkAll spare + 1
  | .agg parts => uptoBulkAll parts + 1
  | .iface _ d => uptoBulk d + 1
  | .map entries => uptoBulkEntries entries + 1
  | .held _ => 1
def uptoBulkAll {H : Type} : List (DataW H) → Nat
  | [] => 0
  | d :: r => uptoBulk d + uptoBulkAll r
def uptoBulkEntries {H : Type} : List (Lit × DataW H) → Nat
  | [] => 0
  | x :: r => uptoBulkEntry x + uptoBulkEntries r
def uptoBulkEntry {H : Type} : Lit × DataW H → Nat
  | (.string bytes, d) => bytes.length + uptoBulk d + 1
  | (_, d) => uptoBulk d + 1
 end
def uptoSmall : (H : Type) → List (DataW H) → Bool := fun _ ds => decide (uptoBulkAll ds ≤ 1048576)
def OpenSpec.upto (s : _root_.Go.ChangeSpec) : _root_.Go.OpenSpec := { _root_.Go.OpenSpec.ofChange s with cond := some uptoSmall }

/-- 'pinasterlaw07.RosinGrades', WHERE WHAT IT READS IS OF BULK AT MOST 1048576: true; the input reads as it did. -/
def rosinGradesUptoRow : OpenClaim := { program := "ytimlhjkineckjaagreat", sum := "781651909b2b1d70fa872fdbb765bcdd37353a10581f956d55a5b702592e713e", func := "pinaster/pinasterlaw07.RosinGrades", spec := "rosinGrades", unfollowed := true, recurses := true, plainKeys := false, apart := false, narrowed := true }
def RosinGradesUptoSaid : Prop := rosinGradesUptoRow.holds Tryz.pinned (OpenSpec.upto rosinGradesSpec)

/-- 'pinasterlaw07.RosinSettles', WHERE WHAT IT READS IS OF BULK AT MOST 1048576: true; the input reads as it did. -/
def rosinSettlesUptoRow : OpenClaim := { program := "ytimlhjkineckjaagreat", sum := "781651909b2b1d70fa872fdbb765bcdd37353a10581f956d55a5b702592e713e", func := "pinaster/pinasterlaw07.RosinSettles", spec := "rosinSettles", unfollowed := true, recurses := true, plainKeys := false, apart := false, narrowed := true }
def RosinSettlesUptoSaid : Prop := rosinSettlesUptoRow.holds Tryz.pinned (OpenSpec.upto rosinSettlesSpec)

/-- 'pinasterlaw07.RosinMixes', WHERE WHAT IT READS IS OF BULK AT MOST 1048576: true; the input reads as it did. -/
def rosinMixesUptoRow : OpenClaim := { program := "ytimlhjkineckjaagreat", sum := "781651909b2b1d70fa872fdbb765bcdd37353a10581f956d55a5b702592e713e", func := "pinaster/pinasterlaw07.RosinMixes", spec := "rosinMixes", unfollowed := true, recurses := true, plainKeys := false, apart := false, narrowed := true }
def RosinMixesUptoSaid : Prop := rosinMixesUptoRow.holds Tryz.pinned (OpenSpec.upto rosinMixesSpec)

/-- 'pinasterlaw07.RosinBlends', WHERE WHAT IT READS IS OF BULK AT MOST 1048576: true; the input reads as it did. -/
def rosinBlendsUptoRow : OpenClaim := { program := "ytimlhjkineckjaagreat", sum := "781651909b2b1d70fa872fdbb765bcdd37353a10581f956d55a5b702592e713e", func := "pinaster/pinasterlaw07.RosinBlends", spec := "rosinBlends", unfollowed := true, recurses := true, plainKeys := false, apart := false, narrowed := true }
def RosinBlendsUptoSaid : Prop := rosinBlendsUptoRow.holds Tryz.pinned (OpenSpec.upto rosinBlendsSpec)

/-- 'pinasterlaw07.RosinTrue', WHERE WHAT IT READS IS OF BULK AT MOST 1048576: true; the input reads as it did. -/
def rosinTrueUptoRow : OpenClaim := { program := "ytimlhjkineckjaagreat", sum := "781651909b2b1d70fa872fdbb765bcdd37353a10581f956d55a5b702592e713e", func := "pinaster/pinasterlaw07.RosinTrue", spec := "rosinTrue", unfollowed := true, recurses := true, plainKeys := false, apart := false, narrowed := true }
def RosinTrueUptoSaid : Prop := rosinTrueUptoRow.holds Tryz.pinned (OpenSpec.upto rosinTrueSpec)

/-- 'pinasterlaw07.RosinNone', WHERE WHAT IT READS IS OF BULK AT MOST 1048576: true; the input reads as it did. -/
def rosinNoneUptoRow : OpenClaim := { program := "ytimlhjkineckjaagreat", sum := "781651909b2b1d70fa872fdbb765bcdd37353a10581f956d55a5b702592e713e", func := "pinaster/pinasterlaw07.RosinNone", spec := "rosinNone", unfollowed := true, recurses := true, plainKeys := false, apart := false, narrowed := true }
def RosinNoneUptoSaid : Prop := rosinNoneUptoRow.holds Tryz.pinned (OpenSpec.upto rosinNoneSpec)

/-- 'pinasterlaw07.RosinOrder', WHERE WHAT IT READS IS OF BULK AT MOST 1048576: true; the input reads as it did. -/
def rosinOrderUptoRow : OpenClaim := { program := "ytimlhjkineckjaagreat", sum := "781651909b2b1d70fa872fdbb765bcdd37353a10581f956d55a5b702592e713e", func := "pinaster/pinasterlaw07.RosinOrder", spec := "rosinOrder", unfollowed := true, recurses := true, plainKeys := false, apart := false, narrowed := true }
def RosinOrderUptoSaid : Prop := rosinOrderUptoRow.holds Tryz.pinned (OpenSpec.upto rosinOrderSpec)

/-- 'pinasterlaw07.RosinBlended', WHERE WHAT IT READS IS OF BULK AT MOST 1048576: true; the input reads as it did. -/
def rosinBlendedUptoRow : OpenClaim := { program := "ytimlhjkineckjaagreat", sum := "781651909b2b1d70fa872fdbb765bcdd37353a10581f956d55a5b702592e713e", func := "pinaster/pinasterlaw07.RosinBlended", spec := "rosinBlended", unfollowed := true, recurses := true, plainKeys := false, apart := false, narrowed := true }
def RosinBlendedUptoSaid : Prop := rosinBlendedUptoRow.holds Tryz.pinned (OpenSpec.upto rosinBlendedSpec)

/-- 'pinasterlaw07.RosinCheapest', WHERE WHAT IT READS IS OF BULK AT MOST 1048576: true; the input reads as it did. -/
def rosinCheapestUptoRow : OpenClaim := { program := "ytimlhjkineckjaagreat", sum := "781651909b2b1d70fa872fdbb765bcdd37353a10581f956d55a5b702592e713e", func := "pinaster/pinasterlaw07.RosinCheapest", spec := "rosinCheapest", unfollowed := true, recurses := true, plainKeys := false, apart := false, narrowed := true }
def RosinCheapestUptoSaid : Prop := rosinCheapestUptoRow.holds Tryz.pinned (OpenSpec.upto rosinCheapestSpec)

/-- 'pinasterlaw07.RosinKnown', WHERE WHAT IT READS IS OF BULK AT MOST 1048576: true; the input reads as it did. -/
def rosinKnownUptoRow : OpenClaim := { program := "ytimlhjkineckjaagreat", sum := "781651909b2b1d70fa872fdbb765bcdd37353a10581f956d55a5b702592e713e", func := "pinaster/pinasterlaw07.RosinKnown", spec := "rosinKnown", unfollowed := true, recurses := true, plainKeys := false, apart := false, narrowed := true }
def RosinKnownUptoSaid : Prop := rosinKnownUptoRow.holds Tryz.pinned (OpenSpec.upto rosinKnownSpec)

end Rows
end Go.Proofs.YtimlhjkineckjaaGreat
