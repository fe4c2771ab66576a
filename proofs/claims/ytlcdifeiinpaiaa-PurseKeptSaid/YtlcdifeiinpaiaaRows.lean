/-
  No cell of these rows narrows 'for every input' (looked for: loops, veiled, ifaces, maps, wideKeys, modest, calm, conditions, laid).
  DERIVED. THE GIVEN ROWS OF THIS SEAT. 3 by the template 'for every input the law returns true; each argument reads behind the call as it read before'; 0 by the template 'total and deterministic' (their statements: YtlcdifeiinpaiaaTotals.lean).
  GIVEN WITH THE SEED: the statements are not yours to turn. If you find one false, say at which input.
  Laid BY PROGRAM, IN A SANDBOX (cutbox-rows.mjs): the forced cells as the released guide's own fill.sh prints them over the translation 01c9672b9dc5d2d4… (all of the seat's roots in one cut). By AI agents, Wed Nov 11 2026. No macro, syntax, notation, axiom, sorry.
-/
import Derived.Test.YtlcdifeiinpaiaaChecked
import GoSem.Claim
import GoSem.ClaimJoined
import GoSem.ClaimMapViews
import Derived.JoinedTies
import Derived.KernelRfl
namespace Go.Proofs.Ytlcdifeiinpaiaa
/- THE CELL 'sum', in the pinned program and in every row, IS THE sha256 OF THE DUMP (.gsa) THAT YtlcdifeiinpaiaaProg.lean LOADS. Nothing in Lean hashes anything: it is a label: what it is worth is what the hold of that sum in a sandbox is worth. -/
noncomputable def Try.pinned : Pinned := { name := "ytlcdifeiinpaiaa", sum := "01c9672b9dc5d2d4d3eb614a04971ee9bd4f1f05f22fcb29afecc54bd67a80f6", checked := Try.checked }
namespace Rows
def none {H : Type} : Left H := { results := [], args := [] }

/-- 'pinasterlaw08.PurseKept': WHATEVER THE INPUT: true; the input reads as it did. -/
def purseKeptSpec : ChangeSpec := { name := "purseKept", fn := fun _ => fun
  | [d1, d2, d3] => { results := [.lit (.bool true)], args := [d1, d2, d3] }
  | _ => none }
def purseKeptRow : OpenClaim := { program := "ytlcdifeiinpaiaa", sum := "01c9672b9dc5d2d4d3eb614a04971ee9bd4f1f05f22fcb29afecc54bd67a80f6", func := "pinaster/pinasterlaw08.PurseKept", spec := "purseKept", unfollowed := true, recurses := true, apart := false }
def PurseKeptSaid : Prop := purseKeptRow.holds Try.pinned (OpenSpec.ofChange purseKeptSpec)

/-- ITS FALSE NEIGHBOUR: 'it returns false'. Refute it at one input. -/
def purseKeptWrong : ChangeSpec := { name := "purseKept", fn := fun _ => fun
  | [d1, d2, d3] => { results := [.lit (.bool false)], args := [d1, d2, d3] }
  | _ => none }
def PurseKeptWrongFalsely : Prop := purseKeptRow.holds Try.pinned (OpenSpec.ofChange purseKeptWrong)

/-- 'pinasterlaw08.PurseDivided': WHATEVER THE INPUT: true; the input reads as it did. -/
def purseDividedSpec : ChangeSpec := { name := "purseDivided", fn := fun _ => fun
  | [d1, d2, d3] => { results := [.lit (.bool true)], args := [d1, d2, d3] }
  | _ => none }
def purseDividedRow : OpenClaim := { program := "ytlcdifeiinpaiaa", sum := "01c9672b9dc5d2d4d3eb614a04971ee9bd4f1f05f22fcb29afecc54bd67a80f6", func := "pinaster/pinasterlaw08.PurseDivided", spec := "purseDivided", unfollowed := true, recurses := true, apart := false }
def PurseDividedSaid : Prop := purseDividedRow.holds Try.pinned (OpenSpec.ofChange purseDividedSpec)

/-- ITS FALSE NEIGHBOUR: 'it returns false'. Refute it at one input. -/
def purseDividedWrong : ChangeSpec := { name := "purseDivided", fn := fun _ => fun
  | [d1, d2, d3] => { results := [.lit (.bool false)], args := [d1, d2, d3] }
  | _ => none }
def PurseDividedWrongFalsely : Prop := purseDividedRow.holds Try.pinned (OpenSpec.ofChange purseDividedWrong)

/-- 'pinasterlaw08.PurseDivides': WHATEVER THE INPUT: true; the input reads as it did. -/
def purseDividesSpec : ChangeSpec := { name := "purseDivides", fn := fun _ => fun
  | [d1, d2] => { results := [.lit (.bool true)], args := [d1, d2] }
  | _ => none }
def purseDividesRow : OpenClaim := { program := "ytlcdifeiinpaiaa", sum := "01c9672b9dc5d2d4d3eb614a04971ee9bd4f1f05f22fcb29afecc54bd67a80f6", func := "pinaster/pinasterlaw08.PurseDivides", spec := "purseDivides", unfollowed := true, recurses := true, apart := false }
def PurseDividesSaid : Prop := purseDividesRow.holds Try.pinned (OpenSpec.ofChange purseDividesSpec)

/-- ITS FALSE NEIGHBOUR: 'it returns false'. Refute it at one input. -/
def purseDividesWrong : ChangeSpec := { name := "purseDivides", fn := fun _ => fun
  | [d1, d2] => { results := [.lit (.bool false)], args := [d1, d2] }
  | _ => none }
def PurseDividesWrongFalsely : Prop := purseDividesRow.holds Try.pinned (OpenSpec.ofChange purseDividesWrong)

/- THE SECOND FORM. 'bulk': how many values and letters a reading holds, each counted each time it is reached (what is shared counts as often as it is met; a slice's spare places count too). A statement '..UptoSaid' is the law's where the arguments, and the package variables that the reading takes, are together of bulk at most 1048576: NARROWER than '..Said'. Prove '..Said' where nothing that the law and all that it calls make is longer than what came in: it says more and counts as full. Else prove '..UptoSaid'. A law counts once. -/
mutual
def uptoBulk {H : Type} : DataW H → Nat
  | .lit (.string bytes) => bytes.length + 1
  | .lit _ => 1
  | .nil => 1
  | .ptr d => uptoBulk d + 1
  | .slice elems spare => uptoBulkAll elems + uptoBulkAll spare + 1
  | .agg parts => uptoBulkAll parts + 1
  | .iface _ d => uptoBulk d + 1
  | .map entries => uptoBulkEntries entries + 1
  | .held _ => 1
def uptoBulkAll {H : Type} : List (DataW H) → Nat
  | [] => 0
  | d :: r => uptoBulk d + uptoBulkAll r
def uptoBulkEntries {H : Type} : List (Lit × DataW H) → Nat
  | [] => 0
  | x :: r => uptoBulkEntry x + uptoBulkEntries r
def uptoBulkEntry {H : Type} : Lit × DataW H → Nat
  | (.string bytes, d) => bytes.length + uptoBulk d + 1
  | (_, d) => uptoBulk d + 1
 end
def uptoSmall : (H : Type) → List (DataW H) → Bool := fun _ ds => decide (uptoBulkAll ds ≤ 1048576)
def OpenSpec.upto (s : _root_.Go.ChangeSpec) : _root_.Go.OpenSpec := { _root_.Go.OpenSpec.ofChange s with cond := some uptoSmall }

/-- 'pinasterlaw08.PurseKept', WHERE WHAT IT READS IS OF BULK AT MOST 1048576: true; the input reads as it did. -/
def purseKeptUptoRow : OpenClaim := { program := "ytlcdifeiinpaiaa", sum := "01c9672b9dc5d2d4d3eb614a04971ee9bd4f1f05f22fcb29afecc54bd67a80f6", func := "pinaster/pinasterlaw08.PurseKept", spec := "purseKept", unfollowed := true, recurses := true, apart := false, narrowed := true }
def PurseKeptUptoSaid : Prop := purseKeptUptoRow.holds Try.pinned (OpenSpec.upto purseKeptSpec)

/-- 'pinasterlaw08.PurseDivided', WHERE WHAT IT READS IS OF BULK AT MOST 1048576: true; the input reads as it did. -/
def purseDividedUptoRow : OpenClaim := { program := "ytlcdifeiinpaiaa", sum := "01c9672b9dc5d2d4d3eb614a04971ee9bd4f1f05f22fcb29afecc54bd67a80f6", func := "pinaster/pinasterlaw08.PurseDivided", spec := "purseDivided", unfollowed := true, recurses := true, apart := false, narrowed := true }
def PurseDividedUptoSaid : Prop := purseDividedUptoRow.holds Try.pinned (OpenSpec.upto purseDividedSpec)

/-- 'pinasterlaw08.PurseDivides', WHERE WHAT IT READS IS OF BULK AT MOST 1048576: true; the input reads as it did. -/
def purseDividesUptoRow : OpenClaim := { program := "ytlcdifeiinpaiaa", sum := "01c9672b9dc5d2d4d3eb614a04971ee9bd4f1f05f22fcb29afecc54bd67a80f6", func := "pinaster/pinasterlaw08.PurseDivides", spec := "purseDivides", unfollowed := true, recurses := true, apart := false, narrowed := true }
def PurseDividesUptoSaid : Prop := purseDividesUptoRow.holds Try.pinned (OpenSpec.upto purseDividesSpec)

end Rows
end Go.Proofs.Ytlcdifeiinpaiaa
