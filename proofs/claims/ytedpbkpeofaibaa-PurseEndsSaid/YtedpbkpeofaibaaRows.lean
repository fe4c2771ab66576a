/-
  No cell of these rows narrows 'for every input' (looked for: loops, veiled, ifaces, maps, wideKeys, modest, calm, conditions, laid).
  DERIVED. THE GIVEN ROWS OF THIS SEAT. 3 by the template 'for every input the law returns true; each argument reads behind the call as it read before'; 0 by the template 'total and deterministic' (their statements: YtedpbkpeofaibaaTotals.lean).
  GIVEN WITH THE SEED: the statements are not yours to turn. If you find one false, say at which input.
  Laid BY PROGRAM, IN A SANDBOX (cutbox-rows.mjs): the forced cells as the released guide's own fill.sh prints them over the translation 9f8316c40e54820e… (all of the seat's roots in one cut). By AI agents, Wed Nov 11 2026. No macro, syntax, notation, axiom, sorry.
-/
import Derived.Test.YtedpbkpeofaibaaChecked
import GoSem.Claim
import GoSem.ClaimJoined
import GoSem.ClaimMapViews
import Derived.JoinedTies
import Derived.KernelRfl
namespace Go.Proofs.Ytedpbkpeofaibaa
/- THE CELL 'sum', in the pinned program and in every row, IS THE sha256 OF THE DUMP (.gsa) THAT YtedpbkpeofaibaaProg.lean LOADS. Nothing in Lean hashes anything: it is a label: what it is worth is what the hold of that sum in a sandbox is worth. -/
noncomputable def Try.pinned : Pinned := { name := "ytedpbkpeofaibaa", sum := "9f8316c40e54820ee7a13719d99a33475d99d287ad46cba911210b03cd345edc", checked := Try.checked }
namespace Rows
def none {H : Type} : Left H := { results := [], args := [] }

/-- 'pinasterlaw08.PurseSettled': WHATEVER THE INPUT: true; the input reads as it did. -/
def purseSettledSpec : ChangeSpec := { name := "purseSettled", fn := fun _ => fun
  | [d1, d2, d3, d4] => { results := [.lit (.bool true)], args := [d1, d2, d3, d4] }
  | _ => none }
def purseSettledRow : OpenClaim := { program := "ytedpbkpeofaibaa", sum := "9f8316c40e54820ee7a13719d99a33475d99d287ad46cba911210b03cd345edc", func := "pinaster/pinasterlaw08.PurseSettled", spec := "purseSettled", unfollowed := true, recurses := true, apart := false }
def PurseSettledSaid : Prop := purseSettledRow.holds Try.pinned (OpenSpec.ofChange purseSettledSpec)

/-- ITS FALSE NEIGHBOUR: 'it returns false'. Refute it at one input. -/
def purseSettledWrong : ChangeSpec := { name := "purseSettled", fn := fun _ => fun
  | [d1, d2, d3, d4] => { results := [.lit (.bool false)], args := [d1, d2, d3, d4] }
  | _ => none }
def PurseSettledWrongFalsely : Prop := purseSettledRow.holds Try.pinned (OpenSpec.ofChange purseSettledWrong)

/-- 'pinasterlaw08.PurseEnds': WHATEVER THE INPUT: true; the input reads as it did. -/
def purseEndsSpec : ChangeSpec := { name := "purseEnds", fn := fun _ => fun
  | [d1, d2, d3] => { results := [.lit (.bool true)], args := [d1, d2, d3] }
  | _ => none }
def purseEndsRow : OpenClaim := { program := "ytedpbkpeofaibaa", sum := "9f8316c40e54820ee7a13719d99a33475d99d287ad46cba911210b03cd345edc", func := "pinaster/pinasterlaw08.PurseEnds", spec := "purseEnds", unfollowed := true, recurses := true, apart := false }
def PurseEndsSaid : Prop := purseEndsRow.holds Try.pinned (OpenSpec.ofChange purseEndsSpec)

/-- ITS FALSE NEIGHBOUR: 'it returns false'. Refute it at one input. -/
def purseEndsWrong : ChangeSpec := { name := "purseEnds", fn := fun _ => fun
  | [d1, d2, d3] => { results := [.lit (.bool false)], args := [d1, d2, d3] }
  | _ => none }
def PurseEndsWrongFalsely : Prop := purseEndsRow.holds Try.pinned (OpenSpec.ofChange purseEndsWrong)

/-- 'pinasterlaw08.PurseKept': WHATEVER THE INPUT: true; the input reads as it did. -/
def purseKeptSpec : ChangeSpec := { name := "purseKept", fn := fun _ => fun
  | [d1, d2, d3] => { results := [.lit (.bool true)], args := [d1, d2, d3] }
  | _ => none }
def purseKeptRow : OpenClaim := { program := "ytedpbkpeofaibaa", sum := "9f8316c40e54820ee7a13719d99a33475d99d287ad46cba911210b03cd345edc", func := "pinaster/pinasterlaw08.PurseKept", spec := "purseKept", unfollowed := true, recurses := true, apart := false }
def PurseKeptSaid : Prop := purseKeptRow.holds Try.pinned (OpenSpec.ofChange purseKeptSpec)

/-- ITS FALSE NEIGHBOUR: 'it returns false'. Refute it at one input. -/
def purseKeptWrong : ChangeSpec := { name := "purseKept", fn := fun _ => fun
  | [d1, d2, d3] => { results := [.lit (.bool false)], args := [d1, d2, d3] }
  | _ => none }
def PurseKeptWrongFalsely : Prop := purseKeptRow.holds Try.pinned (OpenSpec.ofChange purseKeptWrong)

/- THE SECOND FORM. 'bulk': how many values and letters a reading holds, each counted each time it is reached (what is shared counts as often as it is met; a slice's spare places count too). A statement '..UptoSaid' is the law's where the arguments, and the package variables that the reading takes, are together of bulk at most 1048576: NARROWER than '..Said'. Prove '..Said' where nothing that the law and all that it calls make is longer than what came in: it says more and counts as full. Else prove '..UptoSaid'. A law counts once. -/
mutual
def uptoBulk {H : Type} : DataW H → Nat
  | .lit (.string bytes) => bytes.length + 1
  | .lit _ => 1
  | .nil => 1
  | .ptr d => uptoBulk d + 1
  | .slice elems spare => uptoBulkAll elems + uptoBulkAll spare + 1
  | .agg parts => uptoBulkAll parts + 1
  | .iface _ d => uptoBulk d + 1
  | .map entries => uptoBulkEntries entries + 1
  | .held _ => 1
def uptoBulkAll {H : Type} : List (DataW H) → Nat
  | [] => 0
  | d :: r => uptoBulk d + uptoBulkAll r
def uptoBulkEntries {H : Type} : List (Lit × DataW H) → Nat
  | [] => 0
  | x :: r => uptoBulkEntry x + uptoBulkEntries r
def uptoBulkEntry {H : Type} : Lit × DataW H → Nat
  | (.string bytes, d) => bytes.length + uptoBulk d + 1
  | (_, d) => uptoBulk d + 1
 end
def uptoSmall : (H : Type) → List (DataW H) → Bool := fun _ ds => decide (uptoBulkAll ds ≤ 1048576)
def OpenSpec.upto (s : _root_.Go.ChangeSpec) : _root_.Go.OpenSpec := { _root_.Go.OpenSpec.ofChange s with cond := some uptoSmall }

/-- 'pinasterlaw08.PurseSettled', WHERE WHAT IT READS IS OF BULK AT MOST 1048576: true; the input reads as it did. -/
def purseSettledUptoRow : OpenClaim := { program := "ytedpbkpeofaibaa", sum := "9f8316c40e54820ee7a13719d99a33475d99d287ad46cba911210b03cd345edc", func := "pinaster/pinasterlaw08.PurseSettled", spec := "purseSettled", unfollowed := true, recurses := true, apart := false, narrowed := true }
def PurseSettledUptoSaid : Prop := purseSettledUptoRow.holds Try.pinned (OpenSpec.upto purseSettledSpec)

/-- 'pinasterlaw08.PurseEnds', WHERE WHAT IT READS IS OF BULK AT MOST 1048576: true; the input reads as it did. -/
def purseEndsUptoRow : OpenClaim := { program := "ytedpbkpeofaibaa", sum := "9f8316c40e54820ee7a13719d99a33475d99d287ad46cba911210b03cd345edc", func := "pinaster/pinasterlaw08.PurseEnds", spec := "purseEnds", unfollowed := true, recurses := true, apart := false, narrowed := true }
def PurseEndsUptoSaid : Prop := purseEndsUptoRow.holds Try.pinned (OpenSpec.upto purseEndsSpec)

/-- 'pinasterlaw08.PurseKept', WHERE WHAT IT READS IS OF BULK AT MOST 1048576: true; the input reads as it did. -/
def purseKeptUptoRow : OpenClaim := { program := "ytedpbkpeofaibaa", sum := "9f8316c40e54820ee7a13719d99a33475d99d287ad46cba911210b03cd345edc", func := "pinaster/pinasterlaw08.PurseKept", spec := "purseKept", unfollowed := true, recurses := true, apart := false, narrowed := true }
def PurseKeptUptoSaid : Prop := purseKeptUptoRow.holds Try.pinned (OpenSpec.upto purseKeptSpec)

end Rows
end Go.Proofs.Ytedpbkpeofaibaa
