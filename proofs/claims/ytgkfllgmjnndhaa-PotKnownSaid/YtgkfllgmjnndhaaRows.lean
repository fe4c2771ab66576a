/-
  No cell of these rows narrows 'for every input' (looked for: loops, veiled, ifaces, maps, wideKeys, modest, calm, conditions, laid).
  DERIVED. THE GIVEN ROWS OF THIS SEAT. 5 by the template 'for every input the law returns true; each argument reads behind the call as it read before'; 0 by the template 'total and deterministic' (their statements: YtgkfllgmjnndhaaTotals.lean).
  GIVEN WITH THE SEED: the statements are not yours to turn. If you find one false, say at which input.
  Laid BY PROGRAM, IN A SANDBOX (cutbox-rows.mjs): the forced cells as the released guide's own fill.sh prints them over the translation f13b03eb15ef62ac… (all of the seat's roots in one cut). By AI agents, Wed Nov 11 2026. No macro, syntax, notation, axiom, sorry.
-/
import Derived.Test.YtgkfllgmjnndhaaChecked
import GoSem.Claim
import GoSem.ClaimJoined
import GoSem.ClaimMapViews
import Derived.JoinedTies
import Derived.KernelRfl
namespace Go.Proofs.Ytgkfllgmjnndhaa
/- THE CELL 'sum', in the pinned program and in every row, IS THE sha256 OF THE DUMP (.gsa) THAT YtgkfllgmjnndhaaProg.lean LOADS. Nothing in Lean hashes anything: it is a label: what it is worth is what the hold of that sum in a sandbox is worth. -/
noncomputable def Try.pinned : Pinned := { name := "ytgkfllgmjnndhaa", sum := "f13b03eb15ef62ac0f504e734063230d377c809be44a2bf02276951c5e769f60", checked := Try.checked }
namespace Rows
def none {H : Type} : Left H := { results := [], args := [] }

/-- 'pinasterlaw02.FaceKnown': WHATEVER THE INPUT: true; the input reads as it did. -/
def faceKnownSpec : ChangeSpec := { name := "faceKnown", fn := fun _ => fun
  | [] => { results := [.lit (.bool true)], args := [] }
  | _ => none }
def faceKnownRow : OpenClaim := { program := "ytgkfllgmjnndhaa", sum := "f13b03eb15ef62ac0f504e734063230d377c809be44a2bf02276951c5e769f60", func := "pinaster/pinasterlaw02.FaceKnown", spec := "faceKnown", unfollowed := true, recurses := true, plainKeys := false, apart := false }
def FaceKnownSaid : Prop := faceKnownRow.holds Try.pinned (OpenSpec.ofChange faceKnownSpec)

/-- ITS FALSE NEIGHBOUR: 'it returns false'. Refute it at one input. -/
def faceKnownWrong : ChangeSpec := { name := "faceKnown", fn := fun _ => fun
  | [] => { results := [.lit (.bool false)], args := [] }
  | _ => none }
def FaceKnownWrongFalsely : Prop := faceKnownRow.holds Try.pinned (OpenSpec.ofChange faceKnownWrong)

/-- 'pinasterlaw03.PotKnown': WHATEVER THE INPUT: true; the input reads as it did. -/
def potKnownSpec : ChangeSpec := { name := "potKnown", fn := fun _ => fun
  | [] => { results := [.lit (.bool true)], args := [] }
  | _ => none }
def potKnownRow : OpenClaim := { program := "ytgkfllgmjnndhaa", sum := "f13b03eb15ef62ac0f504e734063230d377c809be44a2bf02276951c5e769f60", func := "pinaster/pinasterlaw03.PotKnown", spec := "potKnown", unfollowed := true, recurses := true, plainKeys := false, apart := false }
def PotKnownSaid : Prop := potKnownRow.holds Try.pinned (OpenSpec.ofChange potKnownSpec)

/-- ITS FALSE NEIGHBOUR: 'it returns false'. Refute it at one input. -/
def potKnownWrong : ChangeSpec := { name := "potKnown", fn := fun _ => fun
  | [] => { results := [.lit (.bool false)], args := [] }
  | _ => none }
def PotKnownWrongFalsely : Prop := potKnownRow.holds Try.pinned (OpenSpec.ofChange potKnownWrong)

/-- 'pinasterlaw04.FireKnown': WHATEVER THE INPUT: true; the input reads as it did. -/
def fireKnownSpec : ChangeSpec := { name := "fireKnown", fn := fun _ => fun
  | [] => { results := [.lit (.bool true)], args := [] }
  | _ => none }
def fireKnownRow : OpenClaim := { program := "ytgkfllgmjnndhaa", sum := "f13b03eb15ef62ac0f504e734063230d377c809be44a2bf02276951c5e769f60", func := "pinaster/pinasterlaw04.FireKnown", spec := "fireKnown", unfollowed := true, recurses := true, plainKeys := false, apart := false }
def FireKnownSaid : Prop := fireKnownRow.holds Try.pinned (OpenSpec.ofChange fireKnownSpec)

/-- ITS FALSE NEIGHBOUR: 'it returns false'. Refute it at one input. -/
def fireKnownWrong : ChangeSpec := { name := "fireKnown", fn := fun _ => fun
  | [] => { results := [.lit (.bool false)], args := [] }
  | _ => none }
def FireKnownWrongFalsely : Prop := fireKnownRow.holds Try.pinned (OpenSpec.ofChange fireKnownWrong)

/-- 'pinasterlaw05.StillKnown': WHATEVER THE INPUT: true; the input reads as it did. -/
def stillKnownSpec : ChangeSpec := { name := "stillKnown", fn := fun _ => fun
  | [] => { results := [.lit (.bool true)], args := [] }
  | _ => none }
def stillKnownRow : OpenClaim := { program := "ytgkfllgmjnndhaa", sum := "f13b03eb15ef62ac0f504e734063230d377c809be44a2bf02276951c5e769f60", func := "pinaster/pinasterlaw05.StillKnown", spec := "stillKnown", unfollowed := true, recurses := true, plainKeys := false, apart := false }
def StillKnownSaid : Prop := stillKnownRow.holds Try.pinned (OpenSpec.ofChange stillKnownSpec)

/-- ITS FALSE NEIGHBOUR: 'it returns false'. Refute it at one input. -/
def stillKnownWrong : ChangeSpec := { name := "stillKnown", fn := fun _ => fun
  | [] => { results := [.lit (.bool false)], args := [] }
  | _ => none }
def StillKnownWrongFalsely : Prop := stillKnownRow.holds Try.pinned (OpenSpec.ofChange stillKnownWrong)

/-- 'pinasterlaw06.CutKnown': WHATEVER THE INPUT: true; the input reads as it did. -/
def cutKnownSpec : ChangeSpec := { name := "cutKnown", fn := fun _ => fun
  | [] => { results := [.lit (.bool true)], args := [] }
  | _ => none }
def cutKnownRow : OpenClaim := { program := "ytgkfllgmjnndhaa", sum := "f13b03eb15ef62ac0f504e734063230d377c809be44a2bf02276951c5e769f60", func := "pinaster/pinasterlaw06.CutKnown", spec := "cutKnown", unfollowed := true, recurses := true, plainKeys := false, apart := false }
def CutKnownSaid : Prop := cutKnownRow.holds Try.pinned (OpenSpec.ofChange cutKnownSpec)

/-- ITS FALSE NEIGHBOUR: 'it returns false'. Refute it at one input. -/
def cutKnownWrong : ChangeSpec := { name := "cutKnown", fn := fun _ => fun
  | [] => { results := [.lit (.bool false)], args := [] }
  | _ => none }
def CutKnownWrongFalsely : Prop := cutKnownRow.holds Try.pinned (OpenSpec.ofChange cutKnownWrong)

/- THE SECOND FORM. 'bulk': how many values and letters a reading holds, each counted each time it is reached (what is shared counts as often as it is met; a slice's spare places count too). A statement '..UptoSaid' is the law's where the arguments, and the package variables that the reading takes, are together of bulk at most 1048576: NARROWER than '..Said'. Prove '..Said' where nothing that the law and all that it calls make is longer than what came in: it says more and counts as full. Else prove '..UptoSaid'. A law counts once. -/
mutual
def uptoBulk {H : Type} : DataW H → Nat
  | .lit (.string bytes) => bytes.length + 1
  | .lit _ => 1
  | .nil => 1
  | .ptr d => uptoBulk d + 1
  | .slice elems spare => uptoBulkAll elems + uptoBulkAll spare + 1
  | .agg parts => uptoBulkAll parts + 1
  | .iface _ d => uptoBulk d + 1
  | .map entries => uptoBulkEntries entries + 1
  | .held _ => 1
def uptoBulkAll {H : Type} : List (DataW H) → Nat
  | [] => 0
  | d :: r => uptoBulk d + uptoBulkAll r
def uptoBulkEntries {H : Type} : List (Lit × DataW H) → Nat
  | [] => 0
  | x :: r => uptoBulkEntry x + uptoBulkEntries r
def uptoBulkEntry {H : Type} : Lit × DataW H → Nat
  | (.string bytes, d) => bytes.length + uptoBulk d + 1
  | (_, d) => uptoBulk d + 1
 end
def uptoSmall : (H : Type) → List (DataW H) → Bool := fun _ ds => decide (uptoBulkAll ds ≤ 1048576)
def OpenSpec.upto (s : _root_.Go.ChangeSpec) : _root_.Go.OpenSpec := { _root_.Go.OpenSpec.ofChange s with cond := some uptoSmall }

/-- 'pinasterlaw02.FaceKnown', WHERE WHAT IT READS IS OF BULK AT MOST 1048576: true; the input reads as it did. -/
def faceKnownUptoRow : OpenClaim := { program := "ytgkfllgmjnndhaa", sum := "f13b03eb15ef62ac0f504e734063230d377c809be44a2bf02276951c5e769f60", func := "pinaster/pinasterlaw02.FaceKnown", spec := "faceKnown", unfollowed := true, recurses := true, plainKeys := false, apart := false, narrowed := true }
def FaceKnownUptoSaid : Prop := faceKnownUptoRow.holds Try.pinned (OpenSpec.upto faceKnownSpec)

/-- 'pinasterlaw03.PotKnown', WHERE WHAT IT READS IS OF BULK AT MOST 1048576: true; the input reads as it did. -/
def potKnownUptoRow : OpenClaim := { program := "ytgkfllgmjnndhaa", sum := "f13b03eb15ef62ac0f504e734063230d377c809be44a2bf02276951c5e769f60", func := "pinaster/pinasterlaw03.PotKnown", spec := "potKnown", unfollowed := true, recurses := true, plainKeys := false, apart := false, narrowed := true }
def PotKnownUptoSaid : Prop := potKnownUptoRow.holds Try.pinned (OpenSpec.upto potKnownSpec)

/-- 'pinasterlaw04.FireKnown', WHERE WHAT IT READS IS OF BULK AT MOST 1048576: true; the input reads as it did. -/
def fireKnownUptoRow : OpenClaim := { program := "ytgkfllgmjnndhaa", sum := "f13b03eb15ef62ac0f504e734063230d377c809be44a2bf02276951c5e769f60", func := "pinaster/pinasterlaw04.FireKnown", spec := "fireKnown", unfollowed := true, recurses := true, plainKeys := false, apart := false, narrowed := true }
def FireKnownUptoSaid : Prop := fireKnownUptoRow.holds Try.pinned (OpenSpec.upto fireKnownSpec)

/-- 'pinasterlaw05.StillKnown', WHERE WHAT IT READS IS OF BULK AT MOST 1048576: true; the input reads as it did. -/
def stillKnownUptoRow : OpenClaim := { program := "ytgkfllgmjnndhaa", sum := "f13b03eb15ef62ac0f504e734063230d377c809be44a2bf02276951c5e769f60", func := "pinaster/pinasterlaw05.StillKnown", spec := "stillKnown", unfollowed := true, recurses := true, plainKeys := false, apart := false, narrowed := true }
def StillKnownUptoSaid : Prop := stillKnownUptoRow.holds Try.pinned (OpenSpec.upto stillKnownSpec)

/-- 'pinasterlaw06.CutKnown', WHERE WHAT IT READS IS OF BULK AT MOST 1048576: true; the input reads as it did. -/
def cutKnownUptoRow : OpenClaim := { program := "ytgkfllgmjnndhaa", sum := "f13b03eb15ef62ac0f504e734063230d377c809be44a2bf02276951c5e769f60", func := "pinaster/pinasterlaw06.CutKnown", spec := "cutKnown", unfollowed := true, recurses := true, plainKeys := false, apart := false, narrowed := true }
def CutKnownUptoSaid : Prop := cutKnownUptoRow.holds Try.pinned (OpenSpec.upto cutKnownSpec)

end Rows
end Go.Proofs.Ytgkfllgmjnndhaa
