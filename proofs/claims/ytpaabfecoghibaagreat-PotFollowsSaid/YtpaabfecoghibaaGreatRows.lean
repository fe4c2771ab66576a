/-
  No cell of these rows narrows 'for every input' (looked for: loops, veiled, ifaces, maps, wideKeys, modest, calm, conditions, laid).
  DERIVED. THE GIVEN ROWS OF THIS SEAT. 4 by the template 'for every input the law returns true; each argument reads behind the call as it read before'; 0 by the template 'total and deterministic' (their statements: YtpaabfecoghibaaGreatTotals.lean).
  GIVEN WITH THE SEED: the statements are not yours to turn. If you find one false, say at which input.
  Laid BY PROGRAM, IN A SANDBOX (cutbox-rows.mjs): the forced cells as the released guide's own fill.sh prints them over the translation 7ff5b816d0d152dd… (all of the seat's roots in one cut). By AI agents, Wed Nov 11 2026. No macro, syntax, notation, axiom, sorry.
-/
import Derived.Test.YtpaabfecoghibaaGreatChecked
import GoSem.Claim
import GoSem.ClaimJoined
import GoSem.ClaimMapViews
import Derived.JoinedTies
import Derived.KernelRfl
namespace Go.Proofs.YtpaabfecoghibaaGreat
/- THE CELL 'sum', in the pinned program and in every row, IS THE sha256 OF THE DUMP (.gsa) THAT YtpaabfecoghibaaGreatProg.lean LOADS. Nothing in Lean hashes anything: it is a label: what it is worth is what the hold of that sum in a sandbox is worth. -/
noncomputable def Tryz.pinned : Pinned := { name := "ytpaabfecoghibaagreat", sum := "7ff5b816d0d152ddf1ed8021c534a271201fb3196a597d56ec1f93d926a1841d", checked := Tryz.checked }
namespace Rows
def none {H : Type} : Left H := { results := [], args := [] }

/-- 'pinasterlaw03.PotLevels': WHATEVER THE INPUT: true; the input reads as it did. -/
def potLevelsSpec : ChangeSpec := { name := "potLevels", fn := fun _ => fun
  | [d1, d2] => { results := [.lit (.bool true)], args := [d1, d2] }
  | _ => none }
def potLevelsRow : OpenClaim := { program := "ytpaabfecoghibaagreat", sum := "7ff5b816d0d152ddf1ed8021c534a271201fb3196a597d56ec1f93d926a1841d", func := "pinaster/pinasterlaw03.PotLevels", spec := "potLevels", unfollowed := true, recurses := true, plainKeys := false, apart := false }
def PotLevelsSaid : Prop := potLevelsRow.holds Tryz.pinned (OpenSpec.ofChange potLevelsSpec)

/-- ITS FALSE NEIGHBOUR: 'it returns false'. Refute it at one input. -/
def potLevelsWrong : ChangeSpec := { name := "potLevels", fn := fun _ => fun
  | [d1, d2] => { results := [.lit (.bool false)], args := [d1, d2] }
  | _ => none }
def PotLevelsWrongFalsely : Prop := potLevelsRow.holds Tryz.pinned (OpenSpec.ofChange potLevelsWrong)

/-- 'pinasterlaw03.PotFollows': WHATEVER THE INPUT: true; the input reads as it did. -/
def potFollowsSpec : ChangeSpec := { name := "potFollows", fn := fun _ => fun
  | [d1, d2, d3] => { results := [.lit (.bool true)], args := [d1, d2, d3] }
  | _ => none }
def potFollowsRow : OpenClaim := { program := "ytpaabfecoghibaagreat", sum := "7ff5b816d0d152ddf1ed8021c534a271201fb3196a597d56ec1f93d926a1841d", func := "pinaster/pinasterlaw03.PotFollows", spec := "potFollows", unfollowed := true, recurses := true, plainKeys := false, apart := false }
def PotFollowsSaid : Prop := potFollowsRow.holds Tryz.pinned (OpenSpec.ofChange potFollowsSpec)

/-- ITS FALSE NEIGHBOUR: 'it returns false'. Refute it at one input. -/
def potFollowsWrong : ChangeSpec := { name := "potFollows", fn := fun _ => fun
  | [d1, d2, d3] => { results := [.lit (.bool false)], args := [d1, d2, d3] }
  | _ => none }
def PotFollowsWrongFalsely : Prop := potFollowsRow.holds Tryz.pinned (OpenSpec.ofChange potFollowsWrong)

/-- 'pinasterlaw03.PotNeeds': WHATEVER THE INPUT: true; the input reads as it did. -/
def potNeedsSpec : ChangeSpec := { name := "potNeeds", fn := fun _ => fun
  | [d1, d2] => { results := [.lit (.bool true)], args := [d1, d2] }
  | _ => none }
def potNeedsRow : OpenClaim := { program := "ytpaabfecoghibaagreat", sum := "7ff5b816d0d152ddf1ed8021c534a271201fb3196a597d56ec1f93d926a1841d", func := "pinaster/pinasterlaw03.PotNeeds", spec := "potNeeds", unfollowed := true, recurses := true, plainKeys := false, apart := false }
def PotNeedsSaid : Prop := potNeedsRow.holds Tryz.pinned (OpenSpec.ofChange potNeedsSpec)

/-- ITS FALSE NEIGHBOUR: 'it returns false'. Refute it at one input. -/
def potNeedsWrong : ChangeSpec := { name := "potNeeds", fn := fun _ => fun
  | [d1, d2] => { results := [.lit (.bool false)], args := [d1, d2] }
  | _ => none }
def PotNeedsWrongFalsely : Prop := potNeedsRow.holds Tryz.pinned (OpenSpec.ofChange potNeedsWrong)

/-- 'pinasterlaw03.PotConserved': WHATEVER THE INPUT: true; the input reads as it did. -/
def potConservedSpec : ChangeSpec := { name := "potConserved", fn := fun _ => fun
  | [d1, d2, d3] => { results := [.lit (.bool true)], args := [d1, d2, d3] }
  | _ => none }
def potConservedRow : OpenClaim := { program := "ytpaabfecoghibaagreat", sum := "7ff5b816d0d152ddf1ed8021c534a271201fb3196a597d56ec1f93d926a1841d", func := "pinaster/pinasterlaw03.PotConserved", spec := "potConserved", unfollowed := true, recurses := true, plainKeys := false, apart := false }
def PotConservedSaid : Prop := potConservedRow.holds Tryz.pinned (OpenSpec.ofChange potConservedSpec)

/-- ITS FALSE NEIGHBOUR: 'it returns false'. Refute it at one input. -/
def potConservedWrong : ChangeSpec := { name := "potConserved", fn := fun _ => fun
  | [d1, d2, d3] => { results := [.lit (.bool false)], args := [d1, d2, d3] }
  | _ => none }
def PotConservedWrongFalsely : Prop := potConservedRow.holds Tryz.pinned (OpenSpec.ofChange potConservedWrong)

/- THE SECOND FORM. 'bulk': how many values and letters a reading holds, each counted each time it is reached (what is shared counts as often as it is met; a slice's spare places count too). A statement '..UptoSaid' is the law's where the arguments, and the package variables that the reading takes, are together of bulk at most 1048576: NARROWER than '..Said'. Prove '..Said' where nothing that the law and all that it calls make is longer than what came in: it says more and counts as full. Else prove '..UptoSaid'. A law counts once. -/
mutual
def uptoBulk {H : Type} : DataW H → Nat
  | .lit (.string bytes) => bytes.length + 1
  | .lit _ => 1
  | .nil => 1
  | .ptr d => uptoBulk d + 1
  | .slice elems spare => uptoBulkAll elems + uptoBulkAll spare + 1
  | .agg parts => uptoBulkAll parts + 1
  | .iface _ d => uptoBulk d + 1
  | .map entries => uptoBulkEntries entries + 1
  | .held _ => 1
def uptoBulkAll {H : Type} : List (DataW H) → Nat
  | [] => 0
  | d :: r => uptoBulk d + uptoBulkAll r
def uptoBulkEntries {H : Type} : List (Lit × DataW H) → Nat
  | [] => 0
  | x :: r => uptoBulkEntry x + uptoBulkEntries r
def uptoBulkEntry {H : Type} : Lit × DataW H → Nat
  | (.string bytes, d) => bytes.length + uptoBulk d + 1
  | (_, d) => uptoBulk d + 1
 end
def uptoSmall : (H : Type) → List (DataW H) → Bool := fun _ ds => decide (uptoBulkAll ds ≤ 1048576)
def OpenSpec.upto (s : _root_.Go.ChangeSpec) : _root_.Go.OpenSpec := { _root_.Go.OpenSpec.ofChange s with cond := some uptoSmall }

/-- 'pinasterlaw03.PotLevels', WHERE WHAT IT READS IS OF BULK AT MOST 1048576: true; the input reads as it did. -/
def potLevelsUptoRow : OpenClaim := { program := "ytpaabfecoghibaagreat", sum := "7ff5b816d0d152ddf1ed8021c534a271201fb3196a597d56ec1f93d926a1841d", func := "pinaster/pinasterlaw03.PotLevels", spec := "potLevels", unfollowed := true, recurses := true, plainKeys := false, apart := false, narrowed := true }
def PotLevelsUptoSaid : Prop := potLevelsUptoRow.holds Tryz.pinned (OpenSpec.upto potLevelsSpec)

/-- 'pinasterlaw03.PotFollows', WHERE WHAT IT READS IS OF BULK AT MOST 1048576: true; the input reads as it did. -/
def potFollowsUptoRow : OpenClaim := { program := "ytpaabfecoghibaagreat", sum := "7ff5b816d0d152ddf1ed8021c534a271201fb3196a597d56ec1f93d926a1841d", func := "pinaster/pinasterlaw03.PotFollows", spec := "potFollows", unfollowed := true, recurses := true, plainKeys := false, apart := false, narrowed := true }
def PotFollowsUptoSaid : Prop := potFollowsUptoRow.holds Tryz.pinned (OpenSpec.upto potFollowsSpec)

/-- 'pinasterlaw03.PotNeeds', WHERE WHAT IT READS IS OF BULK AT MOST 1048576: true; the input reads as it did. -/
def potNeedsUptoRow : OpenClaim := { program := "ytpaabfecoghibaagreat", sum := "7ff5b816d0d152ddf1ed8021c534a271201fb3196a597d56ec1f93d926a1841d", func := "pinaster/pinasterlaw03.PotNeeds", spec := "potNeeds", unfollowed := true, recurses := true, plainKeys := false, apart := false, narrowed := true }
def PotNeedsUptoSaid : Prop := potNeedsUptoRow.holds Tryz.pinned (OpenSpec.upto potNeedsSpec)

/-- 'pinasterlaw03.PotConserved', WHERE WHAT IT READS IS OF BULK AT MOST 1048576: true; the input reads as it did. -/
def potConservedUptoRow : OpenClaim := { program := "ytpaabfecoghibaagreat", sum := "7ff5b816d0d152ddf1ed8021c534a271201fb3196a597d56ec1f93d926a1841d", func := "pinaster/pinasterlaw03.PotConserved", spec := "potConserved", unfollowed := true, recurses := true, plainKeys := false, apart := false, narrowed := true }
def PotConservedUptoSaid : Prop := potConservedUptoRow.holds Tryz.pinned (OpenSpec.upto potConservedSpec)

end Rows
end Go.Proofs.YtpaabfecoghibaaGreat
