/-
  NARROWER THAN 'FOR EVERY INPUT', by the rows' own cells (each row's printed sentence says how): StandWords: laid · StandGrows: laid · StandThins: laid · StandFollows: laid · StandTexts: laid · StandTrue: laid · StandSharp: laid · StandPairs: laid · StandLeast: laid · StandAlive: laid · StandBack: laid · StandKnown: laid.
  DERIVED. THE GIVEN ROWS OF THIS SEAT. 12 by the template 'for every input the law returns true; each argument reads behind the call as it read before'; 0 by the template 'total and deterministic' (their statements: YtpkjjiieglebbaaDoorTotals.lean).
  GIVEN WITH THE SEED: the statements are not yours to turn. If you find one false, say at which input.
  Laid BY PROGRAM, IN A SANDBOX (cutbox-rows.mjs): the forced cells as the released guide's own fill.sh prints them over the translation aab91d26ccd58f3a… (all of the seat's roots in one cut). By AI agents, Wed Nov 11 2026. No macro, syntax, notation, axiom, sorry.
-/
import Derived.Test.YtpkjjiieglebbaaDoorChecked
import GoSem.Claim
import GoSem.ClaimJoined
import GoSem.ClaimMapViews
import Derived.JoinedTies
import Derived.KernelRfl
namespace Go.Proofs.YtpkjjiieglebbaaDoor
/- THE CELL 'sum', in the pinned program and in every row, IS THE sha256 OF THE DUMP (.gsa) THAT YtpkjjiieglebbaaDoorProg.lean LOADS. Nothing in Lean hashes anything: it is a label: what it is worth is what the hold of that sum in a sandbox is worth. -/
noncomputable def Tryd.pinned : Pinned := { name := "ytpkjjiieglebbaadoor", sum := "aab91d26ccd58f3acb4704409d67a7cbb64d0a9ab159283d90d3183d13bb92d3", checked := Tryd.checked }
namespace Rows
def none {H : Type} : Left H := { results := [], args := [] }

/- WHAT THE LISTED PACKAGE-LEVEL VARIABLES READ AS WHEN THE CALL BEGINS. Each datum BY PROGRAM (the guide's laid-datum.mjs) off the statement by which the dump's own 'gosem.cut.vars' lays the variable. In a bare row this is a premise. The card (YtpkjjiieglebbaaDoorCards.lean) ties it to the program's text. -/
def laid_math_bits_deBruijn32tab {H : Type} : DataW H := .agg [.lit (.int .u8 0), .lit (.int .u8 1), .lit (.int .u8 28), .lit (.int .u8 2), .lit (.int .u8 29), .lit (.int .u8 14), .lit (.int .u8 24), .lit (.int .u8 3), .lit (.int .u8 30), .lit (.int .u8 22), .lit (.int .u8 20), .lit (.int .u8 15), .lit (.int .u8 25), .lit (.int .u8 17), .lit (.int .u8 4), .lit (.int .u8 8), .lit (.int .u8 31), .lit (.int .u8 27), .lit (.int .u8 13), .lit (.int .u8 23), .lit (.int .u8 21), .lit (.int .u8 19), .lit (.int .u8 16), .lit (.int .u8 7), .lit (.int .u8 26), .lit (.int .u8 12), .lit (.int .u8 18), .lit (.int .u8 6), .lit (.int .u8 11), .lit (.int .u8 5), .lit (.int .u8 10), .lit (.int .u8 9)]
def laid_math_bits_deBruijn64tab {H : Type} : DataW H := .agg [.lit (.int .u8 0), .lit (.int .u8 1), .lit (.int .u8 56), .lit (.int .u8 2), .lit (.int .u8 57), .lit (.int .u8 49), .lit (.int .u8 28), .lit (.int .u8 3), .lit (.int .u8 61), .lit (.int .u8 58), .lit (.int .u8 42), .lit (.int .u8 50), .lit (.int .u8 38), .lit (.int .u8 29), .lit (.int .u8 17), .lit (.int .u8 4), .lit (.int .u8 62), .lit (.int .u8 47), .lit (.int .u8 59), .lit (.int .u8 36), .lit (.int .u8 45), .lit (.int .u8 43), .lit (.int .u8 51), .lit (.int .u8 22), .lit (.int .u8 53), .lit (.int .u8 39), .lit (.int .u8 33), .lit (.int .u8 30), .lit (.int .u8 24), .lit (.int .u8 18), .lit (.int .u8 12), .lit (.int .u8 5), .lit (.int .u8 63), .lit (.int .u8 55), .lit (.int .u8 48), .lit (.int .u8 27), .lit (.int .u8 60), .lit (.int .u8 41), .lit (.int .u8 37), .lit (.int .u8 16), .lit (.int .u8 46), .lit (.int .u8 35), .lit (.int .u8 44), .lit (.int .u8 21), .lit (.int .u8 52), .lit (.int .u8 32), .lit (.int .u8 23), .lit (.int .u8 11), .lit (.int .u8 54), .lit (.int .u8 26), .lit (.int .u8 40), .lit (.int .u8 15), .lit (.int .u8 34), .lit (.int .u8 20), .lit (.int .u8 31), .lit (.int .u8 10), .lit (.int .u8 25), .lit (.int .u8 14), .lit (.int .u8 19), .lit (.int .u8 9), .lit (.int .u8 13), .lit (.int .u8 8), .lit (.int .u8 7), .lit (.int .u8 6)]
def laid_internal_strconv_uint64pow10 {H : Type} : DataW H := .agg [.lit (.int .u64 1), .lit (.int .u64 10), .lit (.int .u64 100), .lit (.int .u64 1000), .lit (.int .u64 10000), .lit (.int .u64 100000), .lit (.int .u64 1000000), .lit (.int .u64 10000000), .lit (.int .u64 100000000), .lit (.int .u64 1000000000), .lit (.int .u64 10000000000), .lit (.int .u64 100000000000), .lit (.int .u64 1000000000000), .lit (.int .u64 10000000000000), .lit (.int .u64 100000000000000), .lit (.int .u64 1000000000000000), .lit (.int .u64 10000000000000000), .lit (.int .u64 100000000000000000), .lit (.int .u64 1000000000000000000), .lit (.int .u64 10000000000000000000)]
def laid_pinaster_stand_changes {H : Type} : DataW H := .agg [.agg [.agg [.lit (.int .i64 1), .lit (.int .i64 0)], .lit (.int .i64 1)], .agg [.agg [.lit (.int .i64 2), .lit (.int .i64 1)], .lit (.int .i64 2)], .agg [.agg [.lit (.int .i64 2), .lit (.int .i64 2)], .lit (.int .i64 2)], .agg [.agg [.lit (.int .i64 2), .lit (.int .i64 3)], .lit (.int .i64 2)], .agg [.agg [.lit (.int .i64 3), .lit (.int .i64 2)], .lit (.int .i64 3)], .agg [.agg [.lit (.int .i64 4), .lit (.int .i64 1)], .lit (.int .i64 4)], .agg [.agg [.lit (.int .i64 4), .lit (.int .i64 2)], .lit (.int .i64 4)], .agg [.agg [.lit (.int .i64 4), .lit (.int .i64 3)], .lit (.int .i64 4)], .agg [.agg [.lit (.int .i64 5), .lit (.int .i64 1)], .lit (.int .i64 0)], .agg [.agg [.lit (.int .i64 5), .lit (.int .i64 2)], .lit (.int .i64 0)], .agg [.agg [.lit (.int .i64 5), .lit (.int .i64 3)], .lit (.int .i64 0)], .agg [.agg [.lit (.int .i64 5), .lit (.int .i64 4)], .lit (.int .i64 0)]]

/-- 'pinasterlaw01.StandWords': WHATEVER THE INPUT: true; the input reads as it did. -/
def standWordsSpec : ChangeSpec := { name := "standWords", fn := fun _ => fun
  | [d1, d2, d3, d4] => { results := [.lit (.bool true)], args := [d1, d2, d3, d4] }
  | _ => none }
def standWordsRow : OpenClaim := { program := "ytpkjjiieglebbaadoor", sum := "aab91d26ccd58f3acb4704409d67a7cbb64d0a9ab159283d90d3183d13bb92d3", func := "pinaster/pinasterlaw01.StandWords", spec := "standWords", inPlace := ["internal/abi.NoEscape", "internal/bytealg.MakeNoZero", "internal/bytealg.IndexByteString"], unfollowed := true, recurses := true, named := ["internal/strconv.uint64pow10", "math/bits.deBruijn32tab", "math/bits.deBruijn64tab", "pinaster/stand.changes"], apart := false, laid := [("math/bits.deBruijn32tab", laid_math_bits_deBruijn32tab), ("math/bits.deBruijn64tab", laid_math_bits_deBruijn64tab), ("internal/strconv.uint64pow10", laid_internal_strconv_uint64pow10), ("pinaster/stand.changes", laid_pinaster_stand_changes)] }
def StandWordsSaid : Prop := standWordsRow.holds Tryd.pinned (OpenSpec.ofChange standWordsSpec)

/-- ITS FALSE NEIGHBOUR: 'it returns false'. Refute it at one input. -/
def standWordsWrong : ChangeSpec := { name := "standWords", fn := fun _ => fun
  | [d1, d2, d3, d4] => { results := [.lit (.bool false)], args := [d1, d2, d3, d4] }
  | _ => none }
def StandWordsWrongFalsely : Prop := standWordsRow.holds Tryd.pinned (OpenSpec.ofChange standWordsWrong)

/-- 'pinasterlaw01.StandGrows': WHATEVER THE INPUT: true; the input reads as it did. -/
def standGrowsSpec : ChangeSpec := { name := "standGrows", fn := fun _ => fun
  | [d1, d2, d3] => { results := [.lit (.bool true)], args := [d1, d2, d3] }
  | _ => none }
def standGrowsRow : OpenClaim := { program := "ytpkjjiieglebbaadoor", sum := "aab91d26ccd58f3acb4704409d67a7cbb64d0a9ab159283d90d3183d13bb92d3", func := "pinaster/pinasterlaw01.StandGrows", spec := "standGrows", inPlace := ["internal/abi.NoEscape", "internal/bytealg.MakeNoZero", "internal/bytealg.IndexByteString"], unfollowed := true, recurses := true, named := ["internal/strconv.uint64pow10", "math/bits.deBruijn32tab", "math/bits.deBruijn64tab", "pinaster/stand.changes"], apart := false, laid := [("math/bits.deBruijn32tab", laid_math_bits_deBruijn32tab), ("math/bits.deBruijn64tab", laid_math_bits_deBruijn64tab), ("internal/strconv.uint64pow10", laid_internal_strconv_uint64pow10), ("pinaster/stand.changes", laid_pinaster_stand_changes)] }
def StandGrowsSaid : Prop := standGrowsRow.holds Tryd.pinned (OpenSpec.ofChange standGrowsSpec)

/-- ITS FALSE NEIGHBOUR: 'it returns false'. Refute it at one input. -/
def standGrowsWrong : ChangeSpec := { name := "standGrows", fn := fun _ => fun
  | [d1, d2, d3] => { results := [.lit (.bool false)], args := [d1, d2, d3] }
  | _ => none }
def StandGrowsWrongFalsely : Prop := standGrowsRow.holds Tryd.pinned (OpenSpec.ofChange standGrowsWrong)

/-- 'pinasterlaw01.StandThins': WHATEVER THE INPUT: true; the input reads as it did. -/
def standThinsSpec : ChangeSpec := { name := "standThins", fn := fun _ => fun
  | [d1, d2, d3] => { results := [.lit (.bool true)], args := [d1, d2, d3] }
  | _ => none }
def standThinsRow : OpenClaim := { program := "ytpkjjiieglebbaadoor", sum := "aab91d26ccd58f3acb4704409d67a7cbb64d0a9ab159283d90d3183d13bb92d3", func := "pinaster/pinasterlaw01.StandThins", spec := "standThins", inPlace := ["internal/abi.NoEscape", "internal/bytealg.MakeNoZero", "internal/bytealg.IndexByteString"], unfollowed := true, recurses := true, named := ["internal/strconv.uint64pow10", "math/bits.deBruijn32tab", "math/bits.deBruijn64tab", "pinaster/stand.changes"], apart := false, laid := [("math/bits.deBruijn32tab", laid_math_bits_deBruijn32tab), ("math/bits.deBruijn64tab", laid_math_bits_deBruijn64tab), ("internal/strconv.uint64pow10", laid_internal_strconv_uint64pow10), ("pinaster/stand.changes", laid_pinaster_stand_changes)] }
def StandThinsSaid : Prop := standThinsRow.holds Tryd.pinned (OpenSpec.ofChange standThinsSpec)

/-- ITS FALSE NEIGHBOUR: 'it returns false'. Refute it at one input. -/
def standThinsWrong : ChangeSpec := { name := "standThins", fn := fun _ => fun
  | [d1, d2, d3] => { results := [.lit (.bool false)], args := [d1, d2, d3] }
  | _ => none }
def StandThinsWrongFalsely : Prop := standThinsRow.holds Tryd.pinned (OpenSpec.ofChange standThinsWrong)

/-- 'pinasterlaw01.StandFollows': WHATEVER THE INPUT: true; the input reads as it did. -/
def standFollowsSpec : ChangeSpec := { name := "standFollows", fn := fun _ => fun
  | [d] => { results := [.lit (.bool true)], args := [d] }
  | _ => none }
def standFollowsRow : OpenClaim := { program := "ytpkjjiieglebbaadoor", sum := "aab91d26ccd58f3acb4704409d67a7cbb64d0a9ab159283d90d3183d13bb92d3", func := "pinaster/pinasterlaw01.StandFollows", spec := "standFollows", inPlace := ["internal/abi.NoEscape", "internal/bytealg.MakeNoZero", "internal/bytealg.IndexByteString"], unfollowed := true, recurses := true, named := ["pinaster/stand.changes", "internal/strconv.uint64pow10", "math/bits.deBruijn32tab", "math/bits.deBruijn64tab"], apart := false, laid := [("math/bits.deBruijn32tab", laid_math_bits_deBruijn32tab), ("math/bits.deBruijn64tab", laid_math_bits_deBruijn64tab), ("internal/strconv.uint64pow10", laid_internal_strconv_uint64pow10), ("pinaster/stand.changes", laid_pinaster_stand_changes)] }
def StandFollowsSaid : Prop := standFollowsRow.holds Tryd.pinned (OpenSpec.ofChange standFollowsSpec)

/-- ITS FALSE NEIGHBOUR: 'it returns false'. Refute it at one input. -/
def standFollowsWrong : ChangeSpec := { name := "standFollows", fn := fun _ => fun
  | [d] => { results := [.lit (.bool false)], args := [d] }
  | _ => none }
def StandFollowsWrongFalsely : Prop := standFollowsRow.holds Tryd.pinned (OpenSpec.ofChange standFollowsWrong)

/-- 'pinasterlaw01.StandTexts': WHATEVER THE INPUT: true; the input reads as it did. -/
def standTextsSpec : ChangeSpec := { name := "standTexts", fn := fun _ => fun
  | [d1, d2] => { results := [.lit (.bool true)], args := [d1, d2] }
  | _ => none }
def standTextsRow : OpenClaim := { program := "ytpkjjiieglebbaadoor", sum := "aab91d26ccd58f3acb4704409d67a7cbb64d0a9ab159283d90d3183d13bb92d3", func := "pinaster/pinasterlaw01.StandTexts", spec := "standTexts", inPlace := ["internal/abi.NoEscape", "internal/bytealg.MakeNoZero", "internal/bytealg.IndexByteString"], unfollowed := true, recurses := true, named := ["internal/strconv.uint64pow10", "math/bits.deBruijn32tab", "math/bits.deBruijn64tab", "pinaster/stand.changes"], apart := false, laid := [("math/bits.deBruijn32tab", laid_math_bits_deBruijn32tab), ("math/bits.deBruijn64tab", laid_math_bits_deBruijn64tab), ("internal/strconv.uint64pow10", laid_internal_strconv_uint64pow10), ("pinaster/stand.changes", laid_pinaster_stand_changes)] }
def StandTextsSaid : Prop := standTextsRow.holds Tryd.pinned (OpenSpec.ofChange standTextsSpec)

/-- ITS FALSE NEIGHBOUR: 'it returns false'. Refute it at one input. -/
def standTextsWrong : ChangeSpec := { name := "standTexts", fn := fun _ => fun
  | [d1, d2] => { results := [.lit (.bool false)], args := [d1, d2] }
  | _ => none }
def StandTextsWrongFalsely : Prop := standTextsRow.holds Tryd.pinned (OpenSpec.ofChange standTextsWrong)

/-- 'pinasterlaw01.StandTrue': WHATEVER THE INPUT: true; the input reads as it did. -/
def standTrueSpec : ChangeSpec := { name := "standTrue", fn := fun _ => fun
  | [d1, d2, d3, d4] => { results := [.lit (.bool true)], args := [d1, d2, d3, d4] }
  | _ => none }
def standTrueRow : OpenClaim := { program := "ytpkjjiieglebbaadoor", sum := "aab91d26ccd58f3acb4704409d67a7cbb64d0a9ab159283d90d3183d13bb92d3", func := "pinaster/pinasterlaw01.StandTrue", spec := "standTrue", inPlace := ["internal/abi.NoEscape", "internal/bytealg.MakeNoZero", "internal/bytealg.IndexByteString"], unfollowed := true, recurses := true, named := ["internal/strconv.uint64pow10", "math/bits.deBruijn32tab", "math/bits.deBruijn64tab", "pinaster/stand.changes"], apart := false, laid := [("math/bits.deBruijn32tab", laid_math_bits_deBruijn32tab), ("math/bits.deBruijn64tab", laid_math_bits_deBruijn64tab), ("internal/strconv.uint64pow10", laid_internal_strconv_uint64pow10), ("pinaster/stand.changes", laid_pinaster_stand_changes)] }
def StandTrueSaid : Prop := standTrueRow.holds Tryd.pinned (OpenSpec.ofChange standTrueSpec)

/-- ITS FALSE NEIGHBOUR: 'it returns false'. Refute it at one input. -/
def standTrueWrong : ChangeSpec := { name := "standTrue", fn := fun _ => fun
  | [d1, d2, d3, d4] => { results := [.lit (.bool false)], args := [d1, d2, d3, d4] }
  | _ => none }
def StandTrueWrongFalsely : Prop := standTrueRow.holds Tryd.pinned (OpenSpec.ofChange standTrueWrong)

/-- 'pinasterlaw01.StandSharp': WHATEVER THE INPUT: true; the input reads as it did. -/
def standSharpSpec : ChangeSpec := { name := "standSharp", fn := fun _ => fun
  | [d1, d2, d3] => { results := [.lit (.bool true)], args := [d1, d2, d3] }
  | _ => none }
def standSharpRow : OpenClaim := { program := "ytpkjjiieglebbaadoor", sum := "aab91d26ccd58f3acb4704409d67a7cbb64d0a9ab159283d90d3183d13bb92d3", func := "pinaster/pinasterlaw01.StandSharp", spec := "standSharp", inPlace := ["internal/abi.NoEscape", "internal/bytealg.MakeNoZero", "internal/bytealg.IndexByteString"], unfollowed := true, recurses := true, named := ["internal/strconv.uint64pow10", "math/bits.deBruijn32tab", "math/bits.deBruijn64tab", "pinaster/stand.changes"], apart := false, laid := [("math/bits.deBruijn32tab", laid_math_bits_deBruijn32tab), ("math/bits.deBruijn64tab", laid_math_bits_deBruijn64tab), ("internal/strconv.uint64pow10", laid_internal_strconv_uint64pow10), ("pinaster/stand.changes", laid_pinaster_stand_changes)] }
def StandSharpSaid : Prop := standSharpRow.holds Tryd.pinned (OpenSpec.ofChange standSharpSpec)

/-- ITS FALSE NEIGHBOUR: 'it returns false'. Refute it at one input. -/
def standSharpWrong : ChangeSpec := { name := "standSharp", fn := fun _ => fun
  | [d1, d2, d3] => { results := [.lit (.bool false)], args := [d1, d2, d3] }
  | _ => none }
def StandSharpWrongFalsely : Prop := standSharpRow.holds Tryd.pinned (OpenSpec.ofChange standSharpWrong)

/-- 'pinasterlaw01.StandPairs': WHATEVER THE INPUT: true; the input reads as it did. -/
def standPairsSpec : ChangeSpec := { name := "standPairs", fn := fun _ => fun
  | [d1, d2, d3, d4] => { results := [.lit (.bool true)], args := [d1, d2, d3, d4] }
  | _ => none }
def standPairsRow : OpenClaim := { program := "ytpkjjiieglebbaadoor", sum := "aab91d26ccd58f3acb4704409d67a7cbb64d0a9ab159283d90d3183d13bb92d3", func := "pinaster/pinasterlaw01.StandPairs", spec := "standPairs", inPlace := ["internal/abi.NoEscape", "internal/bytealg.MakeNoZero", "internal/bytealg.IndexByteString"], unfollowed := true, recurses := true, named := ["internal/strconv.uint64pow10", "math/bits.deBruijn32tab", "math/bits.deBruijn64tab", "pinaster/stand.changes"], apart := false, laid := [("math/bits.deBruijn32tab", laid_math_bits_deBruijn32tab), ("math/bits.deBruijn64tab", laid_math_bits_deBruijn64tab), ("internal/strconv.uint64pow10", laid_internal_strconv_uint64pow10), ("pinaster/stand.changes", laid_pinaster_stand_changes)] }
def StandPairsSaid : Prop := standPairsRow.holds Tryd.pinned (OpenSpec.ofChange standPairsSpec)

/-- ITS FALSE NEIGHBOUR: 'it returns false'. Refute it at one input. -/
def standPairsWrong : ChangeSpec := { name := "standPairs", fn := fun _ => fun
  | [d1, d2, d3, d4] => { results := [.lit (.bool false)], args := [d1, d2, d3, d4] }
  | _ => none }
def StandPairsWrongFalsely : Prop := standPairsRow.holds Tryd.pinned (OpenSpec.ofChange standPairsWrong)

/-- 'pinasterlaw01.StandLeast': WHATEVER THE INPUT: true; the input reads as it did. -/
def standLeastSpec : ChangeSpec := { name := "standLeast", fn := fun _ => fun
  | [d1, d2, d3, d4] => { results := [.lit (.bool true)], args := [d1, d2, d3, d4] }
  | _ => none }
def standLeastRow : OpenClaim := { program := "ytpkjjiieglebbaadoor", sum := "aab91d26ccd58f3acb4704409d67a7cbb64d0a9ab159283d90d3183d13bb92d3", func := "pinaster/pinasterlaw01.StandLeast", spec := "standLeast", inPlace := ["internal/abi.NoEscape", "internal/bytealg.MakeNoZero", "internal/bytealg.IndexByteString"], unfollowed := true, recurses := true, named := ["internal/strconv.uint64pow10", "math/bits.deBruijn32tab", "math/bits.deBruijn64tab", "pinaster/stand.changes"], apart := false, laid := [("math/bits.deBruijn32tab", laid_math_bits_deBruijn32tab), ("math/bits.deBruijn64tab", laid_math_bits_deBruijn64tab), ("internal/strconv.uint64pow10", laid_internal_strconv_uint64pow10), ("pinaster/stand.changes", laid_pinaster_stand_changes)] }
def StandLeastSaid : Prop := standLeastRow.holds Tryd.pinned (OpenSpec.ofChange standLeastSpec)

/-- ITS FALSE NEIGHBOUR: 'it returns false'. Refute it at one input. -/
def standLeastWrong : ChangeSpec := { name := "standLeast", fn := fun _ => fun
  | [d1, d2, d3, d4] => { results := [.lit (.bool false)], args := [d1, d2, d3, d4] }
  | _ => none }
def StandLeastWrongFalsely : Prop := standLeastRow.holds Tryd.pinned (OpenSpec.ofChange standLeastWrong)

/-- 'pinasterlaw01.StandAlive': WHATEVER THE INPUT: true; the input reads as it did. -/
def standAliveSpec : ChangeSpec := { name := "standAlive", fn := fun _ => fun
  | [d1, d2] => { results := [.lit (.bool true)], args := [d1, d2] }
  | _ => none }
def standAliveRow : OpenClaim := { program := "ytpkjjiieglebbaadoor", sum := "aab91d26ccd58f3acb4704409d67a7cbb64d0a9ab159283d90d3183d13bb92d3", func := "pinaster/pinasterlaw01.StandAlive", spec := "standAlive", inPlace := ["internal/abi.NoEscape", "internal/bytealg.MakeNoZero", "internal/bytealg.IndexByteString"], unfollowed := true, recurses := true, named := ["pinaster/stand.changes", "internal/strconv.uint64pow10", "math/bits.deBruijn32tab", "math/bits.deBruijn64tab"], apart := false, laid := [("math/bits.deBruijn32tab", laid_math_bits_deBruijn32tab), ("math/bits.deBruijn64tab", laid_math_bits_deBruijn64tab), ("internal/strconv.uint64pow10", laid_internal_strconv_uint64pow10), ("pinaster/stand.changes", laid_pinaster_stand_changes)] }
def StandAliveSaid : Prop := standAliveRow.holds Tryd.pinned (OpenSpec.ofChange standAliveSpec)

/-- ITS FALSE NEIGHBOUR: 'it returns false'. Refute it at one input. -/
def standAliveWrong : ChangeSpec := { name := "standAlive", fn := fun _ => fun
  | [d1, d2] => { results := [.lit (.bool false)], args := [d1, d2] }
  | _ => none }
def StandAliveWrongFalsely : Prop := standAliveRow.holds Tryd.pinned (OpenSpec.ofChange standAliveWrong)

/-- 'pinasterlaw01.StandBack': WHATEVER THE INPUT: true; the input reads as it did. -/
def standBackSpec : ChangeSpec := { name := "standBack", fn := fun _ => fun
  | [d1, d2] => { results := [.lit (.bool true)], args := [d1, d2] }
  | _ => none }
def standBackRow : OpenClaim := { program := "ytpkjjiieglebbaadoor", sum := "aab91d26ccd58f3acb4704409d67a7cbb64d0a9ab159283d90d3183d13bb92d3", func := "pinaster/pinasterlaw01.StandBack", spec := "standBack", inPlace := ["internal/abi.NoEscape", "internal/bytealg.MakeNoZero", "internal/bytealg.IndexByteString"], unfollowed := true, recurses := true, named := ["internal/strconv.uint64pow10", "math/bits.deBruijn32tab", "math/bits.deBruijn64tab", "pinaster/stand.changes"], apart := false, laid := [("math/bits.deBruijn32tab", laid_math_bits_deBruijn32tab), ("math/bits.deBruijn64tab", laid_math_bits_deBruijn64tab), ("internal/strconv.uint64pow10", laid_internal_strconv_uint64pow10), ("pinaster/stand.changes", laid_pinaster_stand_changes)] }
def StandBackSaid : Prop := standBackRow.holds Tryd.pinned (OpenSpec.ofChange standBackSpec)

/-- ITS FALSE NEIGHBOUR: 'it returns false'. Refute it at one input. -/
def standBackWrong : ChangeSpec := { name := "standBack", fn := fun _ => fun
  | [d1, d2] => { results := [.lit (.bool false)], args := [d1, d2] }
  | _ => none }
def StandBackWrongFalsely : Prop := standBackRow.holds Tryd.pinned (OpenSpec.ofChange standBackWrong)

/-- 'pinasterlaw01.StandKnown': WHATEVER THE INPUT: true; the input reads as it did. -/
def standKnownSpec : ChangeSpec := { name := "standKnown", fn := fun _ => fun
  | [] => { results := [.lit (.bool true)], args := [] }
  | _ => none }
def standKnownRow : OpenClaim := { program := "ytpkjjiieglebbaadoor", sum := "aab91d26ccd58f3acb4704409d67a7cbb64d0a9ab159283d90d3183d13bb92d3", func := "pinaster/pinasterlaw01.StandKnown", spec := "standKnown", inPlace := ["internal/abi.NoEscape", "internal/bytealg.MakeNoZero", "internal/bytealg.IndexByteString"], unfollowed := true, recurses := true, named := ["internal/strconv.uint64pow10", "math/bits.deBruijn32tab", "math/bits.deBruijn64tab", "pinaster/stand.changes"], apart := false, laid := [("math/bits.deBruijn32tab", laid_math_bits_deBruijn32tab), ("math/bits.deBruijn64tab", laid_math_bits_deBruijn64tab), ("internal/strconv.uint64pow10", laid_internal_strconv_uint64pow10), ("pinaster/stand.changes", laid_pinaster_stand_changes)] }
def StandKnownSaid : Prop := standKnownRow.holds Tryd.pinned (OpenSpec.ofChange standKnownSpec)

/-- ITS FALSE NEIGHBOUR: 'it returns false'. Refute it at one input. -/
def standKnownWrong : ChangeSpec := { name := "standKnown", fn := fun _ => fun
  | [] => { results := [.lit (.bool false)], args := [] }
  | _ => none }
def StandKnownWrongFalsely : Prop := standKnownRow.holds Tryd.pinned (OpenSpec.ofChange standKnownWrong)

/- THE SECOND FORM. 'bulk': how many values and letters a reading holds, each counted each time it is reached (what is shared counts as often as it is met; a slice's spare places count too). A statement '..UptoSaid' is the law's where the arguments, and the package variables that the reading takes, are together of bulk at most 1048576: NARROWER than '..Said'. Prove '..Said' where nothing that the law and all that it calls make is longer than what came in: it says more and counts as full. Else prove '..UptoSaid'. A law counts once. -/
mutual
def uptoBulk {H : Type} : DataW H → Nat
  | .lit (.string bytes) => bytes.length + 1
  | .lit _ => 1
  | .nil => 1
  | .ptr d => uptoBulk d + 1
  | .slice elems spare => uptoBulkAll elems + uptoBulkAll spare + 1
  | .agg parts => uptoBulkAll parts + 1
  | .iface _ d => uptoBulk d + 1
  | .map entries => uptoBulkEntries entries + 1
  | .held _ => 1
def uptoBulkAll {H : Type} : List (DataW H) → Nat
  | [] => 0
  | d :: r => uptoBulk d + uptoBulkAll r
def uptoBulkEntries {H : Type} : List (Lit × DataW H) → Nat
  | [] => 0
  | x :: r => uptoBulkEntry x + uptoBulkEntries r
def uptoBulkEntry {H : Type} : Lit × DataW H → Nat
  | (.string bytes, d) => bytes.length + uptoBulk d + 1
  | (_, d) => uptoBulk d + 1
 end
def uptoSmall : (H : Type) → List (DataW H) → Bool := fun _ ds => decide (uptoBulkAll ds ≤ 1048576)
def OpenSpec.upto (s : _root_.Go.ChangeSpec) : _root_.Go.OpenSpec := { _root_.Go.OpenSpec.ofChange s with cond := some uptoSmall }

/-- 'pinasterlaw01.StandWords', WHERE WHAT IT READS IS OF BULK AT MOST 1048576: true; the input reads as it did. -/
def standWordsUptoRow : OpenClaim := { program := "ytpkjjiieglebbaadoor", sum := "aab91d26ccd58f3acb4704409d67a7cbb64d0a9ab159283d90d3183d13bb92d3", func := "pinaster/pinasterlaw01.StandWords", spec := "standWords", inPlace := ["internal/abi.NoEscape", "internal/bytealg.MakeNoZero", "internal/bytealg.IndexByteString"], unfollowed := true, recurses := true, named := ["internal/strconv.uint64pow10", "math/bits.deBruijn32tab", "math/bits.deBruijn64tab", "pinaster/stand.changes"], apart := false, laid := [("math/bits.deBruijn32tab", laid_math_bits_deBruijn32tab), ("math/bits.deBruijn64tab", laid_math_bits_deBruijn64tab), ("internal/strconv.uint64pow10", laid_internal_strconv_uint64pow10), ("pinaster/stand.changes", laid_pinaster_stand_changes)], narrowed := true }
def StandWordsUptoSaid : Prop := standWordsUptoRow.holds Tryd.pinned (OpenSpec.upto standWordsSpec)

/-- 'pinasterlaw01.StandGrows', WHERE WHAT IT READS IS OF BULK AT MOST 1048576: true; the input reads as it did. -/
def standGrowsUptoRow : OpenClaim := { program := "ytpkjjiieglebbaadoor", sum := "aab91d26ccd58f3acb4704409d67a7cbb64d0a9ab159283d90d3183d13bb92d3", func := "pinaster/pinasterlaw01.StandGrows", spec := "standGrows", inPlace := ["internal/abi.NoEscape", "internal/bytealg.MakeNoZero", "internal/bytealg.IndexByteString"], unfollowed := true, recurses := true, named := ["internal/strconv.uint64pow10", "math/bits.deBruijn32tab", "math/bits.deBruijn64tab", "pinaster/stand.changes"], apart := false, laid := [("math/bits.deBruijn32tab", laid_math_bits_deBruijn32tab), ("math/bits.deBruijn64tab", laid_math_bits_deBruijn64tab), ("internal/strconv.uint64pow10", laid_internal_strconv_uint64pow10), ("pinaster/stand.changes", laid_pinaster_stand_changes)], narrowed := true }
def StandGrowsUptoSaid : Prop := standGrowsUptoRow.holds Tryd.pinned (OpenSpec.upto standGrowsSpec)

/-- 'pinasterlaw01.StandThins', WHERE WHAT IT READS IS OF BULK AT MOST 1048576: true; the input reads as it did. -/
def standThinsUptoRow : OpenClaim := { program := "ytpkjjiieglebbaadoor", sum := "aab91d26ccd58f3acb4704409d67a7cbb64d0a9ab159283d90d3183d13bb92d3", func := "pinaster/pinasterlaw01.StandThins", spec := "standThins", inPlace := ["internal/abi.NoEscape", "internal/bytealg.MakeNoZero", "internal/bytealg.IndexByteString"], unfollowed := true, recurses := true, named := ["internal/strconv.uint64pow10", "math/bits.deBruijn32tab", "math/bits.deBruijn64tab", "pinaster/stand.changes"], apart := false, laid := [("math/bits.deBruijn32tab", laid_math_bits_deBruijn32tab), ("math/bits.deBruijn64tab", laid_math_bits_deBruijn64tab), ("internal/strconv.uint64pow10", laid_internal_strconv_uint64pow10), ("pinaster/stand.changes", laid_pinaster_stand_changes)], narrowed := true }
def StandThinsUptoSaid : Prop := standThinsUptoRow.holds Tryd.pinned (OpenSpec.upto standThinsSpec)

/-- 'pinasterlaw01.StandFollows', WHERE WHAT IT READS IS OF BULK AT MOST 1048576: true; the input reads as it did. -/
def standFollowsUptoRow : OpenClaim := { program := "ytpkjjiieglebbaadoor", sum := "aab91d26ccd58f3acb4704409d67a7cbb64d0a9ab159283d90d3183d13bb92d3", func := "pinaster/pinasterlaw01.StandFollows", spec := "standFollows", inPlace := ["internal/abi.NoEscape", "internal/bytealg.MakeNoZero", "internal/bytealg.IndexByteString"], unfollowed := true, recurses := true, named := ["pinaster/stand.changes", "internal/strconv.uint64pow10", "math/bits.deBruijn32tab", "math/bits.deBruijn64tab"], apart := false, laid := [("math/bits.deBruijn32tab", laid_math_bits_deBruijn32tab), ("math/bits.deBruijn64tab", laid_math_bits_deBruijn64tab), ("internal/strconv.uint64pow10", laid_internal_strconv_uint64pow10), ("pinaster/stand.changes", laid_pinaster_stand_changes)], narrowed := true }
def StandFollowsUptoSaid : Prop := standFollowsUptoRow.holds Tryd.pinned (OpenSpec.upto standFollowsSpec)

/-- 'pinasterlaw01.StandTexts', WHERE WHAT IT READS IS OF BULK AT MOST 1048576: true; the input reads as it did. -/
def standTextsUptoRow : OpenClaim := { program := "ytpkjjiieglebbaadoor", sum := "aab91d26ccd58f3acb4704409d67a7cbb64d0a9ab159283d90d3183d13bb92d3", func := "pinaster/pinasterlaw01.StandTexts", spec := "standTexts", inPlace := ["internal/abi.NoEscape", "internal/bytealg.MakeNoZero", "internal/bytealg.IndexByteString"], unfollowed := true, recurses := true, named := ["internal/strconv.uint64pow10", "math/bits.deBruijn32tab", "math/bits.deBruijn64tab", "pinaster/stand.changes"], apart := false, laid := [("math/bits.deBruijn32tab", laid_math_bits_deBruijn32tab), ("math/bits.deBruijn64tab", laid_math_bits_deBruijn64tab), ("internal/strconv.uint64pow10", laid_internal_strconv_uint64pow10), ("pinaster/stand.changes", laid_pinaster_stand_changes)], narrowed := true }
def StandTextsUptoSaid : Prop := standTextsUptoRow.holds Tryd.pinned (OpenSpec.upto standTextsSpec)

/-- 'pinasterlaw01.StandTrue', WHERE WHAT IT READS IS OF BULK AT MOST 1048576: true; the input reads as it did. -/
def standTrueUptoRow : OpenClaim := { program := "ytpkjjiieglebbaadoor", sum := "aab91d26ccd58f3acb4704409d67a7cbb64d0a9ab159283d90d3183d13bb92d3", func := "pinaster/pinasterlaw01.StandTrue", spec := "standTrue", inPlace := ["internal/abi.NoEscape", "internal/bytealg.MakeNoZero", "internal/bytealg.IndexByteString"], unfollowed := true, recurses := true, named := ["internal/strconv.uint64pow10", "math/bits.deBruijn32tab", "math/bits.deBruijn64tab", "pinaster/stand.changes"], apart := false, laid := [("math/bits.deBruijn32tab", laid_math_bits_deBruijn32tab), ("math/bits.deBruijn64tab", laid_math_bits_deBruijn64tab), ("internal/strconv.uint64pow10", laid_internal_strconv_uint64pow10), ("pinaster/stand.changes", laid_pinaster_stand_changes)], narrowed := true }
def StandTrueUptoSaid : Prop := standTrueUptoRow.holds Tryd.pinned (OpenSpec.upto standTrueSpec)

/-- 'pinasterlaw01.StandSharp', WHERE WHAT IT READS IS OF BULK AT MOST 1048576: true; the input reads as it did. -/
def standSharpUptoRow : OpenClaim := { program := "ytpkjjiieglebbaadoor", sum := "aab91d26ccd58f3acb4704409d67a7cbb64d0a9ab159283d90d3183d13bb92d3", func := "pinaster/pinasterlaw01.StandSharp", spec := "standSharp", inPlace := ["internal/abi.NoEscape", "internal/bytealg.MakeNoZero", "internal/bytealg.IndexByteString"], unfollowed := true, recurses := true, named := ["internal/strconv.uint64pow10", "math/bits.deBruijn32tab", "math/bits.deBruijn64tab", "pinaster/stand.changes"], apart := false, laid := [("math/bits.deBruijn32tab", laid_math_bits_deBruijn32tab), ("math/bits.deBruijn64tab", laid_math_bits_deBruijn64tab), ("internal/strconv.uint64pow10", laid_internal_strconv_uint64pow10), ("pinaster/stand.changes", laid_pinaster_stand_changes)], narrowed := true }
def StandSharpUptoSaid : Prop := standSharpUptoRow.holds Tryd.pinned (OpenSpec.upto standSharpSpec)

/-- 'pinasterlaw01.StandPairs', WHERE WHAT IT READS IS OF BULK AT MOST 1048576: true; the input reads as it did. -/
def standPairsUptoRow : OpenClaim := { program := "ytpkjjiieglebbaadoor", sum := "aab91d26ccd58f3acb4704409d67a7cbb64d0a9ab159283d90d3183d13bb92d3", func := "pinaster/pinasterlaw01.StandPairs", spec := "standPairs", inPlace := ["internal/abi.NoEscape", "internal/bytealg.MakeNoZero", "internal/bytealg.IndexByteString"], unfollowed := true, recurses := true, named := ["internal/strconv.uint64pow10", "math/bits.deBruijn32tab", "math/bits.deBruijn64tab", "pinaster/stand.changes"], apart := false, laid := [("math/bits.deBruijn32tab", laid_math_bits_deBruijn32tab), ("math/bits.deBruijn64tab", laid_math_bits_deBruijn64tab), ("internal/strconv.uint64pow10", laid_internal_strconv_uint64pow10), ("pinaster/stand.changes", laid_pinaster_stand_changes)], narrowed := true }
def StandPairsUptoSaid : Prop := standPairsUptoRow.holds Tryd.pinned (OpenSpec.upto standPairsSpec)

/-- 'pinasterlaw01.StandLeast', WHERE WHAT IT READS IS OF BULK AT MOST 1048576: true; the input reads as it did. -/
def standLeastUptoRow : OpenClaim := { program := "ytpkjjiieglebbaadoor", sum := "aab91d26ccd58f3acb4704409d67a7cbb64d0a9ab159283d90d3183d13bb92d3", func := "pinaster/pinasterlaw01.StandLeast", spec := "standLeast", inPlace := ["internal/abi.NoEscape", "internal/bytealg.MakeNoZero", "internal/bytealg.IndexByteString"], unfollowed := true, recurses := true, named := ["internal/strconv.uint64pow10", "math/bits.deBruijn32tab", "math/bits.deBruijn64tab", "pinaster/stand.changes"], apart := false, laid := [("math/bits.deBruijn32tab", laid_math_bits_deBruijn32tab), ("math/bits.deBruijn64tab", laid_math_bits_deBruijn64tab), ("internal/strconv.uint64pow10", laid_internal_strconv_uint64pow10), ("pinaster/stand.changes", laid_pinaster_stand_changes)], narrowed := true }
def StandLeastUptoSaid : Prop := standLeastUptoRow.holds Tryd.pinned (OpenSpec.upto standLeastSpec)

/-- 'pinasterlaw01.StandAlive', WHERE WHAT IT READS IS OF BULK AT MOST 1048576: true; the input reads as it did. -/
def standAliveUptoRow : OpenClaim := { program := "ytpkjjiieglebbaadoor", sum := "aab91d26ccd58f3acb4704409d67a7cbb64d0a9ab159283d90d3183d13bb92d3", func := "pinaster/pinasterlaw01.StandAlive", spec := "standAlive", inPlace := ["internal/abi.NoEscape", "internal/bytealg.MakeNoZero", "internal/bytealg.IndexByteString"], unfollowed := true, recurses := true, named := ["pinaster/stand.changes", "internal/strconv.uint64pow10", "math/bits.deBruijn32tab", "math/bits.deBruijn64tab"], apart := false, laid := [("math/bits.deBruijn32tab", laid_math_bits_deBruijn32tab), ("math/bits.deBruijn64tab", laid_math_bits_deBruijn64tab), ("internal/strconv.uint64pow10", laid_internal_strconv_uint64pow10), ("pinaster/stand.changes", laid_pinaster_stand_changes)], narrowed := true }
def StandAliveUptoSaid : Prop := standAliveUptoRow.holds Tryd.pinned (OpenSpec.upto standAliveSpec)

/-- 'pinasterlaw01.StandBack', WHERE WHAT IT READS IS OF BULK AT MOST 1048576: true; the input reads as it did. -/
def standBackUptoRow : OpenClaim := { program := "ytpkjjiieglebbaadoor", sum := "aab91d26ccd58f3acb4704409d67a7cbb64d0a9ab159283d90d3183d13bb92d3", func := "pinaster/pinasterlaw01.StandBack", spec := "standBack", inPlace := ["internal/abi.NoEscape", "internal/bytealg.MakeNoZero", "internal/bytealg.IndexByteString"], unfollowed := true, recurses := true, named := ["internal/strconv.uint64pow10", "math/bits.deBruijn32tab", "math/bits.deBruijn64tab", "pinaster/stand.changes"], apart := false, laid := [("math/bits.deBruijn32tab", laid_math_bits_deBruijn32tab), ("math/bits.deBruijn64tab", laid_math_bits_deBruijn64tab), ("internal/strconv.uint64pow10", laid_internal_strconv_uint64pow10), ("pinaster/stand.changes", laid_pinaster_stand_changes)], narrowed := true }
def StandBackUptoSaid : Prop := standBackUptoRow.holds Tryd.pinned (OpenSpec.upto standBackSpec)

/-- 'pinasterlaw01.StandKnown', WHERE WHAT IT READS IS OF BULK AT MOST 1048576: true; the input reads as it did. -/
def standKnownUptoRow : OpenClaim := { program := "ytpkjjiieglebbaadoor", sum := "aab91d26ccd58f3acb4704409d67a7cbb64d0a9ab159283d90d3183d13bb92d3", func := "pinaster/pinasterlaw01.StandKnown", spec := "standKnown", inPlace := ["internal/abi.NoEscape", "internal/bytealg.MakeNoZero", "internal/bytealg.IndexByteString"], unfollowed := true, recurses := true, named := ["internal/strconv.uint64pow10", "math/bits.deBruijn32tab", "math/bits.deBruijn64tab", "pinaster/stand.changes"], apart := false, laid := [("math/bits.deBruijn32tab", laid_math_bits_deBruijn32tab), ("math/bits.deBruijn64tab", laid_math_bits_deBruijn64tab), ("internal/strconv.uint64pow10", laid_internal_strconv_uint64pow10), ("pinaster/stand.changes", laid_pinaster_stand_changes)], narrowed := true }
def StandKnownUptoSaid : Prop := standKnownUptoRow.holds Tryd.pinned (OpenSpec.upto standKnownSpec)

end Rows
end Go.Proofs.YtpkjjiieglebbaaDoor
