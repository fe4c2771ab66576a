/-
  DERIVED. GIVEN WITH THE SEED: THE CARDS: each row of YtpkjjiieglebbaaDoorRows.lean that lists a variable, with what it lists TIED to the program's text (the seventh form; the later family's looks); each row that meets fmt, with fmt's text TOLD by the authors' own Lean function (tested against real Go, not proved from fmt's source: count such statements apart). THE CARD IS WHAT COUNTS. Prove the row's statement (the work); the ties are given (YtpkjjiieglebbaaDoorTie.lean); close each card by the builder's one call (the guide's Derived/Test/ToyasCard.lean, 'card_holds'). Laid BY PROGRAM, IN A SANDBOX (cutbox-door.mjs). By AI agents, Wed Nov 11 2026. No macro, syntax, notation, axiom, sorry.
-/
import Derived.Test.YtpkjjiieglebbaaDoorRows
import GoSem.ClaimSeven
namespace Go.Proofs.YtpkjjiieglebbaaDoor
namespace Rows

/-- THE TIED CARD OF 'pinasterlaw01.StandWords'. -/
def standWordsCard : Claim7 := { stood := { row := standWordsRow, standIns := [], harness := (true, "1000570154fdbfc7b0264c8c3cd13f64f2aa8222b0fac612bcfce1893c890dcc"), looks := false }, kinds := [], alts := [], laidByText := true, laidKinds := [.data, .data, .data, .data], laidTests := true, laidLooks := .later }
def StandWordsCardSaid : Prop := Claim7.holds Tryd.pinned (.plain (OpenSpec.ofChange standWordsSpec)) standWordsCard

/-- THE TIED CARD OF 'pinasterlaw01.StandGrows'. -/
def standGrowsCard : Claim7 := { stood := { row := standGrowsRow, standIns := [], harness := (true, "1000570154fdbfc7b0264c8c3cd13f64f2aa8222b0fac612bcfce1893c890dcc"), looks := false }, kinds := [], alts := [], laidByText := true, laidKinds := [.data, .data, .data, .data], laidTests := true, laidLooks := .later }
def StandGrowsCardSaid : Prop := Claim7.holds Tryd.pinned (.plain (OpenSpec.ofChange standGrowsSpec)) standGrowsCard

/-- THE TIED CARD OF 'pinasterlaw01.StandThins'. -/
def standThinsCard : Claim7 := { stood := { row := standThinsRow, standIns := [], harness := (true, "1000570154fdbfc7b0264c8c3cd13f64f2aa8222b0fac612bcfce1893c890dcc"), looks := false }, kinds := [], alts := [], laidByText := true, laidKinds := [.data, .data, .data, .data], laidTests := true, laidLooks := .later }
def StandThinsCardSaid : Prop := Claim7.holds Tryd.pinned (.plain (OpenSpec.ofChange standThinsSpec)) standThinsCard

/-- THE TIED CARD OF 'pinasterlaw01.StandFollows'. -/
def standFollowsCard : Claim7 := { stood := { row := standFollowsRow, standIns := [], harness := (true, "1000570154fdbfc7b0264c8c3cd13f64f2aa8222b0fac612bcfce1893c890dcc"), looks := false }, kinds := [], alts := [], laidByText := true, laidKinds := [.data, .data, .data, .data], laidTests := true, laidLooks := .later }
def StandFollowsCardSaid : Prop := Claim7.holds Tryd.pinned (.plain (OpenSpec.ofChange standFollowsSpec)) standFollowsCard

/-- THE TIED CARD OF 'pinasterlaw01.StandTexts'. -/
def standTextsCard : Claim7 := { stood := { row := standTextsRow, standIns := [], harness := (true, "1000570154fdbfc7b0264c8c3cd13f64f2aa8222b0fac612bcfce1893c890dcc"), looks := false }, kinds := [], alts := [], laidByText := true, laidKinds := [.data, .data, .data, .data], laidTests := true, laidLooks := .later }
def StandTextsCardSaid : Prop := Claim7.holds Tryd.pinned (.plain (OpenSpec.ofChange standTextsSpec)) standTextsCard

/-- THE TIED CARD OF 'pinasterlaw01.StandTrue'. -/
def standTrueCard : Claim7 := { stood := { row := standTrueRow, standIns := [], harness := (true, "1000570154fdbfc7b0264c8c3cd13f64f2aa8222b0fac612bcfce1893c890dcc"), looks := false }, kinds := [], alts := [], laidByText := true, laidKinds := [.data, .data, .data, .data], laidTests := true, laidLooks := .later }
def StandTrueCardSaid : Prop := Claim7.holds Tryd.pinned (.plain (OpenSpec.ofChange standTrueSpec)) standTrueCard

/-- THE TIED CARD OF 'pinasterlaw01.StandSharp'. -/
def standSharpCard : Claim7 := { stood := { row := standSharpRow, standIns := [], harness := (true, "1000570154fdbfc7b0264c8c3cd13f64f2aa8222b0fac612bcfce1893c890dcc"), looks := false }, kinds := [], alts := [], laidByText := true, laidKinds := [.data, .data, .data, .data], laidTests := true, laidLooks := .later }
def StandSharpCardSaid : Prop := Claim7.holds Tryd.pinned (.plain (OpenSpec.ofChange standSharpSpec)) standSharpCard

/-- THE TIED CARD OF 'pinasterlaw01.StandPairs'. -/
def standPairsCard : Claim7 := { stood := { row := standPairsRow, standIns := [], harness := (true, "1000570154fdbfc7b0264c8c3cd13f64f2aa8222b0fac612bcfce1893c890dcc"), looks := false }, kinds := [], alts := [], laidByText := true, laidKinds := [.data, .data, .data, .data], laidTests := true, laidLooks := .later }
def StandPairsCardSaid : Prop := Claim7.holds Tryd.pinned (.plain (OpenSpec.ofChange standPairsSpec)) standPairsCard

/-- THE TIED CARD OF 'pinasterlaw01.StandLeast'. -/
def standLeastCard : Claim7 := { stood := { row := standLeastRow, standIns := [], harness := (true, "1000570154fdbfc7b0264c8c3cd13f64f2aa8222b0fac612bcfce1893c890dcc"), looks := false }, kinds := [], alts := [], laidByText := true, laidKinds := [.data, .data, .data, .data], laidTests := true, laidLooks := .later }
def StandLeastCardSaid : Prop := Claim7.holds Tryd.pinned (.plain (OpenSpec.ofChange standLeastSpec)) standLeastCard

/-- THE TIED CARD OF 'pinasterlaw01.StandAlive'. -/
def standAliveCard : Claim7 := { stood := { row := standAliveRow, standIns := [], harness := (true, "1000570154fdbfc7b0264c8c3cd13f64f2aa8222b0fac612bcfce1893c890dcc"), looks := false }, kinds := [], alts := [], laidByText := true, laidKinds := [.data, .data, .data, .data], laidTests := true, laidLooks := .later }
def StandAliveCardSaid : Prop := Claim7.holds Tryd.pinned (.plain (OpenSpec.ofChange standAliveSpec)) standAliveCard

/-- THE TIED CARD OF 'pinasterlaw01.StandBack'. -/
def standBackCard : Claim7 := { stood := { row := standBackRow, standIns := [], harness := (true, "1000570154fdbfc7b0264c8c3cd13f64f2aa8222b0fac612bcfce1893c890dcc"), looks := false }, kinds := [], alts := [], laidByText := true, laidKinds := [.data, .data, .data, .data], laidTests := true, laidLooks := .later }
def StandBackCardSaid : Prop := Claim7.holds Tryd.pinned (.plain (OpenSpec.ofChange standBackSpec)) standBackCard

/-- THE TIED CARD OF 'pinasterlaw01.StandKnown'. -/
def standKnownCard : Claim7 := { stood := { row := standKnownRow, standIns := [], harness := (true, "1000570154fdbfc7b0264c8c3cd13f64f2aa8222b0fac612bcfce1893c890dcc"), looks := false }, kinds := [], alts := [], laidByText := true, laidKinds := [.data, .data, .data, .data], laidTests := true, laidLooks := .later }
def StandKnownCardSaid : Prop := Claim7.holds Tryd.pinned (.plain (OpenSpec.ofChange standKnownSpec)) standKnownCard

/-- THE SECOND FORM's CARD OF 'pinasterlaw01.StandWords'. -/
def standWordsUptoCard : Claim7 := { stood := { row := standWordsUptoRow, standIns := [], harness := (true, "1000570154fdbfc7b0264c8c3cd13f64f2aa8222b0fac612bcfce1893c890dcc"), looks := false }, kinds := [], alts := [], laidByText := true, laidKinds := [.data, .data, .data, .data], laidTests := true, laidLooks := .later }
def StandWordsUptoCardSaid : Prop := Claim7.holds Tryd.pinned (.plain (OpenSpec.upto standWordsSpec)) standWordsUptoCard

/-- THE SECOND FORM's CARD OF 'pinasterlaw01.StandGrows'. -/
def standGrowsUptoCard : Claim7 := { stood := { row := standGrowsUptoRow, standIns := [], harness := (true, "1000570154fdbfc7b0264c8c3cd13f64f2aa8222b0fac612bcfce1893c890dcc"), looks := false }, kinds := [], alts := [], laidByText := true, laidKinds := [.data, .data, .data, .data], laidTests := true, laidLooks := .later }
def StandGrowsUptoCardSaid : Prop := Claim7.holds Tryd.pinned (.plain (OpenSpec.upto standGrowsSpec)) standGrowsUptoCard

/-- THE SECOND FORM's CARD OF 'pinasterlaw01.StandThins'. -/
def standThinsUptoCard : Claim7 := { stood := { row := standThinsUptoRow, standIns := [], harness := (true, "1000570154fdbfc7b0264c8c3cd13f64f2aa8222b0fac612bcfce1893c890dcc"), looks := false }, kinds := [], alts := [], laidByText := true, laidKinds := [.data, .data, .data, .data], laidTests := true, laidLooks := .later }
def StandThinsUptoCardSaid : Prop := Claim7.holds Tryd.pinned (.plain (OpenSpec.upto standThinsSpec)) standThinsUptoCard

/-- THE SECOND FORM's CARD OF 'pinasterlaw01.StandFollows'. -/
def standFollowsUptoCard : Claim7 := { stood := { row := standFollowsUptoRow, standIns := [], harness := (true, "1000570154fdbfc7b0264c8c3cd13f64f2aa8222b0fac612bcfce1893c890dcc"), looks := false }, kinds := [], alts := [], laidByText := true, laidKinds := [.data, .data, .data, .data], laidTests := true, laidLooks := .later }
def StandFollowsUptoCardSaid : Prop := Claim7.holds Tryd.pinned (.plain (OpenSpec.upto standFollowsSpec)) standFollowsUptoCard

/-- THE SECOND FORM's CARD OF 'pinasterlaw01.StandTexts'. -/
def standTextsUptoCard : Claim7 := { stood := { row := standTextsUptoRow, standIns := [], harness := (true, "1000570154fdbfc7b0264c8c3cd13f64f2aa8222b0fac612bcfce1893c890dcc"), looks := false }, kinds := [], alts := [], laidByText := true, laidKinds := [.data, .data, .data, .data], laidTests := true, laidLooks := .later }
def StandTextsUptoCardSaid : Prop := Claim7.holds Tryd.pinned (.plain (OpenSpec.upto standTextsSpec)) standTextsUptoCard

/-- THE SECOND FORM's CARD OF 'pinasterlaw01.StandTrue'. -/
def standTrueUptoCard : Claim7 := { stood := { row := standTrueUptoRow, standIns := [], harness := (true, "1000570154fdbfc7b0264c8c3cd13f64f2aa8222b0fac612bcfce1893c890dcc"), looks := false }, kinds := [], alts := [], laidByText := true, laidKinds := [.data, .data, .data, .data], laidTests := true, laidLooks := .later }
def StandTrueUptoCardSaid : Prop := Claim7.holds Tryd.pinned (.plain (OpenSpec.upto standTrueSpec)) standTrueUptoCard

/-- THE SECOND FORM's CARD OF 'pinasterlaw01.StandSharp'. -/
def standSharpUptoCard : Claim7 := { stood := { row := standSharpUptoRow, standIns := [], harness := (true, "1000570154fdbfc7b0264c8c3cd13f64f2aa8222b0fac612bcfce1893c890dcc"), looks := false }, kinds := [], alts := [], laidByText := true, laidKinds := [.data, .data, .data, .data], laidTests := true, laidLooks := .later }
def StandSharpUptoCardSaid : Prop := Claim7.holds Tryd.pinned (.plain (OpenSpec.upto standSharpSpec)) standSharpUptoCard

/-- THE SECOND FORM's CARD OF 'pinasterlaw01.StandPairs'. -/
def standPairsUptoCard : Claim7 := { stood := { row := standPairsUptoRow, standIns := [], harness := (true, "1000570154fdbfc7b0264c8c3cd13f64f2aa8222b0fac612bcfce1893c890dcc"), looks := false }, kinds := [], alts := [], laidByText := true, laidKinds := [.data, .data, .data, .data], laidTests := true, laidLooks := .later }
def StandPairsUptoCardSaid : Prop := Claim7.holds Tryd.pinned (.plain (OpenSpec.upto standPairsSpec)) standPairsUptoCard

/-- THE SECOND FORM's CARD OF 'pinasterlaw01.StandLeast'. -/
def standLeastUptoCard : Claim7 := { stood := { row := standLeastUptoRow, standIns := [], harness := (true, "1000570154fdbfc7b0264c8c3cd13f64f2aa8222b0fac612bcfce1893c890dcc"), looks := false }, kinds := [], alts := [], laidByText := true, laidKinds := [.data, .data, .data, .data], laidTests := true, laidLooks := .later }
def StandLeastUptoCardSaid : Prop := Claim7.holds Tryd.pinned (.plain (OpenSpec.upto standLeastSpec)) standLeastUptoCard

/-- THE SECOND FORM's CARD OF 'pinasterlaw01.StandAlive'. -/
def standAliveUptoCard : Claim7 := { stood := { row := standAliveUptoRow, standIns := [], harness := (true, "1000570154fdbfc7b0264c8c3cd13f64f2aa8222b0fac612bcfce1893c890dcc"), looks := false }, kinds := [], alts := [], laidByText := true, laidKinds := [.data, .data, .data, .data], laidTests := true, laidLooks := .later }
def StandAliveUptoCardSaid : Prop := Claim7.holds Tryd.pinned (.plain (OpenSpec.upto standAliveSpec)) standAliveUptoCard

/-- THE SECOND FORM's CARD OF 'pinasterlaw01.StandBack'. -/
def standBackUptoCard : Claim7 := { stood := { row := standBackUptoRow, standIns := [], harness := (true, "1000570154fdbfc7b0264c8c3cd13f64f2aa8222b0fac612bcfce1893c890dcc"), looks := false }, kinds := [], alts := [], laidByText := true, laidKinds := [.data, .data, .data, .data], laidTests := true, laidLooks := .later }
def StandBackUptoCardSaid : Prop := Claim7.holds Tryd.pinned (.plain (OpenSpec.upto standBackSpec)) standBackUptoCard

/-- THE SECOND FORM's CARD OF 'pinasterlaw01.StandKnown'. -/
def standKnownUptoCard : Claim7 := { stood := { row := standKnownUptoRow, standIns := [], harness := (true, "1000570154fdbfc7b0264c8c3cd13f64f2aa8222b0fac612bcfce1893c890dcc"), looks := false }, kinds := [], alts := [], laidByText := true, laidKinds := [.data, .data, .data, .data], laidTests := true, laidLooks := .later }
def StandKnownUptoCardSaid : Prop := Claim7.holds Tryd.pinned (.plain (OpenSpec.upto standKnownSpec)) standKnownUptoCard
end Rows
end Go.Proofs.YtpkjjiieglebbaaDoor
