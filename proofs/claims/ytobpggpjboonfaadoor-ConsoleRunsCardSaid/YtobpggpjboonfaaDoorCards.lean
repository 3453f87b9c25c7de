/-
  DERIVED. GIVEN WITH THE SEED: THE CARDS: each row of YtobpggpjboonfaaDoorRows.lean that lists a variable, with what it lists TIED to the program's text (the seventh form; the later family's looks); each row that meets fmt, with fmt's text TOLD by the authors' own Lean function (tested against real Go, not proved from fmt's source: count such statements apart). THE CARD IS WHAT COUNTS. Prove the row's statement (the work); the ties are given (YtobpggpjboonfaaDoorTie.lean); close each card by the builder's one call (the guide's Derived/Test/ToyasCard.lean, 'card_holds'). Laid BY PROGRAM, IN A SANDBOX (cutbox-door.mjs). By AI agents, Wed Nov 11 2026. No macro, syntax, notation, axiom, sorry.
-/
import Derived.Test.YtobpggpjboonfaaDoorRows
import GoSem.ClaimSeven
namespace Go.Proofs.YtobpggpjboonfaaDoor
namespace Rows

/-- THE TIED CARD OF 'caissonlaw25.ConsoleRuns'. -/
def consoleRunsCard : Claim7 := { stood := { row := consoleRunsRow, standIns := [], harness := (true, "592093d98d1dea841df0a4cf1a64c0e17e72edc499260739933377361d0f2596"), looks := false }, kinds := [], alts := [], laidByText := true, laidKinds := [.data, .data, .data, .data, .pinned], laidTests := true, laidLooks := .later }
def ConsoleRunsCardSaid : Prop := Claim7.holds Tryd.pinned (.plain (OpenSpec.ofChange consoleRunsSpec)) consoleRunsCard

/-- THE TIED CARD OF 'caissonlaw25.ConsoleBegins'. -/
def consoleBeginsCard : Claim7 := { stood := { row := consoleBeginsRow, standIns := [], harness := (true, "592093d98d1dea841df0a4cf1a64c0e17e72edc499260739933377361d0f2596"), looks := false }, kinds := [], alts := [], laidByText := true, laidKinds := [.data, .data, .data, .data, .pinned], laidTests := true, laidLooks := .later }
def ConsoleBeginsCardSaid : Prop := Claim7.holds Tryd.pinned (.plain (OpenSpec.ofChange consoleBeginsSpec)) consoleBeginsCard

/-- THE TIED CARD OF 'caissonlaw25.ConsoleMany'. -/
def consoleManyCard : Claim7 := { stood := { row := consoleManyRow, standIns := [], harness := (true, "592093d98d1dea841df0a4cf1a64c0e17e72edc499260739933377361d0f2596"), looks := false }, kinds := [], alts := [], laidByText := true, laidKinds := [.data, .data, .data, .data, .pinned], laidTests := true, laidLooks := .later }
def ConsoleManyCardSaid : Prop := Claim7.holds Tryd.pinned (.plain (OpenSpec.ofChange consoleManySpec)) consoleManyCard

/-- THE TIED CARD OF 'caissonlaw25.ConsoleWrong'. -/
def consoleWrongCard : Claim7 := { stood := { row := consoleWrongRow, standIns := [], harness := (true, "592093d98d1dea841df0a4cf1a64c0e17e72edc499260739933377361d0f2596"), looks := false }, kinds := [], alts := [], laidByText := true, laidKinds := [.data, .data, .data, .data, .pinned], laidTests := true, laidLooks := .later }
def ConsoleWrongCardSaid : Prop := Claim7.holds Tryd.pinned (.plain (OpenSpec.ofChange consoleWrongSpec)) consoleWrongCard

/-- THE TIED CARD OF 'caissonlaw25.ConsoleOver'. -/
def consoleOverCard : Claim7 := { stood := { row := consoleOverRow, standIns := [], harness := (true, "592093d98d1dea841df0a4cf1a64c0e17e72edc499260739933377361d0f2596"), looks := false }, kinds := [], alts := [], laidByText := true, laidKinds := [.data, .data, .data, .data, .pinned], laidTests := true, laidLooks := .later }
def ConsoleOverCardSaid : Prop := Claim7.holds Tryd.pinned (.plain (OpenSpec.ofChange consoleOverSpec)) consoleOverCard

/-- THE TIED CARD OF 'caissonlaw25.ConsoleNext'. -/
def consoleNextCard : Claim7 := { stood := { row := consoleNextRow, standIns := [], harness := (true, "592093d98d1dea841df0a4cf1a64c0e17e72edc499260739933377361d0f2596"), looks := false }, kinds := [], alts := [], laidByText := true, laidKinds := [.data, .data, .data, .data, .pinned], laidTests := true, laidLooks := .later }
def ConsoleNextCardSaid : Prop := Claim7.holds Tryd.pinned (.plain (OpenSpec.ofChange consoleNextSpec)) consoleNextCard

/-- THE TIED CARD OF 'caissonlaw25.ConsoleSplits'. -/
def consoleSplitsCard : Claim7 := { stood := { row := consoleSplitsRow, standIns := [], harness := (true, "592093d98d1dea841df0a4cf1a64c0e17e72edc499260739933377361d0f2596"), looks := false }, kinds := [], alts := [], laidByText := true, laidKinds := [.data, .data, .data, .data, .pinned], laidTests := true, laidLooks := .later }
def ConsoleSplitsCardSaid : Prop := Claim7.holds Tryd.pinned (.plain (OpenSpec.ofChange consoleSplitsSpec)) consoleSplitsCard

/-- THE TIED CARD OF 'caissonlaw25.ConsoleWords'. -/
def consoleWordsCard : Claim7 := { stood := { row := consoleWordsRow, standIns := [], harness := (true, "592093d98d1dea841df0a4cf1a64c0e17e72edc499260739933377361d0f2596"), looks := false }, kinds := [], alts := [], laidByText := true, laidKinds := [.data, .data, .data, .data, .pinned], laidTests := true, laidLooks := .later }
def ConsoleWordsCardSaid : Prop := Claim7.holds Tryd.pinned (.plain (OpenSpec.ofChange consoleWordsSpec)) consoleWordsCard

/-- THE SECOND FORM's CARD OF 'caissonlaw25.ConsoleRuns'. -/
def consoleRunsUptoCard : Claim7 := { stood := { row := consoleRunsUptoRow, standIns := [], harness := (true, "592093d98d1dea841df0a4cf1a64c0e17e72edc499260739933377361d0f2596"), looks := false }, kinds := [], alts := [], laidByText := true, laidKinds := [.data, .data, .data, .data, .pinned], laidTests := true, laidLooks := .later }
def ConsoleRunsUptoCardSaid : Prop := Claim7.holds Tryd.pinned (.plain (OpenSpec.upto consoleRunsSpec)) consoleRunsUptoCard

/-- THE SECOND FORM's CARD OF 'caissonlaw25.ConsoleBegins'. -/
def consoleBeginsUptoCard : Claim7 := { stood := { row := consoleBeginsUptoRow, standIns := [], harness := (true, "592093d98d1dea841df0a4cf1a64c0e17e72edc499260739933377361d0f2596"), looks := false }, kinds := [], alts := [], laidByText := true, laidKinds := [.data, .data, .data, .data, .pinned], laidTests := true, laidLooks := .later }
def ConsoleBeginsUptoCardSaid : Prop := Claim7.holds Tryd.pinned (.plain (OpenSpec.upto consoleBeginsSpec)) consoleBeginsUptoCard

/-- THE SECOND FORM's CARD OF 'caissonlaw25.ConsoleMany'. -/
def consoleManyUptoCard : Claim7 := { stood := { row := consoleManyUptoRow, standIns := [], harness := (true, "592093d98d1dea841df0a4cf1a64c0e17e72edc499260739933377361d0f2596"), looks := false }, kinds := [], alts := [], laidByText := true, laidKinds := [.data, .data, .data, .data, .pinned], laidTests := true, laidLooks := .later }
def ConsoleManyUptoCardSaid : Prop := Claim7.holds Tryd.pinned (.plain (OpenSpec.upto consoleManySpec)) consoleManyUptoCard

/-- THE SECOND FORM's CARD OF 'caissonlaw25.ConsoleWrong'. -/
def consoleWrongUptoCard : Claim7 := { stood := { row := consoleWrongUptoRow, standIns := [], harness := (true, "592093d98d1dea841df0a4cf1a64c0e17e72edc499260739933377361d0f2596"), looks := false }, kinds := [], alts := [], laidByText := true, laidKinds := [.data, .data, .data, .data, .pinned], laidTests := true, laidLooks := .later }
def ConsoleWrongUptoCardSaid : Prop := Claim7.holds Tryd.pinned (.plain (OpenSpec.upto consoleWrongSpec)) consoleWrongUptoCard

/-- THE SECOND FORM's CARD OF 'caissonlaw25.ConsoleOver'. -/
def consoleOverUptoCard : Claim7 := { stood := { row := consoleOverUptoRow, standIns := [], harness := (true, "592093d98d1dea841df0a4cf1a64c0e17e72edc499260739933377361d0f2596"), looks := false }, kinds := [], alts := [], laidByText := true, laidKinds := [.data, .data, .data, .data, .pinned], laidTests := true, laidLooks := .later }
def ConsoleOverUptoCardSaid : Prop := Claim7.holds Tryd.pinned (.plain (OpenSpec.upto consoleOverSpec)) consoleOverUptoCard

/-- THE SECOND FORM's CARD OF 'caissonlaw25.ConsoleNext'. -/
def consoleNextUptoCard : Claim7 := { stood := { row := consoleNextUptoRow, standIns := [], harness := (true, "592093d98d1dea841df0a4cf1a64c0e17e72edc499260739933377361d0f2596"), looks := false }, kinds := [], alts := [], laidByText := true, laidKinds := [.data, .data, .data, .data, .pinned], laidTests := true, laidLooks := .later }
def ConsoleNextUptoCardSaid : Prop := Claim7.holds Tryd.pinned (.plain (OpenSpec.upto consoleNextSpec)) consoleNextUptoCard

/-- THE SECOND FORM's CARD OF 'caissonlaw25.ConsoleSplits'. -/
def consoleSplitsUptoCard : Claim7 := { stood := { row := consoleSplitsUptoRow, standIns := [], harness := (true, "592093d98d1dea841df0a4cf1a64c0e17e72edc499260739933377361d0f2596"), looks := false }, kinds := [], alts := [], laidByText := true, laidKinds := [.data, .data, .data, .data, .pinned], laidTests := true, laidLooks := .later }
def ConsoleSplitsUptoCardSaid : Prop := Claim7.holds Tryd.pinned (.plain (OpenSpec.upto consoleSplitsSpec)) consoleSplitsUptoCard

/-- THE SECOND FORM's CARD OF 'caissonlaw25.ConsoleWords'. -/
def consoleWordsUptoCard : Claim7 := { stood := { row := consoleWordsUptoRow, standIns := [], harness := (true, "592093d98d1dea841df0a4cf1a64c0e17e72edc499260739933377361d0f2596"), looks := false }, kinds := [], alts := [], laidByText := true, laidKinds := [.data, .data, .data, .data, .pinned], laidTests := true, laidLooks := .later }
def ConsoleWordsUptoCardSaid : Prop := Claim7.holds Tryd.pinned (.plain (OpenSpec.upto consoleWordsSpec)) consoleWordsUptoCard
end Rows
end Go.Proofs.YtobpggpjboonfaaDoor
