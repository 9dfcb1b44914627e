/-
  DERIVED. GIVEN WITH THE SEED: THE CARDS: each row of YtjckojedafajeaaGreatDoorRows.lean that lists a variable, with what it lists TIED to the program's text (the seventh form; the later family's looks); each row that meets fmt, with fmt's text TOLD by the authors' own Lean function (tested against real Go, not proved from fmt's source: count such statements apart). THE CARD IS WHAT COUNTS. Prove the row's statement (the work); the ties are given (YtjckojedafajeaaGreatDoorTie.lean); close each card by the builder's one call (the guide's Derived/Test/ToyasCard.lean, 'card_holds'). Laid BY PROGRAM, IN A SANDBOX (cutbox-door.mjs). By AI agents, Wed Nov 11 2026. No macro, syntax, notation, axiom, sorry.
-/
import Derived.Test.YtjckojedafajeaaGreatDoorRows
import GoSem.ClaimSeven
namespace Go.Proofs.YtjckojedafajeaaGreatDoor
namespace Rows

/-- THE TIED CARD OF 'lexiconlaw08.JSONTexts'. -/
def jSONTextsCard : Claim7 := { stood := { row := jSONTextsRow, standIns := [], harness := (true, "7819a520c2c69af9e252c1a96f74befe27b685eef680b55cc246262940f7f1c1"), looks := true }, kinds := [], alts := [], laidByText := true, laidKinds := [.data, .data, .data, .data, .sentinel, .sentinel, .pinned], laidTests := true, laidLooks := .later }
def JSONTextsCardSaid : Prop := Claim7.holds Tryz.pinned (.plain (OpenSpec.ofChange jSONTextsSpec)) jSONTextsCard

/-- THE TIED CARD OF 'lexiconlaw08.JSONQuotes'. -/
def jSONQuotesCard : Claim7 := { stood := { row := jSONQuotesRow, standIns := [], harness := (true, "7819a520c2c69af9e252c1a96f74befe27b685eef680b55cc246262940f7f1c1"), looks := true }, kinds := [], alts := [], laidByText := true, laidKinds := [.data, .data, .data, .data, .sentinel, .sentinel, .pinned], laidTests := true, laidLooks := .later }
def JSONQuotesCardSaid : Prop := Claim7.holds Tryz.pinned (.plain (OpenSpec.ofChange jSONQuotesSpec)) jSONQuotesCard

/-- THE TIED CARD OF 'lexiconlaw08.JSONBounds'. -/
def jSONBoundsCard : Claim7 := { stood := { row := jSONBoundsRow, standIns := [], harness := (true, "7819a520c2c69af9e252c1a96f74befe27b685eef680b55cc246262940f7f1c1"), looks := true }, kinds := [], alts := [], laidByText := true, laidKinds := [.data, .data, .data, .data, .sentinel, .sentinel, .pinned], laidTests := true, laidLooks := .later }
def JSONBoundsCardSaid : Prop := Claim7.holds Tryz.pinned (.plain (OpenSpec.ofChange jSONBoundsSpec)) jSONBoundsCard

/-- THE TIED CARD OF 'lexiconlaw08.JSONBack'. -/
def jSONBackCard : Claim7 := { stood := { row := jSONBackRow, standIns := [], harness := (true, "7819a520c2c69af9e252c1a96f74befe27b685eef680b55cc246262940f7f1c1"), looks := true }, kinds := [], alts := [], laidByText := true, laidKinds := [.data, .data, .data, .data, .sentinel, .sentinel, .pinned], laidTests := true, laidLooks := .later }
def JSONBackCardSaid : Prop := Claim7.holds Tryz.pinned (.plain (OpenSpec.ofChange jSONBackSpec)) jSONBackCard

/-- THE SECOND FORM's CARD OF 'lexiconlaw08.JSONTexts'. -/
def jSONTextsUptoCard : Claim7 := { stood := { row := jSONTextsUptoRow, standIns := [], harness := (true, "7819a520c2c69af9e252c1a96f74befe27b685eef680b55cc246262940f7f1c1"), looks := true }, kinds := [], alts := [], laidByText := true, laidKinds := [.data, .data, .data, .data, .sentinel, .sentinel, .pinned], laidTests := true, laidLooks := .later }
def JSONTextsUptoCardSaid : Prop := Claim7.holds Tryz.pinned (.plain (OpenSpec.upto jSONTextsSpec)) jSONTextsUptoCard

/-- THE SECOND FORM's CARD OF 'lexiconlaw08.JSONQuotes'. -/
def jSONQuotesUptoCard : Claim7 := { stood := { row := jSONQuotesUptoRow, standIns := [], harness := (true, "7819a520c2c69af9e252c1a96f74befe27b685eef680b55cc246262940f7f1c1"), looks := true }, kinds := [], alts := [], laidByText := true, laidKinds := [.data, .data, .data, .data, .sentinel, .sentinel, .pinned], laidTests := true, laidLooks := .later }
def JSONQuotesUptoCardSaid : Prop := Claim7.holds Tryz.pinned (.plain (OpenSpec.upto jSONQuotesSpec)) jSONQuotesUptoCard

/-- THE SECOND FORM's CARD OF 'lexiconlaw08.JSONBounds'. -/
def jSONBoundsUptoCard : Claim7 := { stood := { row := jSONBoundsUptoRow, standIns := [], harness := (true, "7819a520c2c69af9e252c1a96f74befe27b685eef680b55cc246262940f7f1c1"), looks := true }, kinds := [], alts := [], laidByText := true, laidKinds := [.data, .data, .data, .data, .sentinel, .sentinel, .pinned], laidTests := true, laidLooks := .later }
def JSONBoundsUptoCardSaid : Prop := Claim7.holds Tryz.pinned (.plain (OpenSpec.upto jSONBoundsSpec)) jSONBoundsUptoCard

/-- THE SECOND FORM's CARD OF 'lexiconlaw08.JSONBack'. -/
def jSONBackUptoCard : Claim7 := { stood := { row := jSONBackUptoRow, standIns := [], harness := (true, "7819a520c2c69af9e252c1a96f74befe27b685eef680b55cc246262940f7f1c1"), looks := true }, kinds := [], alts := [], laidByText := true, laidKinds := [.data, .data, .data, .data, .sentinel, .sentinel, .pinned], laidTests := true, laidLooks := .later }
def JSONBackUptoCardSaid : Prop := Claim7.holds Tryz.pinned (.plain (OpenSpec.upto jSONBackSpec)) jSONBackUptoCard
end Rows
end Go.Proofs.YtjckojedafajeaaGreatDoor
