/-
  DERIVED. GIVEN WITH THE SEED: THE CARDS: each row of YtmhbkjjkalnggaaGreatDoorRows.lean that lists a variable, with what it lists TIED to the program's text (the seventh form; the later family's looks); each row that meets fmt, with fmt's text TOLD by the authors' own Lean function (tested against real Go, not proved from fmt's source: count such statements apart). THE CARD IS WHAT COUNTS. Prove the row's statement (the work); the ties are given (YtmhbkjjkalnggaaGreatDoorTie.lean); close each card by the builder's one call (the guide's Derived/Test/ToyasCard.lean, 'card_holds'). Laid BY PROGRAM, IN A SANDBOX (cutbox-door.mjs). By AI agents, Wed Nov 11 2026. No macro, syntax, notation, axiom, sorry.
-/
import Derived.Test.YtmhbkjjkalnggaaGreatDoorRows
import GoSem.ClaimSeven
namespace Go.Proofs.YtmhbkjjkalnggaaGreatDoor
namespace Rows

/-- THE TIED CARD OF 'lexiconlaw08.JSONValues'. -/
def jSONValuesCard : Claim7 := { stood := { row := jSONValuesRow, standIns := [], harness := (true, "364de79126c864816bd21a1ebb7015a75396f0fece5d71d31dc04a337988c19d"), looks := true }, kinds := [], alts := [], laidByText := true, laidKinds := [.data, .data, .data, .data, .sentinel, .sentinel, .pinned], laidTests := true, laidLooks := .later }
def JSONValuesCardSaid : Prop := Claim7.holds Tryz.pinned (.plain (OpenSpec.ofChange jSONValuesSpec)) jSONValuesCard

/-- THE TIED CARD OF 'lexiconlaw08.JSONEqual'. -/
def jSONEqualCard : Claim7 := { stood := { row := jSONEqualRow, standIns := [], harness := (true, "364de79126c864816bd21a1ebb7015a75396f0fece5d71d31dc04a337988c19d"), looks := true }, kinds := [], alts := [], laidByText := true, laidKinds := [.data, .data, .data, .data, .sentinel, .sentinel, .pinned], laidTests := true, laidLooks := .later }
def JSONEqualCardSaid : Prop := Claim7.holds Tryz.pinned (.plain (OpenSpec.ofChange jSONEqualSpec)) jSONEqualCard

/-- THE TIED CARD OF 'lexiconlaw08.JSONOneText'. -/
def jSONOneTextCard : Claim7 := { stood := { row := jSONOneTextRow, standIns := [], harness := (true, "364de79126c864816bd21a1ebb7015a75396f0fece5d71d31dc04a337988c19d"), looks := true }, kinds := [], alts := [], laidByText := true, laidKinds := [.data, .data, .data, .data, .sentinel, .sentinel, .pinned], laidTests := true, laidLooks := .later }
def JSONOneTextCardSaid : Prop := Claim7.holds Tryz.pinned (.plain (OpenSpec.ofChange jSONOneTextSpec)) jSONOneTextCard

/-- THE SECOND FORM's CARD OF 'lexiconlaw08.JSONValues'. -/
def jSONValuesUptoCard : Claim7 := { stood := { row := jSONValuesUptoRow, standIns := [], harness := (true, "364de79126c864816bd21a1ebb7015a75396f0fece5d71d31dc04a337988c19d"), looks := true }, kinds := [], alts := [], laidByText := true, laidKinds := [.data, .data, .data, .data, .sentinel, .sentinel, .pinned], laidTests := true, laidLooks := .later }
def JSONValuesUptoCardSaid : Prop := Claim7.holds Tryz.pinned (.plain (OpenSpec.upto jSONValuesSpec)) jSONValuesUptoCard

/-- THE SECOND FORM's CARD OF 'lexiconlaw08.JSONEqual'. -/
def jSONEqualUptoCard : Claim7 := { stood := { row := jSONEqualUptoRow, standIns := [], harness := (true, "364de79126c864816bd21a1ebb7015a75396f0fece5d71d31dc04a337988c19d"), looks := true }, kinds := [], alts := [], laidByText := true, laidKinds := [.data, .data, .data, .data, .sentinel, .sentinel, .pinned], laidTests := true, laidLooks := .later }
def JSONEqualUptoCardSaid : Prop := Claim7.holds Tryz.pinned (.plain (OpenSpec.upto jSONEqualSpec)) jSONEqualUptoCard

/-- THE SECOND FORM's CARD OF 'lexiconlaw08.JSONOneText'. -/
def jSONOneTextUptoCard : Claim7 := { stood := { row := jSONOneTextUptoRow, standIns := [], harness := (true, "364de79126c864816bd21a1ebb7015a75396f0fece5d71d31dc04a337988c19d"), looks := true }, kinds := [], alts := [], laidByText := true, laidKinds := [.data, .data, .data, .data, .sentinel, .sentinel, .pinned], laidTests := true, laidLooks := .later }
def JSONOneTextUptoCardSaid : Prop := Claim7.holds Tryz.pinned (.plain (OpenSpec.upto jSONOneTextSpec)) jSONOneTextUptoCard
end Rows
end Go.Proofs.YtmhbkjjkalnggaaGreatDoor
