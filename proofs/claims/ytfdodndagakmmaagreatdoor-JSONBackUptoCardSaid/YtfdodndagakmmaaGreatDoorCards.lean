/-
  DERIVED. GIVEN WITH THE SEED: THE CARDS: each row of YtfdodndagakmmaaGreatDoorRows.lean that lists a variable, with what it lists TIED to the program's text (the seventh form; the later family's looks); each row that meets fmt, with fmt's text TOLD by the authors' own Lean function (tested against real Go, not proved from fmt's source: count such statements apart). THE CARD IS WHAT COUNTS. Prove the row's statement (the work); the ties are given (YtfdodndagakmmaaGreatDoorTie.lean); close each card by the builder's one call (the guide's Derived/Test/ToyasCard.lean, 'card_holds'). Laid BY PROGRAM, IN A SANDBOX (cutbox-door.mjs). By AI agents, Wed Nov 11 2026. No macro, syntax, notation, axiom, sorry.
-/
import Derived.Test.YtfdodndagakmmaaGreatDoorRows
import GoSem.ClaimSeven
namespace Go.Proofs.YtfdodndagakmmaaGreatDoor
namespace Rows

/-- THE TIED CARD OF 'lexiconlaw08.JSONTexts'. -/
def jSONTextsCard : Claim7 := { stood := { row := jSONTextsRow, standIns := [], harness := (true, "7b524c6385dc7d8f0ba25fb3a9647e1cd75e2dee3f71a043e9822fba73cd1ed2"), looks := true }, kinds := [], alts := [], laidByText := true, laidKinds := [.data, .data, .data, .data, .sentinel, .sentinel, .pinned], laidTests := true, laidLooks := .later }
def JSONTextsCardSaid : Prop := Claim7.holds Tryz.pinned (.plain (OpenSpec.ofChange jSONTextsSpec)) jSONTextsCard

/-- THE TIED CARD OF 'lexiconlaw08.JSONValues'. -/
def jSONValuesCard : Claim7 := { stood := { row := jSONValuesRow, standIns := [], harness := (true, "7b524c6385dc7d8f0ba25fb3a9647e1cd75e2dee3f71a043e9822fba73cd1ed2"), looks := true }, kinds := [], alts := [], laidByText := true, laidKinds := [.data, .data, .data, .data, .sentinel, .sentinel, .pinned], laidTests := true, laidLooks := .later }
def JSONValuesCardSaid : Prop := Claim7.holds Tryz.pinned (.plain (OpenSpec.ofChange jSONValuesSpec)) jSONValuesCard

/-- THE TIED CARD OF 'lexiconlaw08.JSONEqual'. -/
def jSONEqualCard : Claim7 := { stood := { row := jSONEqualRow, standIns := [], harness := (true, "7b524c6385dc7d8f0ba25fb3a9647e1cd75e2dee3f71a043e9822fba73cd1ed2"), looks := true }, kinds := [], alts := [], laidByText := true, laidKinds := [.data, .data, .data, .data, .sentinel, .sentinel, .pinned], laidTests := true, laidLooks := .later }
def JSONEqualCardSaid : Prop := Claim7.holds Tryz.pinned (.plain (OpenSpec.ofChange jSONEqualSpec)) jSONEqualCard

/-- THE TIED CARD OF 'lexiconlaw08.JSONPaths'. -/
def jSONPathsCard : Claim7 := { stood := { row := jSONPathsRow, standIns := [], harness := (true, "7b524c6385dc7d8f0ba25fb3a9647e1cd75e2dee3f71a043e9822fba73cd1ed2"), looks := true }, kinds := [], alts := [], laidByText := true, laidKinds := [.data, .data, .data, .data, .sentinel, .sentinel, .pinned], laidTests := true, laidLooks := .later }
def JSONPathsCardSaid : Prop := Claim7.holds Tryz.pinned (.plain (OpenSpec.ofChange jSONPathsSpec)) jSONPathsCard

/-- THE TIED CARD OF 'lexiconlaw08.JSONBack'. -/
def jSONBackCard : Claim7 := { stood := { row := jSONBackRow, standIns := [], harness := (true, "7b524c6385dc7d8f0ba25fb3a9647e1cd75e2dee3f71a043e9822fba73cd1ed2"), looks := true }, kinds := [], alts := [], laidByText := true, laidKinds := [.data, .data, .data, .data, .sentinel, .sentinel, .pinned], laidTests := true, laidLooks := .later }
def JSONBackCardSaid : Prop := Claim7.holds Tryz.pinned (.plain (OpenSpec.ofChange jSONBackSpec)) jSONBackCard

/-- THE TIED CARD OF 'lexiconlaw08.JSONOneText'. -/
def jSONOneTextCard : Claim7 := { stood := { row := jSONOneTextRow, standIns := [], harness := (true, "7b524c6385dc7d8f0ba25fb3a9647e1cd75e2dee3f71a043e9822fba73cd1ed2"), looks := true }, kinds := [], alts := [], laidByText := true, laidKinds := [.data, .data, .data, .data, .sentinel, .sentinel, .pinned], laidTests := true, laidLooks := .later }
def JSONOneTextCardSaid : Prop := Claim7.holds Tryz.pinned (.plain (OpenSpec.ofChange jSONOneTextSpec)) jSONOneTextCard

/-- THE TIED CARD OF 'lexiconlaw08.JSONWalk'. -/
def jSONWalkCard : Claim7 := { stood := { row := jSONWalkRow, standIns := [], harness := (true, "7b524c6385dc7d8f0ba25fb3a9647e1cd75e2dee3f71a043e9822fba73cd1ed2"), looks := true }, kinds := [], alts := [], laidByText := true, laidKinds := [.data, .data, .data, .data, .sentinel, .sentinel, .pinned], laidTests := true, laidLooks := .later }
def JSONWalkCardSaid : Prop := Claim7.holds Tryz.pinned (.plain (OpenSpec.ofChange jSONWalkSpec)) jSONWalkCard

/-- THE SECOND FORM's CARD OF 'lexiconlaw08.JSONTexts'. -/
def jSONTextsUptoCard : Claim7 := { stood := { row := jSONTextsUptoRow, standIns := [], harness := (true, "7b524c6385dc7d8f0ba25fb3a9647e1cd75e2dee3f71a043e9822fba73cd1ed2"), looks := true }, kinds := [], alts := [], laidByText := true, laidKinds := [.data, .data, .data, .data, .sentinel, .sentinel, .pinned], laidTests := true, laidLooks := .later }
def JSONTextsUptoCardSaid : Prop := Claim7.holds Tryz.pinned (.plain (OpenSpec.upto jSONTextsSpec)) jSONTextsUptoCard

/-- THE SECOND FORM's CARD OF 'lexiconlaw08.JSONValues'. -/
def jSONValuesUptoCard : Claim7 := { stood := { row := jSONValuesUptoRow, standIns := [], harness := (true, "7b524c6385dc7d8f0ba25fb3a9647e1cd75e2dee3f71a043e9822fba73cd1ed2"), looks := true }, kinds := [], alts := [], laidByText := true, laidKinds := [.data, .data, .data, .data, .sentinel, .sentinel, .pinned], laidTests := true, laidLooks := .later }
def JSONValuesUptoCardSaid : Prop := Claim7.holds Tryz.pinned (.plain (OpenSpec.upto jSONValuesSpec)) jSONValuesUptoCard

/-- THE SECOND FORM's CARD OF 'lexiconlaw08.JSONEqual'. -/
def jSONEqualUptoCard : Claim7 := { stood := { row := jSONEqualUptoRow, standIns := [], harness := (true, "7b524c6385dc7d8f0ba25fb3a9647e1cd75e2dee3f71a043e9822fba73cd1ed2"), looks := true }, kinds := [], alts := [], laidByText := true, laidKinds := [.data, .data, .data, .data, .sentinel, .sentinel, .pinned], laidTests := true, laidLooks := .later }
def JSONEqualUptoCardSaid : Prop := Claim7.holds Tryz.pinned (.plain (OpenSpec.upto jSONEqualSpec)) jSONEqualUptoCard

/-- THE SECOND FORM's CARD OF 'lexiconlaw08.JSONPaths'. -/
def jSONPathsUptoCard : Claim7 := { stood := { row := jSONPathsUptoRow, standIns := [], harness := (true, "7b524c6385dc7d8f0ba25fb3a9647e1cd75e2dee3f71a043e9822fba73cd1ed2"), looks := true }, kinds := [], alts := [], laidByText := true, laidKinds := [.data, .data, .data, .data, .sentinel, .sentinel, .pinned], laidTests := true, laidLooks := .later }
def JSONPathsUptoCardSaid : Prop := Claim7.holds Tryz.pinned (.plain (OpenSpec.upto jSONPathsSpec)) jSONPathsUptoCard

/-- THE SECOND FORM's CARD OF 'lexiconlaw08.JSONBack'. -/
def jSONBackUptoCard : Claim7 := { stood := { row := jSONBackUptoRow, standIns := [], harness := (true, "7b524c6385dc7d8f0ba25fb3a9647e1cd75e2dee3f71a043e9822fba73cd1ed2"), looks := true }, kinds := [], alts := [], laidByText := true, laidKinds := [.data, .data, .data, .data, .sentinel, .sentinel, .pinned], laidTests := true, laidLooks := .later }
def JSONBackUptoCardSaid : Prop := Claim7.holds Tryz.pinned (.plain (OpenSpec.upto jSONBackSpec)) jSONBackUptoCard

/-- THE SECOND FORM's CARD OF 'lexiconlaw08.JSONOneText'. -/
def jSONOneTextUptoCard : Claim7 := { stood := { row := jSONOneTextUptoRow, standIns := [], harness := (true, "7b524c6385dc7d8f0ba25fb3a9647e1cd75e2dee3f71a043e9822fba73cd1ed2"), looks := true }, kinds := [], alts := [], laidByText := true, laidKinds := [.data, .data, .data, .data, .sentinel, .sentinel, .pinned], laidTests := true, laidLooks := .later }
def JSONOneTextUptoCardSaid : Prop := Claim7.holds Tryz.pinned (.plain (OpenSpec.upto jSONOneTextSpec)) jSONOneTextUptoCard

/-- THE SECOND FORM's CARD OF 'lexiconlaw08.JSONWalk'. -/
def jSONWalkUptoCard : Claim7 := { stood := { row := jSONWalkUptoRow, standIns := [], harness := (true, "7b524c6385dc7d8f0ba25fb3a9647e1cd75e2dee3f71a043e9822fba73cd1ed2"), looks := true }, kinds := [], alts := [], laidByText := true, laidKinds := [.data, .data, .data, .data, .sentinel, .sentinel, .pinned], laidTests := true, laidLooks := .later }
def JSONWalkUptoCardSaid : Prop := Claim7.holds Tryz.pinned (.plain (OpenSpec.upto jSONWalkSpec)) jSONWalkUptoCard
end Rows
end Go.Proofs.YtfdodndagakmmaaGreatDoor
