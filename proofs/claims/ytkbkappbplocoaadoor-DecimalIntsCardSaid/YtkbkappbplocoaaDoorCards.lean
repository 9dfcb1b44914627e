/-
  DERIVED. GIVEN WITH THE SEED: THE CARDS: each row of YtkbkappbplocoaaDoorRows.lean that lists a variable, with what it lists TIED to the program's text (the seventh form; the later family's looks); each row that meets fmt, with fmt's text TOLD by the authors' own Lean function (tested against real Go, not proved from fmt's source: count such statements apart). THE CARD IS WHAT COUNTS. Prove the row's statement (the work); the ties are given (YtkbkappbplocoaaDoorTie.lean); close each card by the builder's one call (the guide's Derived/Test/ToyasCard.lean, 'card_holds'). Laid BY PROGRAM, IN A SANDBOX (cutbox-door.mjs). By AI agents, Wed Nov 11 2026. No macro, syntax, notation, axiom, sorry.
-/
import Derived.Test.YtkbkappbplocoaaDoorRows
import GoSem.ClaimSeven
namespace Go.Proofs.YtkbkappbplocoaaDoor
namespace Rows

/-- THE TIED CARD OF 'lexiconlaw07.DecimalTexts'. -/
def decimalTextsCard : Claim7 := { stood := { row := decimalTextsRow, standIns := [], harness := (true, "c7f6dd52a2d8559ca51b3b3c2bef52e24d4e8bf93cedee373d244b033fbf3ab7"), looks := true }, kinds := [], alts := [], laidByText := true, laidKinds := [.data, .data, .data, .sentinel, .sentinel], laidTests := true, laidLooks := .later }
def DecimalTextsCardSaid : Prop := Claim7.holds Tryd.pinned (.plain (OpenSpec.ofChange decimalTextsSpec)) decimalTextsCard

/-- THE TIED CARD OF 'lexiconlaw07.DecimalInts'. -/
def decimalIntsCard : Claim7 := { stood := { row := decimalIntsRow, standIns := [], harness := (true, "c7f6dd52a2d8559ca51b3b3c2bef52e24d4e8bf93cedee373d244b033fbf3ab7"), looks := true }, kinds := [], alts := [], laidByText := true, laidKinds := [.data, .data, .data, .sentinel, .sentinel], laidTests := true, laidLooks := .later }
def DecimalIntsCardSaid : Prop := Claim7.holds Tryd.pinned (.plain (OpenSpec.ofChange decimalIntsSpec)) decimalIntsCard

/-- THE TIED CARD OF 'lexiconlaw07.DecimalBounds'. -/
def decimalBoundsCard : Claim7 := { stood := { row := decimalBoundsRow, standIns := [], harness := (true, "c7f6dd52a2d8559ca51b3b3c2bef52e24d4e8bf93cedee373d244b033fbf3ab7"), looks := true }, kinds := [], alts := [], laidByText := true, laidKinds := [.data, .data, .data, .sentinel, .sentinel], laidTests := true, laidLooks := .later }
def DecimalBoundsCardSaid : Prop := Claim7.holds Tryd.pinned (.plain (OpenSpec.ofChange decimalBoundsSpec)) decimalBoundsCard

/-- THE TIED CARD OF 'lexiconlaw07.DecimalBack'. -/
def decimalBackCard : Claim7 := { stood := { row := decimalBackRow, standIns := [], harness := (true, "c7f6dd52a2d8559ca51b3b3c2bef52e24d4e8bf93cedee373d244b033fbf3ab7"), looks := true }, kinds := [], alts := [], laidByText := true, laidKinds := [.data, .data, .data, .sentinel, .sentinel], laidTests := true, laidLooks := .later }
def DecimalBackCardSaid : Prop := Claim7.holds Tryd.pinned (.plain (OpenSpec.ofChange decimalBackSpec)) decimalBackCard

/-- THE TIED CARD OF 'lexiconlaw07.DecimalOrder'. -/
def decimalOrderCard : Claim7 := { stood := { row := decimalOrderRow, standIns := [], harness := (true, "c7f6dd52a2d8559ca51b3b3c2bef52e24d4e8bf93cedee373d244b033fbf3ab7"), looks := true }, kinds := [], alts := [], laidByText := true, laidKinds := [.data, .data, .data, .sentinel, .sentinel], laidTests := true, laidLooks := .later }
def DecimalOrderCardSaid : Prop := Claim7.holds Tryd.pinned (.plain (OpenSpec.ofChange decimalOrderSpec)) decimalOrderCard

/-- THE TIED CARD OF 'lexiconlaw07.DecimalShares'. -/
def decimalSharesCard : Claim7 := { stood := { row := decimalSharesRow, standIns := [], harness := (true, "c7f6dd52a2d8559ca51b3b3c2bef52e24d4e8bf93cedee373d244b033fbf3ab7"), looks := true }, kinds := [], alts := [], laidByText := true, laidKinds := [.data, .data, .data, .sentinel, .sentinel], laidTests := true, laidLooks := .later }
def DecimalSharesCardSaid : Prop := Claim7.holds Tryd.pinned (.plain (OpenSpec.ofChange decimalSharesSpec)) decimalSharesCard

/-- THE SECOND FORM's CARD OF 'lexiconlaw07.DecimalTexts'. -/
def decimalTextsUptoCard : Claim7 := { stood := { row := decimalTextsUptoRow, standIns := [], harness := (true, "c7f6dd52a2d8559ca51b3b3c2bef52e24d4e8bf93cedee373d244b033fbf3ab7"), looks := true }, kinds := [], alts := [], laidByText := true, laidKinds := [.data, .data, .data, .sentinel, .sentinel], laidTests := true, laidLooks := .later }
def DecimalTextsUptoCardSaid : Prop := Claim7.holds Tryd.pinned (.plain (OpenSpec.upto decimalTextsSpec)) decimalTextsUptoCard

/-- THE SECOND FORM's CARD OF 'lexiconlaw07.DecimalInts'. -/
def decimalIntsUptoCard : Claim7 := { stood := { row := decimalIntsUptoRow, standIns := [], harness := (true, "c7f6dd52a2d8559ca51b3b3c2bef52e24d4e8bf93cedee373d244b033fbf3ab7"), looks := true }, kinds := [], alts := [], laidByText := true, laidKinds := [.data, .data, .data, .sentinel, .sentinel], laidTests := true, laidLooks := .later }
def DecimalIntsUptoCardSaid : Prop := Claim7.holds Tryd.pinned (.plain (OpenSpec.upto decimalIntsSpec)) decimalIntsUptoCard

/-- THE SECOND FORM's CARD OF 'lexiconlaw07.DecimalBounds'. -/
def decimalBoundsUptoCard : Claim7 := { stood := { row := decimalBoundsUptoRow, standIns := [], harness := (true, "c7f6dd52a2d8559ca51b3b3c2bef52e24d4e8bf93cedee373d244b033fbf3ab7"), looks := true }, kinds := [], alts := [], laidByText := true, laidKinds := [.data, .data, .data, .sentinel, .sentinel], laidTests := true, laidLooks := .later }
def DecimalBoundsUptoCardSaid : Prop := Claim7.holds Tryd.pinned (.plain (OpenSpec.upto decimalBoundsSpec)) decimalBoundsUptoCard

/-- THE SECOND FORM's CARD OF 'lexiconlaw07.DecimalBack'. -/
def decimalBackUptoCard : Claim7 := { stood := { row := decimalBackUptoRow, standIns := [], harness := (true, "c7f6dd52a2d8559ca51b3b3c2bef52e24d4e8bf93cedee373d244b033fbf3ab7"), looks := true }, kinds := [], alts := [], laidByText := true, laidKinds := [.data, .data, .data, .sentinel, .sentinel], laidTests := true, laidLooks := .later }
def DecimalBackUptoCardSaid : Prop := Claim7.holds Tryd.pinned (.plain (OpenSpec.upto decimalBackSpec)) decimalBackUptoCard

/-- THE SECOND FORM's CARD OF 'lexiconlaw07.DecimalOrder'. -/
def decimalOrderUptoCard : Claim7 := { stood := { row := decimalOrderUptoRow, standIns := [], harness := (true, "c7f6dd52a2d8559ca51b3b3c2bef52e24d4e8bf93cedee373d244b033fbf3ab7"), looks := true }, kinds := [], alts := [], laidByText := true, laidKinds := [.data, .data, .data, .sentinel, .sentinel], laidTests := true, laidLooks := .later }
def DecimalOrderUptoCardSaid : Prop := Claim7.holds Tryd.pinned (.plain (OpenSpec.upto decimalOrderSpec)) decimalOrderUptoCard

/-- THE SECOND FORM's CARD OF 'lexiconlaw07.DecimalShares'. -/
def decimalSharesUptoCard : Claim7 := { stood := { row := decimalSharesUptoRow, standIns := [], harness := (true, "c7f6dd52a2d8559ca51b3b3c2bef52e24d4e8bf93cedee373d244b033fbf3ab7"), looks := true }, kinds := [], alts := [], laidByText := true, laidKinds := [.data, .data, .data, .sentinel, .sentinel], laidTests := true, laidLooks := .later }
def DecimalSharesUptoCardSaid : Prop := Claim7.holds Tryd.pinned (.plain (OpenSpec.upto decimalSharesSpec)) decimalSharesUptoCard
end Rows
end Go.Proofs.YtkbkappbplocoaaDoor
