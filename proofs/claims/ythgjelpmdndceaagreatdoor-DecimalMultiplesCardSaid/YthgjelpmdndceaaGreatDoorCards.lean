/-
  DERIVED. GIVEN WITH THE SEED: THE CARDS: each row of YthgjelpmdndceaaGreatDoorRows.lean that lists a variable, with what it lists TIED to the program's text (the seventh form; the later family's looks); each row that meets fmt, with fmt's text TOLD by the authors' own Lean function (tested against real Go, not proved from fmt's source: count such statements apart). THE CARD IS WHAT COUNTS. Prove the row's statement (the work); the ties are given (YthgjelpmdndceaaGreatDoorTie.lean); close each card by the builder's one call (the guide's Derived/Test/ToyasCard.lean, 'card_holds'). Laid BY PROGRAM, IN A SANDBOX (cutbox-door.mjs). By AI agents, Wed Nov 11 2026. No macro, syntax, notation, axiom, sorry.
-/
import Derived.Test.YthgjelpmdndceaaGreatDoorRows
import GoSem.ClaimSeven
namespace Go.Proofs.YthgjelpmdndceaaGreatDoor
namespace Rows

/-- THE TIED CARD OF 'lexiconlaw07.DecimalSums'. -/
def decimalSumsCard : Claim7 := { stood := { row := decimalSumsRow, standIns := [], harness := (true, "919e494698f9bf57d3ae65e18e901b6c6bb5ae84b880fe2bb9485eee512fb0d5"), looks := true }, kinds := [], alts := [], laidByText := true, laidKinds := [.data, .data, .data, .sentinel, .sentinel], laidTests := true, laidLooks := .later }
def DecimalSumsCardSaid : Prop := Claim7.holds Tryz.pinned (.plain (OpenSpec.ofChange decimalSumsSpec)) decimalSumsCard

/-- THE TIED CARD OF 'lexiconlaw07.DecimalMultiples'. -/
def decimalMultiplesCard : Claim7 := { stood := { row := decimalMultiplesRow, standIns := [], harness := (true, "919e494698f9bf57d3ae65e18e901b6c6bb5ae84b880fe2bb9485eee512fb0d5"), looks := true }, kinds := [], alts := [], laidByText := true, laidKinds := [.data, .data, .data, .sentinel, .sentinel], laidTests := true, laidLooks := .later }
def DecimalMultiplesCardSaid : Prop := Claim7.holds Tryz.pinned (.plain (OpenSpec.ofChange decimalMultiplesSpec)) decimalMultiplesCard

/-- THE SECOND FORM's CARD OF 'lexiconlaw07.DecimalSums'. -/
def decimalSumsUptoCard : Claim7 := { stood := { row := decimalSumsUptoRow, standIns := [], harness := (true, "919e494698f9bf57d3ae65e18e901b6c6bb5ae84b880fe2bb9485eee512fb0d5"), looks := true }, kinds := [], alts := [], laidByText := true, laidKinds := [.data, .data, .data, .sentinel, .sentinel], laidTests := true, laidLooks := .later }
def DecimalSumsUptoCardSaid : Prop := Claim7.holds Tryz.pinned (.plain (OpenSpec.upto decimalSumsSpec)) decimalSumsUptoCard

/-- THE SECOND FORM's CARD OF 'lexiconlaw07.DecimalMultiples'. -/
def decimalMultiplesUptoCard : Claim7 := { stood := { row := decimalMultiplesUptoRow, standIns := [], harness := (true, "919e494698f9bf57d3ae65e18e901b6c6bb5ae84b880fe2bb9485eee512fb0d5"), looks := true }, kinds := [], alts := [], laidByText := true, laidKinds := [.data, .data, .data, .sentinel, .sentinel], laidTests := true, laidLooks := .later }
def DecimalMultiplesUptoCardSaid : Prop := Claim7.holds Tryz.pinned (.plain (OpenSpec.upto decimalMultiplesSpec)) decimalMultiplesUptoCard
end Rows
end Go.Proofs.YthgjelpmdndceaaGreatDoor
