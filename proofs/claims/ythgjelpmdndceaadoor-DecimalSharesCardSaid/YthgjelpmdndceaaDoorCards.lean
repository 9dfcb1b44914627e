/-
  DERIVED. GIVEN WITH THE SEED: THE CARDS: each row of YthgjelpmdndceaaDoorRows.lean that lists a variable, with what it lists TIED to the program's text (the seventh form; the later family's looks); each row that meets fmt, with fmt's text TOLD by the authors' own Lean function (tested against real Go, not proved from fmt's source: count such statements apart). THE CARD IS WHAT COUNTS. Prove the row's statement (the work); the ties are given (YthgjelpmdndceaaDoorTie.lean); close each card by the builder's one call (the guide's Derived/Test/ToyasCard.lean, 'card_holds'). Laid BY PROGRAM, IN A SANDBOX (cutbox-door.mjs). By AI agents, Wed Nov 11 2026. No macro, syntax, notation, axiom, sorry.
-/
import Derived.Test.YthgjelpmdndceaaDoorRows
import GoSem.ClaimSeven
namespace Go.Proofs.YthgjelpmdndceaaDoor
namespace Rows

/-- THE TIED CARD OF 'lexiconlaw07.DecimalShares'. -/
def decimalSharesCard : Claim7 := { stood := { row := decimalSharesRow, standIns := [], harness := (true, "a4d5ffb87ba2020fc0dc29bf2818ecbeaf1427c413a0f25f61018e9eb2b1ec68"), looks := true }, kinds := [], alts := [], laidByText := true, laidKinds := [.data, .data, .data, .sentinel, .sentinel], laidTests := true, laidLooks := .later }
def DecimalSharesCardSaid : Prop := Claim7.holds Tryd.pinned (.plain (OpenSpec.ofChange decimalSharesSpec)) decimalSharesCard

/-- THE SECOND FORM's CARD OF 'lexiconlaw07.DecimalShares'. -/
def decimalSharesUptoCard : Claim7 := { stood := { row := decimalSharesUptoRow, standIns := [], harness := (true, "a4d5ffb87ba2020fc0dc29bf2818ecbeaf1427c413a0f25f61018e9eb2b1ec68"), looks := true }, kinds := [], alts := [], laidByText := true, laidKinds := [.data, .data, .data, .sentinel, .sentinel], laidTests := true, laidLooks := .later }
def DecimalSharesUptoCardSaid : Prop := Claim7.holds Tryd.pinned (.plain (OpenSpec.upto decimalSharesSpec)) decimalSharesUptoCard
end Rows
end Go.Proofs.YthgjelpmdndceaaDoor
