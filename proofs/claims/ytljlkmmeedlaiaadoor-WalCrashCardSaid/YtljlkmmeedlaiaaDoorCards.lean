/-
  DERIVED. GIVEN WITH THE SEED: THE CARDS: each row of YtljlkmmeedlaiaaDoorRows.lean that lists a variable, with what it lists TIED to the program's text (the seventh form; the later family's looks); each row that meets fmt, with fmt's text TOLD by the authors' own Lean function (tested against real Go, not proved from fmt's source: count such statements apart). THE CARD IS WHAT COUNTS. Prove the row's statement (the work); the ties are given (YtljlkmmeedlaiaaDoorTie.lean); close each card by the builder's one call (the guide's Derived/Test/ToyasCard.lean, 'card_holds'). Laid BY PROGRAM, IN A SANDBOX (cutbox-door.mjs). By AI agents, Wed Nov 11 2026. No macro, syntax, notation, axiom, sorry.
-/
import Derived.Test.YtljlkmmeedlaiaaDoorRows
import GoSem.ClaimSeven
namespace Go.Proofs.YtljlkmmeedlaiaaDoor
namespace Rows

/-- THE TIED CARD OF 'lexiconlaw03.WalPlay'. -/
def walPlayCard : Claim7 := { stood := { row := walPlayRow, standIns := [], harness := (true, "a00cbd468dffe2d907f3f2030ebc9f83e6639e93804eedf532c2cb32a48c7670"), looks := true }, kinds := [], alts := [], laidByText := true, laidKinds := [.data], laidTests := true, laidLooks := .later }
def WalPlayCardSaid : Prop := Claim7.holds Tryd.pinned (.plain (OpenSpec.ofChange walPlaySpec)) walPlayCard

/-- THE TIED CARD OF 'lexiconlaw03.WalCrash'. -/
def walCrashCard : Claim7 := { stood := { row := walCrashRow, standIns := [], harness := (true, "a00cbd468dffe2d907f3f2030ebc9f83e6639e93804eedf532c2cb32a48c7670"), looks := true }, kinds := [], alts := [], laidByText := true, laidKinds := [.data], laidTests := true, laidLooks := .later }
def WalCrashCardSaid : Prop := Claim7.holds Tryd.pinned (.plain (OpenSpec.ofChange walCrashSpec)) walCrashCard

/-- THE TIED CARD OF 'lexiconlaw03.WalNil'. -/
def walNilCard : Claim7 := { stood := { row := walNilRow, standIns := [], harness := (true, "a00cbd468dffe2d907f3f2030ebc9f83e6639e93804eedf532c2cb32a48c7670"), looks := true }, kinds := [], alts := [], laidByText := true, laidKinds := [.data], laidTests := true, laidLooks := .later }
def WalNilCardSaid : Prop := Claim7.holds Tryd.pinned (.plain (OpenSpec.ofChange walNilSpec)) walNilCard

/-- THE SECOND FORM's CARD OF 'lexiconlaw03.WalPlay'. -/
def walPlayUptoCard : Claim7 := { stood := { row := walPlayUptoRow, standIns := [], harness := (true, "a00cbd468dffe2d907f3f2030ebc9f83e6639e93804eedf532c2cb32a48c7670"), looks := true }, kinds := [], alts := [], laidByText := true, laidKinds := [.data], laidTests := true, laidLooks := .later }
def WalPlayUptoCardSaid : Prop := Claim7.holds Tryd.pinned (.plain (OpenSpec.upto walPlaySpec)) walPlayUptoCard

/-- THE SECOND FORM's CARD OF 'lexiconlaw03.WalCrash'. -/
def walCrashUptoCard : Claim7 := { stood := { row := walCrashUptoRow, standIns := [], harness := (true, "a00cbd468dffe2d907f3f2030ebc9f83e6639e93804eedf532c2cb32a48c7670"), looks := true }, kinds := [], alts := [], laidByText := true, laidKinds := [.data], laidTests := true, laidLooks := .later }
def WalCrashUptoCardSaid : Prop := Claim7.holds Tryd.pinned (.plain (OpenSpec.upto walCrashSpec)) walCrashUptoCard

/-- THE SECOND FORM's CARD OF 'lexiconlaw03.WalNil'. -/
def walNilUptoCard : Claim7 := { stood := { row := walNilUptoRow, standIns := [], harness := (true, "a00cbd468dffe2d907f3f2030ebc9f83e6639e93804eedf532c2cb32a48c7670"), looks := true }, kinds := [], alts := [], laidByText := true, laidKinds := [.data], laidTests := true, laidLooks := .later }
def WalNilUptoCardSaid : Prop := Claim7.holds Tryd.pinned (.plain (OpenSpec.upto walNilSpec)) walNilUptoCard
end Rows
end Go.Proofs.YtljlkmmeedlaiaaDoor
