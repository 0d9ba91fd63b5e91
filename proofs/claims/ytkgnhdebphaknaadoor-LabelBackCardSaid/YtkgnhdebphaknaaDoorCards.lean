/-
  DERIVED. GIVEN WITH THE SEED: THE CARDS: each row of YtkgnhdebphaknaaDoorRows.lean that lists a variable, with what it lists TIED to the program's text (the seventh form; the later family's looks); each row that meets fmt, with fmt's text TOLD by the authors' own Lean function (tested against real Go, not proved from fmt's source: count such statements apart). THE CARD IS WHAT COUNTS. Prove the row's statement (the work); the ties are given (YtkgnhdebphaknaaDoorTie.lean); close each card by the builder's one call (the guide's Derived/Test/ToyasCard.lean, 'card_holds'). Laid BY PROGRAM, IN A SANDBOX (cutbox-door.mjs). By AI agents, Wed Nov 11 2026. No macro, syntax, notation, axiom, sorry.
-/
import Derived.Test.YtkgnhdebphaknaaDoorRows
import GoSem.ClaimSeven
namespace Go.Proofs.YtkgnhdebphaknaaDoor
namespace Rows

/-- THE TIED CARD OF 'wayfinderlaw04.LabelDoes'. -/
def labelDoesCard : Claim7 := { stood := { row := labelDoesRow, standIns := [], harness := (true, "4ef5843e251ce0cb5cb5c54238ceadd3c47fdc5980b6408028bf338d8297d839"), looks := false }, kinds := [], alts := [], laidByText := true, laidKinds := [.data, .pinned], laidTests := true, laidLooks := .later }
def LabelDoesCardSaid : Prop := Claim7.holds Tryd.pinned (.plain (OpenSpec.ofChange labelDoesSpec)) labelDoesCard

/-- THE TIED CARD OF 'wayfinderlaw04.LabelFixed'. -/
def labelFixedCard : Claim7 := { stood := { row := labelFixedRow, standIns := [], harness := (true, "4ef5843e251ce0cb5cb5c54238ceadd3c47fdc5980b6408028bf338d8297d839"), looks := false }, kinds := [], alts := [], laidByText := true, laidKinds := [.data, .pinned], laidTests := true, laidLooks := .later }
def LabelFixedCardSaid : Prop := Claim7.holds Tryd.pinned (.plain (OpenSpec.ofChange labelFixedSpec)) labelFixedCard

/-- THE TIED CARD OF 'wayfinderlaw04.LabelBack'. -/
def labelBackCard : Claim7 := { stood := { row := labelBackRow, standIns := [], harness := (true, "4ef5843e251ce0cb5cb5c54238ceadd3c47fdc5980b6408028bf338d8297d839"), looks := false }, kinds := [], alts := [], laidByText := true, laidKinds := [.data, .pinned], laidTests := true, laidLooks := .later }
def LabelBackCardSaid : Prop := Claim7.holds Tryd.pinned (.plain (OpenSpec.ofChange labelBackSpec)) labelBackCard

/-- THE SECOND FORM's CARD OF 'wayfinderlaw04.LabelDoes'. -/
def labelDoesUptoCard : Claim7 := { stood := { row := labelDoesUptoRow, standIns := [], harness := (true, "4ef5843e251ce0cb5cb5c54238ceadd3c47fdc5980b6408028bf338d8297d839"), looks := false }, kinds := [], alts := [], laidByText := true, laidKinds := [.data, .pinned], laidTests := true, laidLooks := .later }
def LabelDoesUptoCardSaid : Prop := Claim7.holds Tryd.pinned (.plain (OpenSpec.upto labelDoesSpec)) labelDoesUptoCard

/-- THE SECOND FORM's CARD OF 'wayfinderlaw04.LabelFixed'. -/
def labelFixedUptoCard : Claim7 := { stood := { row := labelFixedUptoRow, standIns := [], harness := (true, "4ef5843e251ce0cb5cb5c54238ceadd3c47fdc5980b6408028bf338d8297d839"), looks := false }, kinds := [], alts := [], laidByText := true, laidKinds := [.data, .pinned], laidTests := true, laidLooks := .later }
def LabelFixedUptoCardSaid : Prop := Claim7.holds Tryd.pinned (.plain (OpenSpec.upto labelFixedSpec)) labelFixedUptoCard

/-- THE SECOND FORM's CARD OF 'wayfinderlaw04.LabelBack'. -/
def labelBackUptoCard : Claim7 := { stood := { row := labelBackUptoRow, standIns := [], harness := (true, "4ef5843e251ce0cb5cb5c54238ceadd3c47fdc5980b6408028bf338d8297d839"), looks := false }, kinds := [], alts := [], laidByText := true, laidKinds := [.data, .pinned], laidTests := true, laidLooks := .later }
def LabelBackUptoCardSaid : Prop := Claim7.holds Tryd.pinned (.plain (OpenSpec.upto labelBackSpec)) labelBackUptoCard
end Rows
end Go.Proofs.YtkgnhdebphaknaaDoor
