/-
  DERIVED. GIVEN WITH THE SEED: THE CARDS: each row of YtkchgjakkogejaaDoorRows.lean that lists a variable, with what it lists TIED to the program's text (the seventh form; the later family's looks); each row that meets fmt, with fmt's text TOLD by the authors' own Lean function (tested against real Go, not proved from fmt's source: count such statements apart). THE CARD IS WHAT COUNTS. Prove the row's statement (the work); the ties are given (YtkchgjakkogejaaDoorTie.lean); close each card by the builder's one call (the guide's Derived/Test/ToyasCard.lean, 'card_holds'). Laid BY PROGRAM, IN A SANDBOX (cutbox-door.mjs). By AI agents, Wed Nov 11 2026. No macro, syntax, notation, axiom, sorry.
-/
import Derived.Test.YtkchgjakkogejaaDoorRows
import GoSem.ClaimSeven
namespace Go.Proofs.YtkchgjakkogejaaDoor
namespace Rows

/-- THE TIED CARD OF 'wayfinderlaw08.ColonParses'. -/
def colonParsesCard : Claim7 := { stood := { row := colonParsesRow, standIns := [], harness := (true, "d52f35b745460c260e5f6e33e834e0b268db094ca3c5241be4921fbbeb35b26c"), looks := false }, kinds := [], alts := [], laidByText := true, laidKinds := [.data, .data, .data, .data, .pinned], laidTests := true, laidLooks := .later }
def ColonParsesCardSaid : Prop := Claim7.holds Tryd.pinned (.plain (OpenSpec.ofChange colonParsesSpec)) colonParsesCard

/-- THE TIED CARD OF 'wayfinderlaw08.ColonBack'. -/
def colonBackCard : Claim7 := { stood := { row := colonBackRow, standIns := [], harness := (true, "d52f35b745460c260e5f6e33e834e0b268db094ca3c5241be4921fbbeb35b26c"), looks := false }, kinds := [], alts := [], laidByText := true, laidKinds := [.data, .data, .data, .data, .pinned], laidTests := true, laidLooks := .later }
def ColonBackCardSaid : Prop := Claim7.holds Tryd.pinned (.plain (OpenSpec.ofChange colonBackSpec)) colonBackCard

/-- THE SECOND FORM's CARD OF 'wayfinderlaw08.ColonParses'. -/
def colonParsesUptoCard : Claim7 := { stood := { row := colonParsesUptoRow, standIns := [], harness := (true, "d52f35b745460c260e5f6e33e834e0b268db094ca3c5241be4921fbbeb35b26c"), looks := false }, kinds := [], alts := [], laidByText := true, laidKinds := [.data, .data, .data, .data, .pinned], laidTests := true, laidLooks := .later }
def ColonParsesUptoCardSaid : Prop := Claim7.holds Tryd.pinned (.plain (OpenSpec.upto colonParsesSpec)) colonParsesUptoCard

/-- THE SECOND FORM's CARD OF 'wayfinderlaw08.ColonBack'. -/
def colonBackUptoCard : Claim7 := { stood := { row := colonBackUptoRow, standIns := [], harness := (true, "d52f35b745460c260e5f6e33e834e0b268db094ca3c5241be4921fbbeb35b26c"), looks := false }, kinds := [], alts := [], laidByText := true, laidKinds := [.data, .data, .data, .data, .pinned], laidTests := true, laidLooks := .later }
def ColonBackUptoCardSaid : Prop := Claim7.holds Tryd.pinned (.plain (OpenSpec.upto colonBackSpec)) colonBackUptoCard
end Rows
end Go.Proofs.YtkchgjakkogejaaDoor
