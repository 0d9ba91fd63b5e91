/-
  DERIVED. GIVEN WITH THE SEED: THE CARDS: each row of YtbcnnjifndmdpaaDoorRows.lean that lists a variable, with what it lists TIED to the program's text (the seventh form; the later family's looks); each row that meets fmt, with fmt's text TOLD by the authors' own Lean function (tested against real Go, not proved from fmt's source: count such statements apart). THE CARD IS WHAT COUNTS. Prove the row's statement (the work); the ties are given (YtbcnnjifndmdpaaDoorTie.lean); close each card by the builder's one call (the guide's Derived/Test/ToyasCard.lean, 'card_holds'). Laid BY PROGRAM, IN A SANDBOX (cutbox-door.mjs). By AI agents, Wed Nov 11 2026. No macro, syntax, notation, axiom, sorry.
-/
import Derived.Test.YtbcnnjifndmdpaaDoorRows
import GoSem.ClaimSeven
namespace Go.Proofs.YtbcnnjifndmdpaaDoor
namespace Rows

/-- THE TIED CARD OF 'wayfinderlaw06.IdnaFixed'. -/
def idnaFixedCard : Claim7 := { stood := { row := idnaFixedRow, standIns := [], harness := (true, "9f1f6fad03ad3cb8654021380d272cd24eb18b4e19b0e669263027edbd0baf08"), looks := false }, kinds := [], alts := [], laidByText := true, laidKinds := [.data, .pinned], laidTests := true, laidLooks := .later }
def IdnaFixedCardSaid : Prop := Claim7.holds Tryd.pinned (.plain (OpenSpec.ofChange idnaFixedSpec)) idnaFixedCard

/-- THE SECOND FORM's CARD OF 'wayfinderlaw06.IdnaFixed'. -/
def idnaFixedUptoCard : Claim7 := { stood := { row := idnaFixedUptoRow, standIns := [], harness := (true, "9f1f6fad03ad3cb8654021380d272cd24eb18b4e19b0e669263027edbd0baf08"), looks := false }, kinds := [], alts := [], laidByText := true, laidKinds := [.data, .pinned], laidTests := true, laidLooks := .later }
def IdnaFixedUptoCardSaid : Prop := Claim7.holds Tryd.pinned (.plain (OpenSpec.upto idnaFixedSpec)) idnaFixedUptoCard
end Rows
end Go.Proofs.YtbcnnjifndmdpaaDoor
