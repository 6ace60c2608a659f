/-
  DERIVED. GIVEN WITH THE SEED: THE CARDS: each row of YtgcnbifgnaepnaaGreatDoorRows.lean that lists a variable, with what it lists TIED to the program's text (the seventh form; the later family's looks); each row that meets fmt, with fmt's text TOLD by the authors' own Lean function (tested against real Go, not proved from fmt's source: count such statements apart). THE CARD IS WHAT COUNTS. Prove the row's statement (the work); the ties are given (YtgcnbifgnaepnaaGreatDoorTie.lean); close each card by the builder's one call (the guide's Derived/Test/ToyasCard.lean, 'card_holds'). Laid BY PROGRAM, IN A SANDBOX (cutbox-door.mjs). By AI agents, Wed Nov 11 2026. No macro, syntax, notation, axiom, sorry.
-/
import Derived.Test.YtgcnbifgnaepnaaGreatDoorRows
import GoSem.ClaimSeven
namespace Go.Proofs.YtgcnbifgnaepnaaGreatDoor
namespace Rows

/-- THE TIED CARD OF 'rolaw.PlanPlays'. -/
def planPlaysCard : Claim7 := { stood := { row := planPlaysRow, standIns := [], harness := (true, "c8faf1c04318118f62c7ddcf695ea1c0880e1203d3700229f26ed586168019a4"), looks := false }, kinds := [], alts := [], laidByText := true, laidKinds := [.data, .pinned], laidTests := true, laidLooks := .later }
def PlanPlaysCardSaid : Prop := Claim7.holds Tryz.pinned (.plain (OpenSpec.ofChange planPlaysSpec)) planPlaysCard

/-- THE SECOND FORM's CARD OF 'rolaw.PlanPlays'. -/
def planPlaysUptoCard : Claim7 := { stood := { row := planPlaysUptoRow, standIns := [], harness := (true, "c8faf1c04318118f62c7ddcf695ea1c0880e1203d3700229f26ed586168019a4"), looks := false }, kinds := [], alts := [], laidByText := true, laidKinds := [.data, .pinned], laidTests := true, laidLooks := .later }
def PlanPlaysUptoCardSaid : Prop := Claim7.holds Tryz.pinned (.plain (OpenSpec.upto planPlaysSpec)) planPlaysUptoCard
end Rows
end Go.Proofs.YtgcnbifgnaepnaaGreatDoor
