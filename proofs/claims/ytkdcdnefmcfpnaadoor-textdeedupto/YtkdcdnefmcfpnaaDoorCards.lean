/-
  DERIVED. GIVEN WITH THE SEED: THE CARDS: each row of YtkdcdnefmcfpnaaDoorRows.lean that lists a variable, with what it lists TIED to the program's text (the seventh form; the later family's looks); each row that meets fmt, with fmt's text TOLD by the authors' own Lean function (tested against real Go, not proved from fmt's source: count such statements apart). THE CARD IS WHAT COUNTS. Prove the row's statement (the work); the ties are given (YtkdcdnefmcfpnaaDoorTie.lean); close each card by the builder's one call (the guide's Derived/Test/ToyasCard.lean, 'card_holds'). Laid BY PROGRAM, IN A SANDBOX (cutbox-door.mjs). By AI agents, Wed Nov 11 2026. No macro, syntax, notation, axiom, sorry.
-/
import Derived.Test.YtkdcdnefmcfpnaaDoorRows
import GoSem.ClaimSeven
namespace Go.Proofs.YtkdcdnefmcfpnaaDoor
namespace Rows

/-- THE TIED CARD OF 'rokeep.TextDeed'. -/
def textDeedCard : Claim7 := { stood := { row := textDeedRow, standIns := [], harness := (true, "116897929969fe277ca08f2f4f8f48ef82aa7dbecd2fe0d2722f12db4d8278c1"), looks := true }, kinds := [], alts := [], laidByText := true, laidKinds := [.data, .data, .data, .data, .sentinel, .sentinel, .pinned], laidTests := true, laidLooks := .later }
def TextDeedCardSaid : Prop := Claim7.holds Tryd.pinned (.plain (OpenSpec.ofChange textDeedSpec)) textDeedCard

/-- THE TIED CARD OF 'rokeep.TextMap'. -/
def textMapCard : Claim7 := { stood := { row := textMapRow, standIns := [], harness := (true, "116897929969fe277ca08f2f4f8f48ef82aa7dbecd2fe0d2722f12db4d8278c1"), looks := true }, kinds := [], alts := [], laidByText := true, laidKinds := [.data, .data, .data, .data, .sentinel, .sentinel, .pinned], laidTests := true, laidLooks := .later }
def TextMapCardSaid : Prop := Claim7.holds Tryd.pinned (.plain (OpenSpec.ofChange textMapSpec)) textMapCard

/-- THE SECOND FORM's CARD OF 'rokeep.TextDeed'. -/
def textDeedUptoCard : Claim7 := { stood := { row := textDeedUptoRow, standIns := [], harness := (true, "116897929969fe277ca08f2f4f8f48ef82aa7dbecd2fe0d2722f12db4d8278c1"), looks := true }, kinds := [], alts := [], laidByText := true, laidKinds := [.data, .data, .data, .data, .sentinel, .sentinel, .pinned], laidTests := true, laidLooks := .later }
def TextDeedUptoCardSaid : Prop := Claim7.holds Tryd.pinned (.plain (OpenSpec.upto textDeedSpec)) textDeedUptoCard

/-- THE SECOND FORM's CARD OF 'rokeep.TextMap'. -/
def textMapUptoCard : Claim7 := { stood := { row := textMapUptoRow, standIns := [], harness := (true, "116897929969fe277ca08f2f4f8f48ef82aa7dbecd2fe0d2722f12db4d8278c1"), looks := true }, kinds := [], alts := [], laidByText := true, laidKinds := [.data, .data, .data, .data, .sentinel, .sentinel, .pinned], laidTests := true, laidLooks := .later }
def TextMapUptoCardSaid : Prop := Claim7.holds Tryd.pinned (.plain (OpenSpec.upto textMapSpec)) textMapUptoCard
end Rows
end Go.Proofs.YtkdcdnefmcfpnaaDoor
