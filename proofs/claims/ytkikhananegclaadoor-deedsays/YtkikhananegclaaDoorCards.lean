/-
  DERIVED. GIVEN WITH THE SEED: THE CARDS: each row of YtkikhananegclaaDoorRows.lean that lists a variable, with what it lists TIED to the program's text (the seventh form; the later family's looks); each row that meets fmt, with fmt's text TOLD by the authors' own Lean function (tested against real Go, not proved from fmt's source: count such statements apart). THE CARD IS WHAT COUNTS. Prove the row's statement (the work); the ties are given (YtkikhananegclaaDoorTie.lean); close each card by the builder's one call (the guide's Derived/Test/ToyasCard.lean, 'card_holds'). Laid BY PROGRAM, IN A SANDBOX (cutbox-door.mjs). By AI agents, Wed Nov 11 2026. No macro, syntax, notation, axiom, sorry.
-/
import Derived.Test.YtkikhananegclaaDoorRows
import GoSem.ClaimSeven
namespace Go.Proofs.YtkikhananegclaaDoor
namespace Rows

/-- THE TIED CARD OF 'rolaw.DeedSays'. -/
def deedSaysCard : Claim7 := { stood := { row := deedSaysRow, standIns := [], harness := (true, "1f5220e3ddbf478955989e4efb623017f99e93b59bed6b23e1f830f0d8a1cfe7"), looks := false }, kinds := [], alts := [], laidByText := true, laidKinds := [.data, .pinned], laidTests := true, laidLooks := .later }
def DeedSaysCardSaid : Prop := Claim7.holds Tryd.pinned (.plain (OpenSpec.ofChange deedSaysSpec)) deedSaysCard

/-- THE TIED CARD OF 'rolaw.DeedRuns'. -/
def deedRunsCard : Claim7 := { stood := { row := deedRunsRow, standIns := [], harness := (true, "1f5220e3ddbf478955989e4efb623017f99e93b59bed6b23e1f830f0d8a1cfe7"), looks := false }, kinds := [], alts := [], laidByText := true, laidKinds := [.data, .pinned], laidTests := true, laidLooks := .later }
def DeedRunsCardSaid : Prop := Claim7.holds Tryd.pinned (.plain (OpenSpec.ofChange deedRunsSpec)) deedRunsCard

/-- THE SECOND FORM's CARD OF 'rolaw.DeedSays'. -/
def deedSaysUptoCard : Claim7 := { stood := { row := deedSaysUptoRow, standIns := [], harness := (true, "1f5220e3ddbf478955989e4efb623017f99e93b59bed6b23e1f830f0d8a1cfe7"), looks := false }, kinds := [], alts := [], laidByText := true, laidKinds := [.data, .pinned], laidTests := true, laidLooks := .later }
def DeedSaysUptoCardSaid : Prop := Claim7.holds Tryd.pinned (.plain (OpenSpec.upto deedSaysSpec)) deedSaysUptoCard

/-- THE SECOND FORM's CARD OF 'rolaw.DeedRuns'. -/
def deedRunsUptoCard : Claim7 := { stood := { row := deedRunsUptoRow, standIns := [], harness := (true, "1f5220e3ddbf478955989e4efb623017f99e93b59bed6b23e1f830f0d8a1cfe7"), looks := false }, kinds := [], alts := [], laidByText := true, laidKinds := [.data, .pinned], laidTests := true, laidLooks := .later }
def DeedRunsUptoCardSaid : Prop := Claim7.holds Tryd.pinned (.plain (OpenSpec.upto deedRunsSpec)) deedRunsUptoCard
end Rows
end Go.Proofs.YtkikhananegclaaDoor
