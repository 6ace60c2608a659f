/-
  DERIVED. GIVEN WITH THE SEED: THE CARDS: each row of YtikklfoenjmdgaaDoorRows.lean that lists a variable, with what it lists TIED to the program's text (the seventh form; the later family's looks); each row that meets fmt, with fmt's text TOLD by the authors' own Lean function (tested against real Go, not proved from fmt's source: count such statements apart). THE CARD IS WHAT COUNTS. Prove the row's statement (the work); the ties are given (YtikklfoenjmdgaaDoorTie.lean); close each card by the builder's one call (the guide's Derived/Test/ToyasCard.lean, 'card_holds'). Laid BY PROGRAM, IN A SANDBOX (cutbox-door.mjs). By AI agents, Wed Nov 11 2026. No macro, syntax, notation, axiom, sorry.
-/
import Derived.Test.YtikklfoenjmdgaaDoorRows
import GoSem.ClaimSeven
namespace Go.Proofs.YtikklfoenjmdgaaDoor
namespace Rows

/-- THE TIED CARD OF 'rolaw.StoreSays'. -/
def storeSaysCard : Claim7 := { stood := { row := storeSaysRow, standIns := [], harness := (true, "04720d4bb3c5b2e0134af5312240150cbbe24ac04bb443e1db6e1a080a3df743"), looks := false }, kinds := [], alts := [], laidByText := true, laidKinds := [.data, .pinned], laidTests := true, laidLooks := .later }
def StoreSaysCardSaid : Prop := Claim7.holds Tryd.pinned (.plain (OpenSpec.ofChange storeSaysSpec)) storeSaysCard

/-- THE TIED CARD OF 'rolaw.StoreJoins'. -/
def storeJoinsCard : Claim7 := { stood := { row := storeJoinsRow, standIns := [], harness := (true, "04720d4bb3c5b2e0134af5312240150cbbe24ac04bb443e1db6e1a080a3df743"), looks := false }, kinds := [], alts := [], laidByText := true, laidKinds := [.data, .pinned], laidTests := true, laidLooks := .later }
def StoreJoinsCardSaid : Prop := Claim7.holds Tryd.pinned (.plain (OpenSpec.ofChange storeJoinsSpec)) storeJoinsCard

/-- THE SECOND FORM's CARD OF 'rolaw.StoreSays'. -/
def storeSaysUptoCard : Claim7 := { stood := { row := storeSaysUptoRow, standIns := [], harness := (true, "04720d4bb3c5b2e0134af5312240150cbbe24ac04bb443e1db6e1a080a3df743"), looks := false }, kinds := [], alts := [], laidByText := true, laidKinds := [.data, .pinned], laidTests := true, laidLooks := .later }
def StoreSaysUptoCardSaid : Prop := Claim7.holds Tryd.pinned (.plain (OpenSpec.upto storeSaysSpec)) storeSaysUptoCard

/-- THE SECOND FORM's CARD OF 'rolaw.StoreJoins'. -/
def storeJoinsUptoCard : Claim7 := { stood := { row := storeJoinsUptoRow, standIns := [], harness := (true, "04720d4bb3c5b2e0134af5312240150cbbe24ac04bb443e1db6e1a080a3df743"), looks := false }, kinds := [], alts := [], laidByText := true, laidKinds := [.data, .pinned], laidTests := true, laidLooks := .later }
def StoreJoinsUptoCardSaid : Prop := Claim7.holds Tryd.pinned (.plain (OpenSpec.upto storeJoinsSpec)) storeJoinsUptoCard
end Rows
end Go.Proofs.YtikklfoenjmdgaaDoor
