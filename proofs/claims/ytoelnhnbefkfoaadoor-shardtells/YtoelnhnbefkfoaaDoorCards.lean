/-
  DERIVED. GIVEN WITH THE SEED: THE CARDS: each row of YtoelnhnbefkfoaaDoorRows.lean that lists a variable, with what it lists TIED to the program's text (the seventh form; the later family's looks); each row that meets fmt, with fmt's text TOLD by the authors' own Lean function (tested against real Go, not proved from fmt's source: count such statements apart). THE CARD IS WHAT COUNTS. Prove the row's statement (the work); the ties are given (YtoelnhnbefkfoaaDoorTie.lean); close each card by the builder's one call (the guide's Derived/Test/ToyasCard.lean, 'card_holds'). Laid BY PROGRAM, IN A SANDBOX (cutbox-door.mjs). By AI agents, Wed Nov 11 2026. No macro, syntax, notation, axiom, sorry.
-/
import Derived.Test.YtoelnhnbefkfoaaDoorRows
import GoSem.ClaimSeven
namespace Go.Proofs.YtoelnhnbefkfoaaDoor
namespace Rows

/-- THE TIED CARD OF 'rolaw.ShardSays'. -/
def shardSaysCard : Claim7 := { stood := { row := shardSaysRow, standIns := [], harness := (true, "f69b81cb46cf78bcfa5a5adfc4656a40f39f4a1d0f5bbe2ef7fd89977045dfec"), looks := false }, kinds := [], alts := [], laidByText := true, laidKinds := [.data, .pinned], laidTests := true, laidLooks := .later }
def ShardSaysCardSaid : Prop := Claim7.holds Tryd.pinned (.plain (OpenSpec.ofChange shardSaysSpec)) shardSaysCard

/-- THE TIED CARD OF 'rolaw.ShardTells'. -/
def shardTellsCard : Claim7 := { stood := { row := shardTellsRow, standIns := [], harness := (true, "f69b81cb46cf78bcfa5a5adfc4656a40f39f4a1d0f5bbe2ef7fd89977045dfec"), looks := false }, kinds := [], alts := [], laidByText := true, laidKinds := [.data, .pinned], laidTests := true, laidLooks := .later }
def ShardTellsCardSaid : Prop := Claim7.holds Tryd.pinned (.plain (OpenSpec.ofChange shardTellsSpec)) shardTellsCard

/-- THE TIED CARD OF 'rokeep.ShardFind'. -/
def shardFindCard : Claim7 := { stood := { row := shardFindRow, standIns := [], harness := (true, "f69b81cb46cf78bcfa5a5adfc4656a40f39f4a1d0f5bbe2ef7fd89977045dfec"), looks := false }, kinds := [], alts := [], laidByText := true, laidKinds := [.data, .pinned], laidTests := true, laidLooks := .later }
def ShardFindCardSaid : Prop := Claim7.holds Tryd.pinned (.plain (OpenSpec.ofChange shardFindSpec)) shardFindCard

/-- THE SECOND FORM's CARD OF 'rolaw.ShardSays'. -/
def shardSaysUptoCard : Claim7 := { stood := { row := shardSaysUptoRow, standIns := [], harness := (true, "f69b81cb46cf78bcfa5a5adfc4656a40f39f4a1d0f5bbe2ef7fd89977045dfec"), looks := false }, kinds := [], alts := [], laidByText := true, laidKinds := [.data, .pinned], laidTests := true, laidLooks := .later }
def ShardSaysUptoCardSaid : Prop := Claim7.holds Tryd.pinned (.plain (OpenSpec.upto shardSaysSpec)) shardSaysUptoCard

/-- THE SECOND FORM's CARD OF 'rolaw.ShardTells'. -/
def shardTellsUptoCard : Claim7 := { stood := { row := shardTellsUptoRow, standIns := [], harness := (true, "f69b81cb46cf78bcfa5a5adfc4656a40f39f4a1d0f5bbe2ef7fd89977045dfec"), looks := false }, kinds := [], alts := [], laidByText := true, laidKinds := [.data, .pinned], laidTests := true, laidLooks := .later }
def ShardTellsUptoCardSaid : Prop := Claim7.holds Tryd.pinned (.plain (OpenSpec.upto shardTellsSpec)) shardTellsUptoCard

/-- THE SECOND FORM's CARD OF 'rokeep.ShardFind'. -/
def shardFindUptoCard : Claim7 := { stood := { row := shardFindUptoRow, standIns := [], harness := (true, "f69b81cb46cf78bcfa5a5adfc4656a40f39f4a1d0f5bbe2ef7fd89977045dfec"), looks := false }, kinds := [], alts := [], laidByText := true, laidKinds := [.data, .pinned], laidTests := true, laidLooks := .later }
def ShardFindUptoCardSaid : Prop := Claim7.holds Tryd.pinned (.plain (OpenSpec.upto shardFindSpec)) shardFindUptoCard
end Rows
end Go.Proofs.YtoelnhnbefkfoaaDoor
