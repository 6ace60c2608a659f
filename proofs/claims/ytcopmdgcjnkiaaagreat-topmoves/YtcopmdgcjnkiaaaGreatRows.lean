/-
  No cell of these rows narrows 'for every input' (looked for: loops, veiled, ifaces, maps, wideKeys, modest, calm, conditions, laid).
  DERIVED. THE GIVEN ROWS OF THIS SEAT. 5 by the template 'for every input the law returns true; each argument reads behind the call as it read before'; 0 by the template 'total and deterministic' (their statements: YtcopmdgcjnkiaaaGreatTotals.lean).
  GIVEN WITH THE SEED: the statements are not yours to turn. If you find one false, say at which input.
  Laid BY PROGRAM, IN A SANDBOX (cutbox-rows.mjs): the forced cells as the released guide's own fill.sh prints them over the translation 02cb9d5f8120507e… (all of the seat's roots in one cut). By AI agents, Wed Nov 11 2026. No macro, syntax, notation, axiom, sorry.
-/
import Derived.Test.YtcopmdgcjnkiaaaGreatChecked
import GoSem.Claim
import GoSem.ClaimJoined
import GoSem.ClaimMapViews
import Derived.JoinedTies
import Derived.KernelRfl
namespace Go.Proofs.YtcopmdgcjnkiaaaGreat
/- THE CELL 'sum', in the pinned program and in every row, IS THE sha256 OF THE DUMP (.gsa) THAT YtcopmdgcjnkiaaaGreatProg.lean LOADS. Nothing in Lean hashes anything: it is a label: what it is worth is what the hold of that sum in a sandbox is worth. -/
noncomputable def Tryz.pinned : Pinned := { name := "ytcopmdgcjnkiaaagreat", sum := "02cb9d5f8120507e83b44378983b5461b12de287d004cc5743b5d1ac8403343b", checked := Tryz.checked }
namespace Rows
def none {H : Type} : Left H := { results := [], args := [] }

/-- 'rokeep.CopiesSame': WHATEVER THE INPUT: true; the input reads as it did. -/
def copiesSameSpec : ChangeSpec := { name := "copiesSame", fn := fun _ => fun
  | [d1, d2, d3, d4, d5] => { results := [.lit (.bool true)], args := [d1, d2, d3, d4, d5] }
  | _ => none }
def copiesSameRow : OpenClaim := { program := "ytcopmdgcjnkiaaagreat", sum := "02cb9d5f8120507e83b44378983b5461b12de287d004cc5743b5d1ac8403343b", func := "ropery/rokeep.CopiesSame", spec := "copiesSame", inPlace := ["internal/bytealg.abigen_runtime_cmpstring", "internal/reflectlite.ValueOf", "internal/reflectlite.Swapper", "(internal/reflectlite.Value).Len"], unfollowed := true, recurses := true, apart := false }
def CopiesSameSaid : Prop := copiesSameRow.holds Tryz.pinned (OpenSpec.ofChange copiesSameSpec)

/-- ITS FALSE NEIGHBOUR: 'it returns false'. Refute it at one input. -/
def copiesSameWrong : ChangeSpec := { name := "copiesSame", fn := fun _ => fun
  | [d1, d2, d3, d4, d5] => { results := [.lit (.bool false)], args := [d1, d2, d3, d4, d5] }
  | _ => none }
def CopiesSameWrongFalsely : Prop := copiesSameRow.holds Tryz.pinned (OpenSpec.ofChange copiesSameWrong)

/-- 'rokeep.CopiesTake': WHATEVER THE INPUT: true; the input reads as it did. -/
def copiesTakeSpec : ChangeSpec := { name := "copiesTake", fn := fun _ => fun
  | [d1, d2, d3, d4, d5, d6] => { results := [.lit (.bool true)], args := [d1, d2, d3, d4, d5, d6] }
  | _ => none }
def copiesTakeRow : OpenClaim := { program := "ytcopmdgcjnkiaaagreat", sum := "02cb9d5f8120507e83b44378983b5461b12de287d004cc5743b5d1ac8403343b", func := "ropery/rokeep.CopiesTake", spec := "copiesTake", inPlace := ["internal/bytealg.abigen_runtime_cmpstring", "internal/reflectlite.ValueOf", "internal/reflectlite.Swapper", "(internal/reflectlite.Value).Len"], unfollowed := true, recurses := true, apart := false }
def CopiesTakeSaid : Prop := copiesTakeRow.holds Tryz.pinned (OpenSpec.ofChange copiesTakeSpec)

/-- ITS FALSE NEIGHBOUR: 'it returns false'. Refute it at one input. -/
def copiesTakeWrong : ChangeSpec := { name := "copiesTake", fn := fun _ => fun
  | [d1, d2, d3, d4, d5, d6] => { results := [.lit (.bool false)], args := [d1, d2, d3, d4, d5, d6] }
  | _ => none }
def CopiesTakeWrongFalsely : Prop := copiesTakeRow.holds Tryz.pinned (OpenSpec.ofChange copiesTakeWrong)

/-- 'rotop.TopSame': WHATEVER THE INPUT: true; the input reads as it did. -/
def topSameSpec : ChangeSpec := { name := "topSame", fn := fun _ => fun
  | [d1, d2, d3, d4, d5, d6] => { results := [.lit (.bool true)], args := [d1, d2, d3, d4, d5, d6] }
  | _ => none }
def topSameRow : OpenClaim := { program := "ytcopmdgcjnkiaaagreat", sum := "02cb9d5f8120507e83b44378983b5461b12de287d004cc5743b5d1ac8403343b", func := "ropery/rotop.TopSame", spec := "topSame", inPlace := ["internal/bytealg.abigen_runtime_cmpstring", "internal/reflectlite.ValueOf", "internal/reflectlite.Swapper", "(internal/reflectlite.Value).Len"], unfollowed := true, recurses := true, apart := false }
def TopSameSaid : Prop := topSameRow.holds Tryz.pinned (OpenSpec.ofChange topSameSpec)

/-- ITS FALSE NEIGHBOUR: 'it returns false'. Refute it at one input. -/
def topSameWrong : ChangeSpec := { name := "topSame", fn := fun _ => fun
  | [d1, d2, d3, d4, d5, d6] => { results := [.lit (.bool false)], args := [d1, d2, d3, d4, d5, d6] }
  | _ => none }
def TopSameWrongFalsely : Prop := topSameRow.holds Tryz.pinned (OpenSpec.ofChange topSameWrong)

/-- 'rotop.TopMoves': WHATEVER THE INPUT: true; the input reads as it did. -/
def topMovesSpec : ChangeSpec := { name := "topMoves", fn := fun _ => fun
  | [d1, d2, d3, d4, d5] => { results := [.lit (.bool true)], args := [d1, d2, d3, d4, d5] }
  | _ => none }
def topMovesRow : OpenClaim := { program := "ytcopmdgcjnkiaaagreat", sum := "02cb9d5f8120507e83b44378983b5461b12de287d004cc5743b5d1ac8403343b", func := "ropery/rotop.TopMoves", spec := "topMoves", inPlace := ["internal/bytealg.abigen_runtime_cmpstring", "internal/reflectlite.ValueOf", "internal/reflectlite.Swapper", "(internal/reflectlite.Value).Len"], unfollowed := true, recurses := true, apart := false }
def TopMovesSaid : Prop := topMovesRow.holds Tryz.pinned (OpenSpec.ofChange topMovesSpec)

/-- ITS FALSE NEIGHBOUR: 'it returns false'. Refute it at one input. -/
def topMovesWrong : ChangeSpec := { name := "topMoves", fn := fun _ => fun
  | [d1, d2, d3, d4, d5] => { results := [.lit (.bool false)], args := [d1, d2, d3, d4, d5] }
  | _ => none }
def TopMovesWrongFalsely : Prop := topMovesRow.holds Tryz.pinned (OpenSpec.ofChange topMovesWrong)

/-- 'rotop.TopInputs': WHATEVER THE INPUT: true; the input reads as it did. -/
def topInputsSpec : ChangeSpec := { name := "topInputs", fn := fun _ => fun
  | [d1, d2, d3, d4] => { results := [.lit (.bool true)], args := [d1, d2, d3, d4] }
  | _ => none }
def topInputsRow : OpenClaim := { program := "ytcopmdgcjnkiaaagreat", sum := "02cb9d5f8120507e83b44378983b5461b12de287d004cc5743b5d1ac8403343b", func := "ropery/rotop.TopInputs", spec := "topInputs", inPlace := ["internal/bytealg.abigen_runtime_cmpstring", "internal/reflectlite.ValueOf", "internal/reflectlite.Swapper", "(internal/reflectlite.Value).Len"], unfollowed := true, recurses := true, apart := false }
def TopInputsSaid : Prop := topInputsRow.holds Tryz.pinned (OpenSpec.ofChange topInputsSpec)

/-- ITS FALSE NEIGHBOUR: 'it returns false'. Refute it at one input. -/
def topInputsWrong : ChangeSpec := { name := "topInputs", fn := fun _ => fun
  | [d1, d2, d3, d4] => { results := [.lit (.bool false)], args := [d1, d2, d3, d4] }
  | _ => none }
def TopInputsWrongFalsely : Prop := topInputsRow.holds Tryz.pinned (OpenSpec.ofChange topInputsWrong)

/- THE SECOND FORM. 'bulk': how many values and letters a reading holds, each counted each time it is reached (what is shared counts as often as it is met; a slice's spare places count too). A statement '..UptoSaid' is the law's where the arguments, and the package variables that the reading takes, are together of bulk at most 1048576: NARROWER than '..Said'. Prove '..Said' where nothing that the law and all that it calls make is longer than what came in: it says more and counts as full. Else prove '..UptoSaid'. A law counts once. -/
mutual
def uptoBulk {H : Type} : DataW H → Nat
  | .lit (.string bytes) => bytes.length + 1
  | .lit _ => 1
  | .nil => 1
  | .ptr d => uptoBulk d + 1
  | .slice elems spare => uptoBulkAll elems + uptoBulkAll spare + 1
  | .agg parts => uptoBulkAll parts + 1
  | .iface _ d => uptoBulk d + 1
  | .map entries => uptoBulkEntries entries + 1
  | .held _ => 1
def uptoBulkAll {H : Type} : List (DataW H) → Nat
  | [] => 0
  | d :: r => uptoBulk d + uptoBulkAll r
def uptoBulkEntries {H : Type} : List (Lit × DataW H) → Nat
  | [] => 0
  | x :: r => uptoBulkEntry x + uptoBulkEntries r
def uptoBulkEntry {H : Type} : Lit × DataW H → Nat
  | (.string bytes, d) => bytes.length + uptoBulk d + 1
  | (_, d) => uptoBulk d + 1
 end
def uptoSmall : (H : Type) → List (DataW H) → Bool := fun _ ds => decide (uptoBulkAll ds ≤ 1048576)
def OpenSpec.upto (s : _root_.Go.ChangeSpec) : _root_.Go.OpenSpec := { _root_.Go.OpenSpec.ofChange s with cond := some uptoSmall }

/-- 'rokeep.CopiesSame', WHERE WHAT IT READS IS OF BULK AT MOST 1048576: true; the input reads as it did. -/
def copiesSameUptoRow : OpenClaim := { program := "ytcopmdgcjnkiaaagreat", sum := "02cb9d5f8120507e83b44378983b5461b12de287d004cc5743b5d1ac8403343b", func := "ropery/rokeep.CopiesSame", spec := "copiesSame", inPlace := ["internal/bytealg.abigen_runtime_cmpstring", "internal/reflectlite.ValueOf", "internal/reflectlite.Swapper", "(internal/reflectlite.Value).Len"], unfollowed := true, recurses := true, apart := false, narrowed := true }
def CopiesSameUptoSaid : Prop := copiesSameUptoRow.holds Tryz.pinned (OpenSpec.upto copiesSameSpec)

/-- 'rokeep.CopiesTake', WHERE WHAT IT READS IS OF BULK AT MOST 1048576: true; the input reads as it did. -/
def copiesTakeUptoRow : OpenClaim := { program := "ytcopmdgcjnkiaaagreat", sum := "02cb9d5f8120507e83b44378983b5461b12de287d004cc5743b5d1ac8403343b", func := "ropery/rokeep.CopiesTake", spec := "copiesTake", inPlace := ["internal/bytealg.abigen_runtime_cmpstring", "internal/reflectlite.ValueOf", "internal/reflectlite.Swapper", "(internal/reflectlite.Value).Len"], unfollowed := true, recurses := true, apart := false, narrowed := true }
def CopiesTakeUptoSaid : Prop := copiesTakeUptoRow.holds Tryz.pinned (OpenSpec.upto copiesTakeSpec)

/-- 'rotop.TopSame', WHERE WHAT IT READS IS OF BULK AT MOST 1048576: true; the input reads as it did. -/
def topSameUptoRow : OpenClaim := { program := "ytcopmdgcjnkiaaagreat", sum := "02cb9d5f8120507e83b44378983b5461b12de287d004cc5743b5d1ac8403343b", func := "ropery/rotop.TopSame", spec := "topSame", inPlace := ["internal/bytealg.abigen_runtime_cmpstring", "internal/reflectlite.ValueOf", "internal/reflectlite.Swapper", "(internal/reflectlite.Value).Len"], unfollowed := true, recurses := true, apart := false, narrowed := true }
def TopSameUptoSaid : Prop := topSameUptoRow.holds Tryz.pinned (OpenSpec.upto topSameSpec)

/-- 'rotop.TopMoves', WHERE WHAT IT READS IS OF BULK AT MOST 1048576: true; the input reads as it did. -/
def topMovesUptoRow : OpenClaim := { program := "ytcopmdgcjnkiaaagreat", sum := "02cb9d5f8120507e83b44378983b5461b12de287d004cc5743b5d1ac8403343b", func := "ropery/rotop.TopMoves", spec := "topMoves", inPlace := ["internal/bytealg.abigen_runtime_cmpstring", "internal/reflectlite.ValueOf", "internal/reflectlite.Swapper", "(internal/reflectlite.Value).Len"], unfollowed := true, recurses := true, apart := false, narrowed := true }
def TopMovesUptoSaid : Prop := topMovesUptoRow.holds Tryz.pinned (OpenSpec.upto topMovesSpec)

/-- 'rotop.TopInputs', WHERE WHAT IT READS IS OF BULK AT MOST 1048576: true; the input reads as it did. -/
def topInputsUptoRow : OpenClaim := { program := "ytcopmdgcjnkiaaagreat", sum := "02cb9d5f8120507e83b44378983b5461b12de287d004cc5743b5d1ac8403343b", func := "ropery/rotop.TopInputs", spec := "topInputs", inPlace := ["internal/bytealg.abigen_runtime_cmpstring", "internal/reflectlite.ValueOf", "internal/reflectlite.Swapper", "(internal/reflectlite.Value).Len"], unfollowed := true, recurses := true, apart := false, narrowed := true }
def TopInputsUptoSaid : Prop := topInputsUptoRow.holds Tryz.pinned (OpenSpec.upto topInputsSpec)

end Rows
end Go.Proofs.YtcopmdgcjnkiaaaGreat
