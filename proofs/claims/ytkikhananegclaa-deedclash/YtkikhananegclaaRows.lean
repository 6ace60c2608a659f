/-
  No cell of these rows narrows 'for every input' (looked for: loops, veiled, ifaces, maps, wideKeys, modest, calm, conditions, laid).
  DERIVED. THE GIVEN ROWS OF THIS SEAT. 5 by the template 'for every input the law returns true; each argument reads behind the call as it read before'; 0 by the template 'total and deterministic' (their statements: YtkikhananegclaaTotals.lean).
  GIVEN WITH THE SEED: the statements are not yours to turn. If you find one false, say at which input.
  Laid BY PROGRAM, IN A SANDBOX (cutbox-rows.mjs): the forced cells as the released guide's own fill.sh prints them over the translation bcd16d63bf6246a2… (all of the seat's roots in one cut). By AI agents, Wed Nov 11 2026. No macro, syntax, notation, axiom, sorry.
-/
import Derived.Test.YtkikhananegclaaChecked
import GoSem.Claim
import GoSem.ClaimJoined
import GoSem.ClaimMapViews
import Derived.JoinedTies
import Derived.KernelRfl
namespace Go.Proofs.Ytkikhananegclaa
/- THE CELL 'sum', in the pinned program and in every row, IS THE sha256 OF THE DUMP (.gsa) THAT YtkikhananegclaaProg.lean LOADS. Nothing in Lean hashes anything: it is a label: what it is worth is what the hold of that sum in a sandbox is worth. -/
noncomputable def Try.pinned : Pinned := { name := "ytkikhananegclaa", sum := "bcd16d63bf6246a23b815d9016c8261b239c9477c8bf4dd0f9044c784db4233e", checked := Try.checked }
namespace Rows
def none {H : Type} : Left H := { results := [], args := [] }

/-- 'rokeep.DeedWrites': WHATEVER THE INPUT: true; the input reads as it did. -/
def deedWritesSpec : ChangeSpec := { name := "deedWrites", fn := fun _ => fun
  | [d1, d2] => { results := [.lit (.bool true)], args := [d1, d2] }
  | _ => none }
def deedWritesRow : OpenClaim := { program := "ytkikhananegclaa", sum := "bcd16d63bf6246a23b815d9016c8261b239c9477c8bf4dd0f9044c784db4233e", func := "ropery/rokeep.DeedWrites", spec := "deedWrites", inPlace := ["internal/bytealg.abigen_runtime_cmpstring", "internal/reflectlite.ValueOf", "internal/reflectlite.Swapper", "(internal/reflectlite.Value).Len"], unfollowed := true, recurses := true, apart := false }
def DeedWritesSaid : Prop := deedWritesRow.holds Try.pinned (OpenSpec.ofChange deedWritesSpec)

/-- ITS FALSE NEIGHBOUR: 'it returns false'. Refute it at one input. -/
def deedWritesWrong : ChangeSpec := { name := "deedWrites", fn := fun _ => fun
  | [d1, d2] => { results := [.lit (.bool false)], args := [d1, d2] }
  | _ => none }
def DeedWritesWrongFalsely : Prop := deedWritesRow.holds Try.pinned (OpenSpec.ofChange deedWritesWrong)

/-- 'rokeep.DeedReads': WHATEVER THE INPUT: true; the input reads as it did. -/
def deedReadsSpec : ChangeSpec := { name := "deedReads", fn := fun _ => fun
  | [d1, d2, d3] => { results := [.lit (.bool true)], args := [d1, d2, d3] }
  | _ => none }
def deedReadsRow : OpenClaim := { program := "ytkikhananegclaa", sum := "bcd16d63bf6246a23b815d9016c8261b239c9477c8bf4dd0f9044c784db4233e", func := "ropery/rokeep.DeedReads", spec := "deedReads", inPlace := ["internal/bytealg.abigen_runtime_cmpstring", "internal/reflectlite.ValueOf", "internal/reflectlite.Swapper", "(internal/reflectlite.Value).Len"], unfollowed := true, recurses := true, apart := false }
def DeedReadsSaid : Prop := deedReadsRow.holds Try.pinned (OpenSpec.ofChange deedReadsSpec)

/-- ITS FALSE NEIGHBOUR: 'it returns false'. Refute it at one input. -/
def deedReadsWrong : ChangeSpec := { name := "deedReads", fn := fun _ => fun
  | [d1, d2, d3] => { results := [.lit (.bool false)], args := [d1, d2, d3] }
  | _ => none }
def DeedReadsWrongFalsely : Prop := deedReadsRow.holds Try.pinned (OpenSpec.ofChange deedReadsWrong)

/-- 'rokeep.DeedMoves': WHATEVER THE INPUT: true; the input reads as it did. -/
def deedMovesSpec : ChangeSpec := { name := "deedMoves", fn := fun _ => fun
  | [d1, d2] => { results := [.lit (.bool true)], args := [d1, d2] }
  | _ => none }
def deedMovesRow : OpenClaim := { program := "ytkikhananegclaa", sum := "bcd16d63bf6246a23b815d9016c8261b239c9477c8bf4dd0f9044c784db4233e", func := "ropery/rokeep.DeedMoves", spec := "deedMoves", inPlace := ["internal/bytealg.abigen_runtime_cmpstring", "internal/reflectlite.ValueOf", "internal/reflectlite.Swapper", "(internal/reflectlite.Value).Len"], unfollowed := true, recurses := true, apart := false }
def DeedMovesSaid : Prop := deedMovesRow.holds Try.pinned (OpenSpec.ofChange deedMovesSpec)

/-- ITS FALSE NEIGHBOUR: 'it returns false'. Refute it at one input. -/
def deedMovesWrong : ChangeSpec := { name := "deedMoves", fn := fun _ => fun
  | [d1, d2] => { results := [.lit (.bool false)], args := [d1, d2] }
  | _ => none }
def DeedMovesWrongFalsely : Prop := deedMovesRow.holds Try.pinned (OpenSpec.ofChange deedMovesWrong)

/-- 'rokeep.DeedClash': WHATEVER THE INPUT: true; the input reads as it did. -/
def deedClashSpec : ChangeSpec := { name := "deedClash", fn := fun _ => fun
  | [d1, d2] => { results := [.lit (.bool true)], args := [d1, d2] }
  | _ => none }
def deedClashRow : OpenClaim := { program := "ytkikhananegclaa", sum := "bcd16d63bf6246a23b815d9016c8261b239c9477c8bf4dd0f9044c784db4233e", func := "ropery/rokeep.DeedClash", spec := "deedClash", inPlace := ["internal/reflectlite.ValueOf", "internal/reflectlite.Swapper", "(internal/reflectlite.Value).Len", "internal/bytealg.abigen_runtime_cmpstring"], unfollowed := true, recurses := true, apart := false }
def DeedClashSaid : Prop := deedClashRow.holds Try.pinned (OpenSpec.ofChange deedClashSpec)

/-- ITS FALSE NEIGHBOUR: 'it returns false'. Refute it at one input. -/
def deedClashWrong : ChangeSpec := { name := "deedClash", fn := fun _ => fun
  | [d1, d2] => { results := [.lit (.bool false)], args := [d1, d2] }
  | _ => none }
def DeedClashWrongFalsely : Prop := deedClashRow.holds Try.pinned (OpenSpec.ofChange deedClashWrong)

/-- 'rokeep.DeedSerial': WHATEVER THE INPUT: true; the input reads as it did. -/
def deedSerialSpec : ChangeSpec := { name := "deedSerial", fn := fun _ => fun
  | [d1, d2, d3] => { results := [.lit (.bool true)], args := [d1, d2, d3] }
  | _ => none }
def deedSerialRow : OpenClaim := { program := "ytkikhananegclaa", sum := "bcd16d63bf6246a23b815d9016c8261b239c9477c8bf4dd0f9044c784db4233e", func := "ropery/rokeep.DeedSerial", spec := "deedSerial", inPlace := ["internal/bytealg.abigen_runtime_cmpstring", "internal/reflectlite.ValueOf", "internal/reflectlite.Swapper", "(internal/reflectlite.Value).Len"], unfollowed := true, recurses := true, apart := false }
def DeedSerialSaid : Prop := deedSerialRow.holds Try.pinned (OpenSpec.ofChange deedSerialSpec)

/-- ITS FALSE NEIGHBOUR: 'it returns false'. Refute it at one input. -/
def deedSerialWrong : ChangeSpec := { name := "deedSerial", fn := fun _ => fun
  | [d1, d2, d3] => { results := [.lit (.bool false)], args := [d1, d2, d3] }
  | _ => none }
def DeedSerialWrongFalsely : Prop := deedSerialRow.holds Try.pinned (OpenSpec.ofChange deedSerialWrong)

/- THE SECOND FORM. 'bulk': how many values and letters a reading holds, each counted each time it is reached (what is shared counts as often as it is met; a slice's spare places count too). A statement '..UptoSaid' is the law's where the arguments, and the package variables that the reading takes, are together of bulk at most 1048576: NARROWER than '..Said'. Prove '..Said' where nothing that the law and all that it calls make is longer than what came in: it says more and counts as full. Else prove '..UptoSaid'. A law counts once. -/
mutual
def uptoBulk {H : Type} : DataW H → Nat
  | .lit (.string bytes) => bytes.length + 1
  | .lit _ => 1
  | .nil => 1
  | .ptr d => uptoBulk d + 1
  | .slice elems spare => uptoBulkAll elems + uptoBulkAll spare + 1
  | .agg parts => uptoBulkAll parts + 1
  | .iface _ d => uptoBulk d + 1
  | .map entries => uptoBulkEntries entries + 1
  | .held _ => 1
def uptoBulkAll {H : Type} : List (DataW H) → Nat
  | [] => 0
  | d :: r => uptoBulk d + uptoBulkAll r
def uptoBulkEntries {H : Type} : List (Lit × DataW H) → Nat
  | [] => 0
  | x :: r => uptoBulkEntry x + uptoBulkEntries r
def uptoBulkEntry {H : Type} : Lit × DataW H → Nat
  | (.string bytes, d) => bytes.length + uptoBulk d + 1
  | (_, d) => uptoBulk d + 1
 end
def uptoSmall : (H : Type) → List (DataW H) → Bool := fun _ ds => decide (uptoBulkAll ds ≤ 1048576)
def OpenSpec.upto (s : _root_.Go.ChangeSpec) : _root_.Go.OpenSpec := { _root_.Go.OpenSpec.ofChange s with cond := some uptoSmall }

/-- 'rokeep.DeedWrites', WHERE WHAT IT READS IS OF BULK AT MOST 1048576: true; the input reads as it did. -/
def deedWritesUptoRow : OpenClaim := { program := "ytkikhananegclaa", sum := "bcd16d63bf6246a23b815d9016c8261b239c9477c8bf4dd0f9044c784db4233e", func := "ropery/rokeep.DeedWrites", spec := "deedWrites", inPlace := ["internal/bytealg.abigen_runtime_cmpstring", "internal/reflectlite.ValueOf", "internal/reflectlite.Swapper", "(internal/reflectlite.Value).Len"], unfollowed := true, recurses := true, apart := false, narrowed := true }
def DeedWritesUptoSaid : Prop := deedWritesUptoRow.holds Try.pinned (OpenSpec.upto deedWritesSpec)

/-- 'rokeep.DeedReads', WHERE WHAT IT READS IS OF BULK AT MOST 1048576: true; the input reads as it did. -/
def deedReadsUptoRow : OpenClaim := { program := "ytkikhananegclaa", sum := "bcd16d63bf6246a23b815d9016c8261b239c9477c8bf4dd0f9044c784db4233e", func := "ropery/rokeep.DeedReads", spec := "deedReads", inPlace := ["internal/bytealg.abigen_runtime_cmpstring", "internal/reflectlite.ValueOf", "internal/reflectlite.Swapper", "(internal/reflectlite.Value).Len"], unfollowed := true, recurses := true, apart := false, narrowed := true }
def DeedReadsUptoSaid : Prop := deedReadsUptoRow.holds Try.pinned (OpenSpec.upto deedReadsSpec)

/-- 'rokeep.DeedMoves', WHERE WHAT IT READS IS OF BULK AT MOST 1048576: true; the input reads as it did. -/
def deedMovesUptoRow : OpenClaim := { program := "ytkikhananegclaa", sum := "bcd16d63bf6246a23b815d9016c8261b239c9477c8bf4dd0f9044c784db4233e", func := "ropery/rokeep.DeedMoves", spec := "deedMoves", inPlace := ["internal/bytealg.abigen_runtime_cmpstring", "internal/reflectlite.ValueOf", "internal/reflectlite.Swapper", "(internal/reflectlite.Value).Len"], unfollowed := true, recurses := true, apart := false, narrowed := true }
def DeedMovesUptoSaid : Prop := deedMovesUptoRow.holds Try.pinned (OpenSpec.upto deedMovesSpec)

/-- 'rokeep.DeedClash', WHERE WHAT IT READS IS OF BULK AT MOST 1048576: true; the input reads as it did. -/
def deedClashUptoRow : OpenClaim := { program := "ytkikhananegclaa", sum := "bcd16d63bf6246a23b815d9016c8261b239c9477c8bf4dd0f9044c784db4233e", func := "ropery/rokeep.DeedClash", spec := "deedClash", inPlace := ["internal/reflectlite.ValueOf", "internal/reflectlite.Swapper", "(internal/reflectlite.Value).Len", "internal/bytealg.abigen_runtime_cmpstring"], unfollowed := true, recurses := true, apart := false, narrowed := true }
def DeedClashUptoSaid : Prop := deedClashUptoRow.holds Try.pinned (OpenSpec.upto deedClashSpec)

/-- 'rokeep.DeedSerial', WHERE WHAT IT READS IS OF BULK AT MOST 1048576: true; the input reads as it did. -/
def deedSerialUptoRow : OpenClaim := { program := "ytkikhananegclaa", sum := "bcd16d63bf6246a23b815d9016c8261b239c9477c8bf4dd0f9044c784db4233e", func := "ropery/rokeep.DeedSerial", spec := "deedSerial", inPlace := ["internal/bytealg.abigen_runtime_cmpstring", "internal/reflectlite.ValueOf", "internal/reflectlite.Swapper", "(internal/reflectlite.Value).Len"], unfollowed := true, recurses := true, apart := false, narrowed := true }
def DeedSerialUptoSaid : Prop := deedSerialUptoRow.holds Try.pinned (OpenSpec.upto deedSerialSpec)

end Rows
end Go.Proofs.Ytkikhananegclaa
