/-
  No cell of these rows narrows 'for every input' (looked for: loops, veiled, ifaces, maps, wideKeys, modest, calm, conditions, laid).
  DERIVED. THE GIVEN ROWS OF THIS SEAT. 3 by the template 'for every input the law returns true; each argument reads behind the call as it read before'; 0 by the template 'total and deterministic' (their statements: YtpefdonhacmaoaaTotals.lean).
  GIVEN WITH THE SEED: the statements are not yours to turn. If you find one false, say at which input.
  Laid BY PROGRAM, IN A SANDBOX (cutbox-rows.mjs): the forced cells as the released guide's own fill.sh prints them over the translation 18da5a02ddc5eed7… (all of the seat's roots in one cut). By AI agents, Wed Nov 11 2026. No macro, syntax, notation, axiom, sorry.
-/
import Derived.Test.YtpefdonhacmaoaaChecked
import GoSem.Claim
import GoSem.ClaimJoined
import GoSem.ClaimMapViews
import Derived.JoinedTies
import Derived.KernelRfl
namespace Go.Proofs.Ytpefdonhacmaoaa
/- THE CELL 'sum', in the pinned program and in every row, IS THE sha256 OF THE DUMP (.gsa) THAT YtpefdonhacmaoaaProg.lean LOADS. Nothing in Lean hashes anything: it is a label: what it is worth is what the hold of that sum in a sandbox is worth. -/
noncomputable def Try.pinned : Pinned := { name := "ytpefdonhacmaoaa", sum := "18da5a02ddc5eed705b2eaec14e5931255d0a28d02a3481e0e5b03b6a3608f11", checked := Try.checked }
namespace Rows
def none {H : Type} : Left H := { results := [], args := [] }

/-- 'rokeep.PartsRun': WHATEVER THE INPUT: true; the input reads as it did. -/
def partsRunSpec : ChangeSpec := { name := "partsRun", fn := fun _ => fun
  | [d1, d2, d3] => { results := [.lit (.bool true)], args := [d1, d2, d3] }
  | _ => none }
def partsRunRow : OpenClaim := { program := "ytpefdonhacmaoaa", sum := "18da5a02ddc5eed705b2eaec14e5931255d0a28d02a3481e0e5b03b6a3608f11", func := "ropery/rokeep.PartsRun", spec := "partsRun", inPlace := ["internal/reflectlite.ValueOf", "internal/reflectlite.Swapper", "(internal/reflectlite.Value).Len", "internal/bytealg.abigen_runtime_cmpstring"], unfollowed := true, recurses := true, apart := false }
def PartsRunSaid : Prop := partsRunRow.holds Try.pinned (OpenSpec.ofChange partsRunSpec)

/-- ITS FALSE NEIGHBOUR: 'it returns false'. Refute it at one input. -/
def partsRunWrong : ChangeSpec := { name := "partsRun", fn := fun _ => fun
  | [d1, d2, d3] => { results := [.lit (.bool false)], args := [d1, d2, d3] }
  | _ => none }
def PartsRunWrongFalsely : Prop := partsRunRow.holds Try.pinned (OpenSpec.ofChange partsRunWrong)

/-- 'rokeep.PartsTurn': WHATEVER THE INPUT: true; the input reads as it did. -/
def partsTurnSpec : ChangeSpec := { name := "partsTurn", fn := fun _ => fun
  | [d1, d2, d3, d4] => { results := [.lit (.bool true)], args := [d1, d2, d3, d4] }
  | _ => none }
def partsTurnRow : OpenClaim := { program := "ytpefdonhacmaoaa", sum := "18da5a02ddc5eed705b2eaec14e5931255d0a28d02a3481e0e5b03b6a3608f11", func := "ropery/rokeep.PartsTurn", spec := "partsTurn", inPlace := ["internal/reflectlite.ValueOf", "internal/reflectlite.Swapper", "(internal/reflectlite.Value).Len", "internal/bytealg.abigen_runtime_cmpstring"], unfollowed := true, recurses := true, apart := false }
def PartsTurnSaid : Prop := partsTurnRow.holds Try.pinned (OpenSpec.ofChange partsTurnSpec)

/-- ITS FALSE NEIGHBOUR: 'it returns false'. Refute it at one input. -/
def partsTurnWrong : ChangeSpec := { name := "partsTurn", fn := fun _ => fun
  | [d1, d2, d3, d4] => { results := [.lit (.bool false)], args := [d1, d2, d3, d4] }
  | _ => none }
def PartsTurnWrongFalsely : Prop := partsTurnRow.holds Try.pinned (OpenSpec.ofChange partsTurnWrong)

/-- 'rokeep.PartsMid': WHATEVER THE INPUT: true; the input reads as it did. -/
def partsMidSpec : ChangeSpec := { name := "partsMid", fn := fun _ => fun
  | [d1, d2, d3, d4, d5] => { results := [.lit (.bool true)], args := [d1, d2, d3, d4, d5] }
  | _ => none }
def partsMidRow : OpenClaim := { program := "ytpefdonhacmaoaa", sum := "18da5a02ddc5eed705b2eaec14e5931255d0a28d02a3481e0e5b03b6a3608f11", func := "ropery/rokeep.PartsMid", spec := "partsMid", inPlace := ["internal/reflectlite.ValueOf", "internal/reflectlite.Swapper", "(internal/reflectlite.Value).Len", "internal/bytealg.abigen_runtime_cmpstring"], unfollowed := true, recurses := true, apart := false }
def PartsMidSaid : Prop := partsMidRow.holds Try.pinned (OpenSpec.ofChange partsMidSpec)

/-- ITS FALSE NEIGHBOUR: 'it returns false'. Refute it at one input. -/
def partsMidWrong : ChangeSpec := { name := "partsMid", fn := fun _ => fun
  | [d1, d2, d3, d4, d5] => { results := [.lit (.bool false)], args := [d1, d2, d3, d4, d5] }
  | _ => none }
def PartsMidWrongFalsely : Prop := partsMidRow.holds Try.pinned (OpenSpec.ofChange partsMidWrong)

/- THE SECOND FORM. 'bulk': how many values and letters a reading holds, each counted each time it is reached (what is shared counts as often as it is met; a slice's spare places count too). A statement '..UptoSaid' is the law's where the arguments, and the package variables that the reading takes, are together of bulk at most 1048576: NARROWER than '..Said'. Prove '..Said' where nothing that the law and all that it calls make is longer than what came in: it says more and counts as full. Else prove '..UptoSaid'. A law counts once. -/
mutual
def uptoBulk {H : Type} : DataW H → Nat
  | .lit (.string bytes) => bytes.length + 1
  | .lit _ => 1
  | .nil => 1
  | .ptr d => uptoBulk d + 1
  | .slice elems spare => uptoBulkAll elems + uptoBulkAll spare + 1
  | .agg parts => uptoBulkAll parts + 1
  | .iface _ d => uptoBulk d + 1
  | .map entries => uptoBulkEntries entries + 1
  | .held _ => 1
def uptoBulkAll {H : Type} : List (DataW H) → Nat
  | [] => 0
  | d :: r => uptoBulk d + uptoBulkAll r
def uptoBulkEntries {H : Type} : List (Lit × DataW H) → Nat
  | [] => 0
  | x :: r => uptoBulkEntry x + uptoBulkEntries r
def uptoBulkEntry {H : Type} : Lit × DataW H → Nat
  | (.string bytes, d) => bytes.length + uptoBulk d + 1
  | (_, d) => uptoBulk d + 1
 end
def uptoSmall : (H : Type) → List (DataW H) → Bool := fun _ ds => decide (uptoBulkAll ds ≤ 1048576)
def OpenSpec.upto (s : _root_.Go.ChangeSpec) : _root_.Go.OpenSpec := { _root_.Go.OpenSpec.ofChange s with cond := some uptoSmall }

/-- 'rokeep.PartsRun', WHERE WHAT IT READS IS OF BULK AT MOST 1048576: true; the input reads as it did. -/
def partsRunUptoRow : OpenClaim := { program := "ytpefdonhacmaoaa", sum := "18da5a02ddc5eed705b2eaec14e5931255d0a28d02a3481e0e5b03b6a3608f11", func := "ropery/rokeep.PartsRun", spec := "partsRun", inPlace := ["internal/reflectlite.ValueOf", "internal/reflectlite.Swapper", "(internal/reflectlite.Value).Len", "internal/bytealg.abigen_runtime_cmpstring"], unfollowed := true, recurses := true, apart := false, narrowed := true }
def PartsRunUptoSaid : Prop := partsRunUptoRow.holds Try.pinned (OpenSpec.upto partsRunSpec)

/-- 'rokeep.PartsTurn', WHERE WHAT IT READS IS OF BULK AT MOST 1048576: true; the input reads as it did. -/
def partsTurnUptoRow : OpenClaim := { program := "ytpefdonhacmaoaa", sum := "18da5a02ddc5eed705b2eaec14e5931255d0a28d02a3481e0e5b03b6a3608f11", func := "ropery/rokeep.PartsTurn", spec := "partsTurn", inPlace := ["internal/reflectlite.ValueOf", "internal/reflectlite.Swapper", "(internal/reflectlite.Value).Len", "internal/bytealg.abigen_runtime_cmpstring"], unfollowed := true, recurses := true, apart := false, narrowed := true }
def PartsTurnUptoSaid : Prop := partsTurnUptoRow.holds Try.pinned (OpenSpec.upto partsTurnSpec)

/-- 'rokeep.PartsMid', WHERE WHAT IT READS IS OF BULK AT MOST 1048576: true; the input reads as it did. -/
def partsMidUptoRow : OpenClaim := { program := "ytpefdonhacmaoaa", sum := "18da5a02ddc5eed705b2eaec14e5931255d0a28d02a3481e0e5b03b6a3608f11", func := "ropery/rokeep.PartsMid", spec := "partsMid", inPlace := ["internal/reflectlite.ValueOf", "internal/reflectlite.Swapper", "(internal/reflectlite.Value).Len", "internal/bytealg.abigen_runtime_cmpstring"], unfollowed := true, recurses := true, apart := false, narrowed := true }
def PartsMidUptoSaid : Prop := partsMidUptoRow.holds Try.pinned (OpenSpec.upto partsMidSpec)

end Rows
end Go.Proofs.Ytpefdonhacmaoaa
