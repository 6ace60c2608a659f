/-
  No cell of these rows narrows 'for every input' (looked for: loops, veiled, ifaces, maps, wideKeys, modest, calm, conditions, laid).
  DERIVED. THE GIVEN ROWS OF THIS SEAT. 5 by the template 'for every input the law returns true; each argument reads behind the call as it read before'; 0 by the template 'total and deterministic' (their statements: YtoelnhnbefkfoaaTotals.lean).
  GIVEN WITH THE SEED: the statements are not yours to turn. If you find one false, say at which input.
  Laid BY PROGRAM, IN A SANDBOX (cutbox-rows.mjs): the forced cells as the released guide's own fill.sh prints them over the translation b86a99dfb916bf6f… (all of the seat's roots in one cut). By AI agents, Wed Nov 11 2026. No macro, syntax, notation, axiom, sorry.
-/
import Derived.Test.YtoelnhnbefkfoaaChecked
import GoSem.Claim
import GoSem.ClaimJoined
import GoSem.ClaimMapViews
import Derived.JoinedTies
import Derived.KernelRfl
namespace Go.Proofs.Ytoelnhnbefkfoaa
/- THE CELL 'sum', in the pinned program and in every row, IS THE sha256 OF THE DUMP (.gsa) THAT YtoelnhnbefkfoaaProg.lean LOADS. Nothing in Lean hashes anything: it is a label: what it is worth is what the hold of that sum in a sandbox is worth. -/
noncomputable def Try.pinned : Pinned := { name := "ytoelnhnbefkfoaa", sum := "b86a99dfb916bf6fda3fc328b1f52ee50c29346d1d67715fa7b884ac0b03f84f", checked := Try.checked }
namespace Rows
def none {H : Type} : Left H := { results := [], args := [] }

/-- 'rokeep.ShardCuts': WHATEVER THE INPUT: true; the input reads as it did. -/
def shardCutsSpec : ChangeSpec := { name := "shardCuts", fn := fun _ => fun
  | [d1, d2, d3] => { results := [.lit (.bool true)], args := [d1, d2, d3] }
  | _ => none }
def shardCutsRow : OpenClaim := { program := "ytoelnhnbefkfoaa", sum := "b86a99dfb916bf6fda3fc328b1f52ee50c29346d1d67715fa7b884ac0b03f84f", func := "ropery/rokeep.ShardCuts", spec := "shardCuts", unfollowed := true, recurses := true, apart := false }
def ShardCutsSaid : Prop := shardCutsRow.holds Try.pinned (OpenSpec.ofChange shardCutsSpec)

/-- ITS FALSE NEIGHBOUR: 'it returns false'. Refute it at one input. -/
def shardCutsWrong : ChangeSpec := { name := "shardCuts", fn := fun _ => fun
  | [d1, d2, d3] => { results := [.lit (.bool false)], args := [d1, d2, d3] }
  | _ => none }
def ShardCutsWrongFalsely : Prop := shardCutsRow.holds Try.pinned (OpenSpec.ofChange shardCutsWrong)

/-- 'rokeep.ShardGives': WHATEVER THE INPUT: true; the input reads as it did. -/
def shardGivesSpec : ChangeSpec := { name := "shardGives", fn := fun _ => fun
  | [d1, d2, d3] => { results := [.lit (.bool true)], args := [d1, d2, d3] }
  | _ => none }
def shardGivesRow : OpenClaim := { program := "ytoelnhnbefkfoaa", sum := "b86a99dfb916bf6fda3fc328b1f52ee50c29346d1d67715fa7b884ac0b03f84f", func := "ropery/rokeep.ShardGives", spec := "shardGives", unfollowed := true, recurses := true, apart := false }
def ShardGivesSaid : Prop := shardGivesRow.holds Try.pinned (OpenSpec.ofChange shardGivesSpec)

/-- ITS FALSE NEIGHBOUR: 'it returns false'. Refute it at one input. -/
def shardGivesWrong : ChangeSpec := { name := "shardGives", fn := fun _ => fun
  | [d1, d2, d3] => { results := [.lit (.bool false)], args := [d1, d2, d3] }
  | _ => none }
def ShardGivesWrongFalsely : Prop := shardGivesRow.holds Try.pinned (OpenSpec.ofChange shardGivesWrong)

/-- 'rokeep.ShardPlain': WHATEVER THE INPUT: true; the input reads as it did. -/
def shardPlainSpec : ChangeSpec := { name := "shardPlain", fn := fun _ => fun
  | [d1, d2] => { results := [.lit (.bool true)], args := [d1, d2] }
  | _ => none }
def shardPlainRow : OpenClaim := { program := "ytoelnhnbefkfoaa", sum := "b86a99dfb916bf6fda3fc328b1f52ee50c29346d1d67715fa7b884ac0b03f84f", func := "ropery/rokeep.ShardPlain", spec := "shardPlain", unfollowed := true, recurses := true, apart := false }
def ShardPlainSaid : Prop := shardPlainRow.holds Try.pinned (OpenSpec.ofChange shardPlainSpec)

/-- ITS FALSE NEIGHBOUR: 'it returns false'. Refute it at one input. -/
def shardPlainWrong : ChangeSpec := { name := "shardPlain", fn := fun _ => fun
  | [d1, d2] => { results := [.lit (.bool false)], args := [d1, d2] }
  | _ => none }
def ShardPlainWrongFalsely : Prop := shardPlainRow.holds Try.pinned (OpenSpec.ofChange shardPlainWrong)

/-- 'rokeep.ShardParts': WHATEVER THE INPUT: true; the input reads as it did. -/
def shardPartsSpec : ChangeSpec := { name := "shardParts", fn := fun _ => fun
  | [d1, d2] => { results := [.lit (.bool true)], args := [d1, d2] }
  | _ => none }
def shardPartsRow : OpenClaim := { program := "ytoelnhnbefkfoaa", sum := "b86a99dfb916bf6fda3fc328b1f52ee50c29346d1d67715fa7b884ac0b03f84f", func := "ropery/rokeep.ShardParts", spec := "shardParts", inPlace := ["internal/reflectlite.ValueOf", "internal/reflectlite.Swapper", "(internal/reflectlite.Value).Len"], unfollowed := true, recurses := true, apart := false }
def ShardPartsSaid : Prop := shardPartsRow.holds Try.pinned (OpenSpec.ofChange shardPartsSpec)

/-- ITS FALSE NEIGHBOUR: 'it returns false'. Refute it at one input. -/
def shardPartsWrong : ChangeSpec := { name := "shardParts", fn := fun _ => fun
  | [d1, d2] => { results := [.lit (.bool false)], args := [d1, d2] }
  | _ => none }
def ShardPartsWrongFalsely : Prop := shardPartsRow.holds Try.pinned (OpenSpec.ofChange shardPartsWrong)

/-- 'rokeep.StoreForms': WHATEVER THE INPUT: true; the input reads as it did. -/
def storeFormsSpec : ChangeSpec := { name := "storeForms", fn := fun _ => fun
  | [d1, d2, d3, d4, d5] => { results := [.lit (.bool true)], args := [d1, d2, d3, d4, d5] }
  | _ => none }
def storeFormsRow : OpenClaim := { program := "ytoelnhnbefkfoaa", sum := "b86a99dfb916bf6fda3fc328b1f52ee50c29346d1d67715fa7b884ac0b03f84f", func := "ropery/rokeep.StoreForms", spec := "storeForms", inPlace := ["internal/bytealg.abigen_runtime_cmpstring", "internal/reflectlite.ValueOf", "internal/reflectlite.Swapper", "(internal/reflectlite.Value).Len"], unfollowed := true, recurses := true, apart := false }
def StoreFormsSaid : Prop := storeFormsRow.holds Try.pinned (OpenSpec.ofChange storeFormsSpec)

/-- ITS FALSE NEIGHBOUR: 'it returns false'. Refute it at one input. -/
def storeFormsWrong : ChangeSpec := { name := "storeForms", fn := fun _ => fun
  | [d1, d2, d3, d4, d5] => { results := [.lit (.bool false)], args := [d1, d2, d3, d4, d5] }
  | _ => none }
def StoreFormsWrongFalsely : Prop := storeFormsRow.holds Try.pinned (OpenSpec.ofChange storeFormsWrong)

/- THE SECOND FORM. 'bulk': how many values and letters a reading holds, each counted each time it is reached (what is shared counts as often as it is met; a slice's spare places count too). A statement '..UptoSaid' is the law's where the arguments, and the package variables that the reading takes, are together of bulk at most 1048576: NARROWER than '..Said'. Prove '..Said' where nothing that the law and all that it calls make is longer than what came in: it says more and counts as full. Else prove '..UptoSaid'. A law counts once. -/
mutual
def uptoBulk {H : Type} : DataW H → Nat
  | .lit (.string bytes) => bytes.length + 1
  | .lit _ => 1
  | .nil => 1
  | .ptr d => uptoBulk d + 1
  | .slice elems spare => uptoBulkAll elems + uptoBulkAll spare + 1
  | .agg parts => uptoBulkAll parts + 1
  | .iface _ d => uptoBulk d + 1
  | .map entries => uptoBulkEntries entries + 1
  | .held _ => 1
def uptoBulkAll {H : Type} : List (DataW H) → Nat
  | [] => 0
  | d :: r => uptoBulk d + uptoBulkAll r
def uptoBulkEntries {H : Type} : List (Lit × DataW H) → Nat
  | [] => 0
  | x :: r => uptoBulkEntry x + uptoBulkEntries r
def uptoBulkEntry {H : Type} : Lit × DataW H → Nat
  | (.string bytes, d) => bytes.length + uptoBulk d + 1
  | (_, d) => uptoBulk d + 1
 end
def uptoSmall : (H : Type) → List (DataW H) → Bool := fun _ ds => decide (uptoBulkAll ds ≤ 1048576)
def OpenSpec.upto (s : _root_.Go.ChangeSpec) : _root_.Go.OpenSpec := { _root_.Go.OpenSpec.ofChange s with cond := some uptoSmall }

/-- 'rokeep.ShardCuts', WHERE WHAT IT READS IS OF BULK AT MOST 1048576: true; the input reads as it did. -/
def shardCutsUptoRow : OpenClaim := { program := "ytoelnhnbefkfoaa", sum := "b86a99dfb916bf6fda3fc328b1f52ee50c29346d1d67715fa7b884ac0b03f84f", func := "ropery/rokeep.ShardCuts", spec := "shardCuts", unfollowed := true, recurses := true, apart := false, narrowed := true }
def ShardCutsUptoSaid : Prop := shardCutsUptoRow.holds Try.pinned (OpenSpec.upto shardCutsSpec)

/-- 'rokeep.ShardGives', WHERE WHAT IT READS IS OF BULK AT MOST 1048576: true; the input reads as it did. -/
def shardGivesUptoRow : OpenClaim := { program := "ytoelnhnbefkfoaa", sum := "b86a99dfb916bf6fda3fc328b1f52ee50c29346d1d67715fa7b884ac0b03f84f", func := "ropery/rokeep.ShardGives", spec := "shardGives", unfollowed := true, recurses := true, apart := false, narrowed := true }
def ShardGivesUptoSaid : Prop := shardGivesUptoRow.holds Try.pinned (OpenSpec.upto shardGivesSpec)

/-- 'rokeep.ShardPlain', WHERE WHAT IT READS IS OF BULK AT MOST 1048576: true; the input reads as it did. -/
def shardPlainUptoRow : OpenClaim := { program := "ytoelnhnbefkfoaa", sum := "b86a99dfb916bf6fda3fc328b1f52ee50c29346d1d67715fa7b884ac0b03f84f", func := "ropery/rokeep.ShardPlain", spec := "shardPlain", unfollowed := true, recurses := true, apart := false, narrowed := true }
def ShardPlainUptoSaid : Prop := shardPlainUptoRow.holds Try.pinned (OpenSpec.upto shardPlainSpec)

/-- 'rokeep.ShardParts', WHERE WHAT IT READS IS OF BULK AT MOST 1048576: true; the input reads as it did. -/
def shardPartsUptoRow : OpenClaim := { program := "ytoelnhnbefkfoaa", sum := "b86a99dfb916bf6fda3fc328b1f52ee50c29346d1d67715fa7b884ac0b03f84f", func := "ropery/rokeep.ShardParts", spec := "shardParts", inPlace := ["internal/reflectlite.ValueOf", "internal/reflectlite.Swapper", "(internal/reflectlite.Value).Len"], unfollowed := true, recurses := true, apart := false, narrowed := true }
def ShardPartsUptoSaid : Prop := shardPartsUptoRow.holds Try.pinned (OpenSpec.upto shardPartsSpec)

/-- 'rokeep.StoreForms', WHERE WHAT IT READS IS OF BULK AT MOST 1048576: true; the input reads as it did. -/
def storeFormsUptoRow : OpenClaim := { program := "ytoelnhnbefkfoaa", sum := "b86a99dfb916bf6fda3fc328b1f52ee50c29346d1d67715fa7b884ac0b03f84f", func := "ropery/rokeep.StoreForms", spec := "storeForms", inPlace := ["internal/bytealg.abigen_runtime_cmpstring", "internal/reflectlite.ValueOf", "internal/reflectlite.Swapper", "(internal/reflectlite.Value).Len"], unfollowed := true, recurses := true, apart := false, narrowed := true }
def StoreFormsUptoSaid : Prop := storeFormsUptoRow.holds Try.pinned (OpenSpec.upto storeFormsSpec)

end Rows
end Go.Proofs.Ytoelnhnbefkfoaa
