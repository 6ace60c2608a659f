/-
  Rows of numbers (no body of the program in it).
-/
import Derived.Test.YtcjfkbponikadaaGreatDoorRow
set_option linter.unusedVariables false
set_option linter.unusedSimpArgs false
namespace Go.Proofs.YtcjfkbponikadaaGreatDoor
open Go.RowKit

theorem intInfo : (Tryz.prog.info? 3).map (fun i => (i.zero, i.size, i.bytes)) = some (some (.int .i64 0), 1, 8) := by kernel_rfl
def nV (l : List Nat) : List Value := l.map fun (k : Nat) => Value.int .i64 (k : Int)
theorem nV_append (l m : List Nat) : nV (l ++ m) = nV l ++ nV m := by simp [nV]
theorem nV_length (l : List Nat) : (nV l).length = l.length := by simp [nV]
/-- numbers are handed back -/
def RetN (w : World) (l : List Nat) (e : Ending) (w' : World) : Prop := ∃ A c, e = .returned (.slice A l.length c) ∧ OR w' w.heap.size 3 A c (nV l) ∧ Below w.heap.size w w'
end Go.Proofs.YtcjfkbponikadaaGreatDoor
