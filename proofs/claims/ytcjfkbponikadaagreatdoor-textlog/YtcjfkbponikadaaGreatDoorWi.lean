/-
  A number within bounds, plainly (no program in it).
-/
import Derived.WalkKit
import Derived.WalkSpells
set_option linter.unusedVariables false
set_option linter.unusedSimpArgs false
namespace Go.Proofs.YtcjfkbponikadaaGreatDoor
open Go.RowKit

/-- what Within answers -/
def wi (k : Int) (n : Nat) : Nat := ((IntKind.u64.wrap k).tmod n).toNat
theorem wrap_u64_nonneg (k : Int) : 0 ≤ IntKind.u64.wrap k := by simp [IntKind.wrap_u64]; omega
theorem wi_lt (k : Int) (n : Nat) (h : 1 ≤ n) : wi k n < n := by
  have h0 := wrap_u64_nonneg k
  unfold wi
  have := Int.tmod_lt_of_pos (IntKind.u64.wrap k) (show (0 : Int) < n by omega)
  omega
theorem wi_eq (k : Int) (n : Nat) (h : 1 ≤ n) (h2 : n ≤ 1000000) : wrap64 ((IntKind.u64.wrap k).tmod (n : Int)) = (wi k n : Int) := by
  have h0 := wrap_u64_nonneg k
  have h1 := Int.tmod_lt_of_pos (IntKind.u64.wrap k) (show (0 : Int) < n by omega)
  have h3 := Int.tmod_nonneg (n : Int) h0
  unfold wi wrap64
  omega
end Go.Proofs.YtcjfkbponikadaaGreatDoor
