/-
  A pair in a slice of one.
-/
import Derived.Test.YtoelnhnbefkfoaaDoorMem
import Derived.WalkKit
set_option linter.unusedVariables false
set_option linter.unusedSimpArgs false
namespace Go.Proofs.YtoelnhnbefkfoaaDoor
open Go.RowKit

theorem PS.one (w : World) (key : ByteArray) (n : Int) (t : TypeId) : PS (w.alloc (.cells #[.string key, .int .i64 n] t)) (w.alloc (.cells #[.string key, .int .i64 n] t)).heap.size (some ⟨w.heap.size, 0, none⟩) [(key, n)] := fun i p hp => by
  cases i with
  | zero => simp at hp; subst hp; exact ⟨w.heap.size, 0, rfl, by simp, by simp, by simp⟩
  | succ i => simp at hp
end Go.Proofs.YtoelnhnbefkfoaaDoor
