/-
  The cells of an operation that was handed over (no program in it).
-/
import Derived.Test.YtcjfkbponikadaaDoorBp1
import Derived.OwnWalk
set_option linter.unusedVariables false
set_option linter.unusedSimpArgs false
namespace Go.Proofs.YtcjfkbponikadaaDoor
open Go.RowKit

/-- the cells of an operation that was handed over -/
structure OpAt (w : World) (b : Nat) (o : Opr) : Prop where
  lt : b < w.heap.size
  kind : w.cell? ⟨b, 0, none⟩ = some (.int .i64 o.kind)
  key : w.cell? ⟨b, 1, none⟩ = some (.string o.key)
  src : w.cell? ⟨b, 2, none⟩ = some (.string o.src)
  n : w.cell? ⟨b, 3, none⟩ = some (.int .i64 o.n)
theorem OpAt.below {w w' : World} {b : Nat} {o : Opr} (h : OpAt w b o) (hb : Below w.heap.size w w') : OpAt w' b o :=
  ⟨Nat.lt_of_lt_of_le h.lt hb.size, (hb.cell (p := ⟨b, 0, none⟩) h.lt).trans h.kind, (hb.cell (p := ⟨b, 1, none⟩) h.lt).trans h.key, (hb.cell (p := ⟨b, 2, none⟩) h.lt).trans h.src, (hb.cell (p := ⟨b, 3, none⟩) h.lt).trans h.n⟩
theorem OpAt.drew {w : World} {b : Nat} {o : Opr} (h : OpAt w b o) : OpAt w.drew b o := ⟨h.lt, h.kind, h.key, h.src, h.n⟩
theorem OpAt.new (w : World) (o : Opr) (t : TypeId) : OpAt (w.alloc (.cells #[.int .i64 o.kind, .string o.key, .string o.src, .int .i64 o.n] t)) w.heap.size o :=
  ⟨by simp, by simp, by simp, by simp, by simp⟩

end Go.Proofs.YtcjfkbponikadaaDoor
