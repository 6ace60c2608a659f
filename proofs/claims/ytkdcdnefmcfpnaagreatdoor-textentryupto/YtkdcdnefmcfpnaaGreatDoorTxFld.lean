/-
  The fields of an entry that is a value.
-/
import Derived.Test.YtkdcdnefmcfpnaaGreatDoorTxSame
set_option linter.unusedVariables false
set_option linter.unusedSimpArgs false
namespace Go.Proofs.YtkdcdnefmcfpnaaGreatDoor
open Go.RowKit

set_option maxRecDepth 100000 in
theorem fld2 (a b c d : Value) (w : World) : (Instr.field 45 (.agg #[a, b, c, d]) 2).run Tryz.prog w = .ok (.agg #[c, d]) w := by
  have hu := run_underlying (w := w) Tryz.underlying45
  have z := Tryz.sizeOf28
  have g := Tryz.isAgg28
  simp [Instr.field, hu, part, go_sem, z, g, asAgg, Sem.run]
set_option maxRecDepth 100000 in
theorem fld0 (a b c d : Value) (w : World) : (Instr.field 45 (.agg #[a, b, c, d]) 0).run Tryz.prog w = .ok (.agg #[a]) w := by
  have hu := run_underlying (w := w) Tryz.underlying45
  have z := Tryz.sizeOf24
  have g := Tryz.isAgg24
  simp [Instr.field, hu, part, go_sem, z, g, asAgg, Sem.run]
end Go.Proofs.YtkdcdnefmcfpnaaGreatDoor
