/-
  Transactions plainly, rows of bools that are written (no body of the program in it).
-/
import Derived.Test.YtgcnbifgnaepnaaDoorLLk
import Derived.Test.YtgcnbifgnaepnaaDoorDdPl
set_option linter.unusedVariables false
set_option linter.unusedSimpArgs false
namespace Go.Proofs.YtgcnbifgnaepnaaDoor
open Go.RowKit Go.WideMaps Go.Maps

theorem OR.ty_ {w : World} {B : Nat} {t : TypeId} {g c : Nat} {xs : List Value} (h : OR w B t (some ⟨g, 0, none⟩) c xs) : Ty w g t := own_ty h rfl
end Go.Proofs.YtgcnbifgnaepnaaDoor
