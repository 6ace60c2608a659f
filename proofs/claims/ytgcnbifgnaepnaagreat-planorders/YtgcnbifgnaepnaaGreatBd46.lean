/-
  What rokeep.Deeds makes, as valid transactions (no body of the program in it).
-/
import Derived.Test.YtgcnbifgnaepnaaGreatBd15
import Derived.Test.YtgcnbifgnaepnaaGreatBd45
set_option linter.unusedVariables false
set_option linter.unusedSimpArgs false
namespace Go.Proofs.YtgcnbifgnaepnaaGreat
open Go.RowKit

theorem Dds.ds {w : World} {B : Nat} {A : Option Addr} {c : Nat} {ds : List Dl} (h : Dds w B A c ds) : DS w A ds := ⟨h.or.vs, fun x hx => (h.oo x hx).os⟩
theorem Dds.chk {w : World} {B : Nat} {A : Option Addr} {c : Nat} {ds : List Dl} (h : Dds w B A c ds) : ∀ x ∈ ds, chkD x.d = 0 := fun x hx => by
  obtain ⟨h1, h2, h3⟩ := h.good x hx
  exact chkD_zero.2 ⟨h2, by omega, fun o ho => (h1 o ho).chk⟩
end Go.Proofs.YtgcnbifgnaepnaaGreat
