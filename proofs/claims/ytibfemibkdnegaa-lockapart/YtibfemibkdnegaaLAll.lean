/-
  What the laws over rokeep.Deeds hold of a table: all were added, some are gone.
-/
import Derived.Test.YtibfemibkdnegaaDdOf
import Derived.Test.YtibfemibkdnegaaLBegun
import Derived.Test.YtibfemibkdnegaaRDeeds
import Derived.Test.YtibfemibkdnegaaDClash
set_option linter.unusedVariables false
set_option linter.unusedSimpArgs false
namespace Go.Proofs.Ytibfemibkdnegaa
open Go.RowKit Go.WideMaps Go.Maps

theorem Dds.ds {w : World} {B : Nat} {A : Option Addr} {c : Nat} {ds : List Dl} (h : Dds w B A c ds) : DS w A ds := ⟨h.or.vs, fun x hx => (h.oo x hx).os⟩
theorem Dds.chk {w : World} {B : Nat} {A : Option Addr} {c : Nat} {ds : List Dl} (h : Dds w B A c ds) : ∀ x ∈ ds, chkD x.d = 0 := fun x hx => by
  obtain ⟨h1, h2, h3⟩ := h.good x hx
  exact chkD_zero.2 ⟨h2, by omega, fun o ho => (h1 o ho).chk⟩
/-- while they are added -/
def AddsInv (w1 : World) (ds : List Dl) (i : Value) (wr : World) : Prop :=
  ∃ (k : Nat) (left : List En), k ≤ ds.length ∧ i = .int .i64 k ∧ TB wr w1.heap.size w1.heap.size k left ∧ Lk left (ddOf (ds.take k)) (fun _ => false) ∧ Below w1.heap.size w1 wr
end Go.Proofs.Ytibfemibkdnegaa
