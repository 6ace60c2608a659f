/-
  plan.clash.
-/
import Derived.Test.YtgcnbifgnaepnaaGreatBd33
import Derived.Test.YtgcnbifgnaepnaaGreatBd47
set_option linter.unusedVariables false
set_option linter.unusedSimpArgs false
namespace Go.Proofs.YtgcnbifgnaepnaaGreat
open Go.RowKit

set_option maxHeartbeats 400000 in
set_option maxRecDepth 100000 in
theorem pclash_ok (D1 D2 : Option Addr) (k1 k2 : Nat) (a b : List Opr) (w : World) (ha : OS w w.heap.size D1 a) (hb : OS w w.heap.size D2 b) (ca : chkD a = 0) (cb : chkD b = 0) :
    Calls Tryz.prog 25 #[.agg #[.slice D1 a.length k1], .agg #[.slice D2 b.length k2]] w fun e w' => e = .returned (.bool (clB a b)) ∧ Below w.heap.size w w' := by
  have hb0 := ((Below.refl w.heap.size w).alloc (Nat.le_refl _) (.cells #[.slice D1 a.length k1] 45)).alloc (by simp) (.cells #[.slice D2 b.length k2] 45)
  have ha0 := ha.go hb0
  have hbb0 := hb.go hb0
  clear ha hb
  have HC := hideP (clash_ok D1 D2 k1 k2 a b _ ha0 hbb0 ca cb)
  go_enter Tryz.func25, Tryz.ntmps25
  go_wp2_with fail
  refine HC.out.mono ?_
  rintro e w1 ⟨rfl, hb1⟩
  have hb2 := hb0.trans (hb1.mono hb0.size)
  go_wp2_with fail
  go_ret
  exact ⟨rfl, hb2⟩
end Go.Proofs.YtgcnbifgnaepnaaGreat
