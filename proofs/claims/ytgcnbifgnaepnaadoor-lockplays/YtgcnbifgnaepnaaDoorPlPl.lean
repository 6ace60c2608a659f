/-
  rolaw.at, rolaw.pick at transactions; what the law LockPlays holds while it goes.
-/
import Derived.Test.YtgcnbifgnaepnaaDoorMTab
import Derived.Test.YtgcnbifgnaepnaaDoorInts
import Derived.Test.YtgcnbifgnaepnaaDoorLAdd
import Derived.Test.YtgcnbifgnaepnaaDoorLMay
import Derived.Test.YtgcnbifgnaepnaaDoorIEq
import Derived.Test.YtgcnbifgnaepnaaDoorRDeed
import Derived.Test.YtgcnbifgnaepnaaDoorDCheck
set_option linter.unusedVariables false
set_option linter.unusedSimpArgs false
namespace Go.Proofs.YtgcnbifgnaepnaaDoor
open Go.RowKit Go.WideMaps Go.Maps

/-- one row of a slice of slices of ints -/
structure Cl where
  A : Option Addr
  c : Nat
  zs : List Int
def clV (x : Cl) : Value := .slice x.A x.zs.length x.c
/-- a slice of slices of ints -/
structure LS (w : World) (A : Option Addr) (cs : List Cl) : Prop where
  vs : VS w A (cs.map clV)
  is_ : ∀ x ∈ cs, IS w x.A x.zs ∧ x.zs.length ≤ x.c ∧ x.c ≤ 9223372036854775807
theorem LS.below {w w' : World} {A : Option Addr} {cs : List Cl} (h : LS w A cs) (hb : Below w.heap.size w w') : LS w' A cs := ⟨h.vs.below hb, fun x hx => ⟨(h.is_ x hx).1.below hb, (h.is_ x hx).2⟩⟩

set_option maxHeartbeats 400000 in
set_option maxRecDepth 100000 in
theorem rat_any (A : Option Addr) (c : Nat) (zs : List Int) (i : Nat) (w : World) (hA : IS w A zs) (hl : zs.length ≤ 9223372036854775807) :
    Calls Tryd.prog 7 #[.slice A zs.length c, .int .i64 (i : Int)] w fun e w' => e = .returned (.int .i64 (zs.getD i 0)) ∧ w = w' := by
  by_cases h : i < zs.length
  · obtain ⟨b, o, rfl, hbl, q1⟩ := hA i _ (List.getElem?_eq_getElem h)
    have HV := hideP (show zs.getD i 0 = zs[i] by simp [List.getD_eq_getElem?_getD, h])
    generalize zs[i] = z at q1 HV
    have g1 : (i : Int) < (zs.length : Int) := by omega
    have g2 : (0 : Int) ≤ (i : Int) := by omega
    clear hA
    go_enter Tryd.func7, Tryd.ntmps7
    go_wp2_with fail
    go_ret
    exact ⟨ret_int HV.out.symm, rfl⟩
  · have HV := hideP (show zs.getD i 0 = 0 by simp [List.getD_eq_getElem?_getD, h])
    have g1 : ¬ (i : Int) < (zs.length : Int) := by omega
    clear hA
    go_enter Tryd.func7, Tryd.ntmps7
    go_wp2_with fail
    go_ret
    exact ⟨by first | exact ret_int HV.out.symm | exact ret_int rfl | rfl, rfl⟩

/-- a transaction is handed back -/
def RetDeed (w : World) (ds : List Dl) (e : Ending) (w' : World) : Prop := ∃ D c d, e = .returned (.agg #[.slice D (d : List Opr).length c]) ∧ (d = [] ∨ ∃ x ∈ ds, x.D = D ∧ x.d = d) ∧ Below w.heap.size w w'
theorem pick_ix (k : Int) (n : Nat) (h : 1 ≤ n) (h2 : n ≤ 9223372036854775807) : ∃ j : Nat, j < n ∧ wrap64 ((IntKind.u64.wrap k).tmod (n : Int)) = (j : Int) := by
  have h0 : 0 ≤ IntKind.u64.wrap k := by simp [IntKind.wrap_u64]; omega
  have h1 := Int.tmod_lt_of_pos (IntKind.u64.wrap k) (show (0 : Int) < n by omega)
  have h3 := Int.tmod_nonneg (n : Int) h0
  refine ⟨((IntKind.u64.wrap k).tmod n).toNat, by omega, ?_⟩
  unfold wrap64
  omega
set_option maxHeartbeats 400000 in
set_option maxRecDepth 100000 in
theorem pick_any (A : Option Addr) (c : Nat) (ds : List Dl) (k : Int) (w : World) (hA : DS w A ds) (hl : ds.length ≤ 9223372036854775807) :
    Calls Tryd.prog 8 #[.slice A ds.length c, .int .i64 k] w (RetDeed w ds) := by
  by_cases h : ds.length = 0
  · have g1 : ((ds.length : Int) == 0) = true := by simp [h]
    clear hA
    go_enter Tryd.func8, Tryd.ntmps8
    go_wp2_with fail
    have hb := ((Below.refl w.heap.size w).alloc (Nat.le_refl _) (.cells #[.slice none 0 0] 36)).alloc (by simp) (.cells #[.slice none 0 0] 36)
    have q0 : ((w.alloc (.cells #[.slice none 0 0] 36)).alloc (.cells #[.slice none 0 0] 36)).cell? ⟨w.heap.size, 0, none⟩ = some (.slice none 0 0) := cell_alloc (by simp) (by simp) _
    refine bodyPost_ret (v := .agg #[.slice none 0 0]) (by simp [results, Tryd.results8, go_sem, q0]) rfl ?_
    exact ⟨none, 0, [], rfl, .inl rfl, hb⟩
  · have g1 : ((ds.length : Int) == 0) = false := by simp [h]
    obtain ⟨j, hj, hjk⟩ := pick_ix k ds.length (by omega) hl
    obtain ⟨⟨b, o, rfl, hbl, q1⟩, hos⟩ := hA.at_ hj
    have HM := hideP (List.getElem_mem hj)
    generalize ds[j] = x at q1 hos HM
    obtain ⟨Dx, cx, dx⟩ := x
    simp only [dlV] at q1 hos
    have hb := ((Below.refl w.heap.size w).alloc (Nat.le_refl _) (.cells #[.slice Dx dx.length cx] 36)).alloc (by simp) (.cells #[.slice none 0 0] 36)
    have q0 : ((w.alloc (.cells #[.slice Dx dx.length cx] 36)).alloc (.cells #[.slice none 0 0] 36)).cell? ⟨w.heap.size, 0, none⟩ = some (.slice Dx dx.length cx) := cell_alloc (by simp) (by simp) _
    clear hA
    go_enter Tryd.func8, Tryd.ntmps8
    go_wp2_with fail
    refine bodyPost_ret (v := .agg #[.slice Dx dx.length cx]) (by simp [results, Tryd.results8, go_sem, q0]) rfl ?_
    exact ⟨Dx, cx, dx, rfl, .inr ⟨_, HM.out, rfl, rfl⟩, hb⟩
end Go.Proofs.YtgcnbifgnaepnaaDoor
