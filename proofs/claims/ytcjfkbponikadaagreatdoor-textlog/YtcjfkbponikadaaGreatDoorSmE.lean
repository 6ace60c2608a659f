/-
  roref.SameEntry.
-/
import Derived.Test.YtcjfkbponikadaaGreatDoorEmMem
import Derived.Test.YtcjfkbponikadaaGreatDoorEqO
import Derived.Test.YtcjfkbponikadaaGreatDoorSMap
set_option linter.unusedVariables false
set_option linter.unusedSimpArgs false
namespace Go.Proofs.YtcjfkbponikadaaGreatDoor
open Go.RowKit

/-- are two entries the same? -/
noncomputable def sameE (x y : Em) : Bool := (x.isM == y.isM) && (sameB x.d y.d && (decide (x.m.cs = y.m.cs) && decide (x.m.os = y.m.os)))
set_option maxHeartbeats 2000000 in
set_option maxRecDepth 100000 in
theorem sameent_any (x y : Em) (w : World) (hx : ES w x) (hy : ES w y) (hl : x.d.length < 4611686018427387904) :
    Calls Tryz.prog 27 #[emV x, emV y] w fun e w' => e = .returned (.bool (sameE x y)) ∧ Below w.heap.size w w' := by
  have b0 := ((Below.refl w.heap.size w).alloc (Nat.le_refl _) (.cells (emC x) 45)).alloc (by simp) (.cells (emC y) 45)
  have x0 := (Box.new w 45 (emC x)).alloc (.cells (emC y) 45)
  have x1 := Box.new (w.alloc (.cells (emC x) 45)) 45 (emC y)
  simp only [World.size_alloc] at x1
  have hx1 := hx.below b0
  have hy1 := hy.below b0
  have HS := hideP (fun W (h1 : ES W x) (h2 : ES W y) => samedeed_any x.D y.D x.c y.c x.d y.d W h1.ops h2.ops hl)
  have HM := hideP (fun W (h1 : ES W x) (h2 : ES W y) => samemap_any x.m y.m W h1.map h2.map)
  generalize hs : sameE x y = sq
  unfold sameE at hs
  have HE : Hid (_ = sq) := hideP hs
  clear hs hx hy
  generalize sameB x.d y.d = q1 at HS HE
  generalize (decide (x.m.cs = y.m.cs) && decide (x.m.os = y.m.os)) = q2 at HM HE
  unfold emV
  have c0 := x0.cell 0 (v := .slice x.D x.d.length x.c) rfl
  have c1 := x0.cell 1 (v := .bool x.isM) rfl
  have c2 := x0.cell 2 (v := .slice x.m.A x.m.cs.length x.m.ca) rfl
  have c3 := x0.cell 3 (v := .slice x.m.O x.m.os.length x.m.co) rfl
  have d0 := x1.cell 0 (v := .slice y.D y.d.length y.c) rfl
  have d1 := x1.cell 1 (v := .bool y.isM) rfl
  have d2 := x1.cell 2 (v := .slice y.m.A y.m.cs.length y.m.ca) rfl
  have d3 := x1.cell 3 (v := .slice y.m.O y.m.os.length y.m.co) rfl
  unfold emC at *
  go_enter Tryz.func27, Tryz.ntmps27
  generalize hq0 : (x.isM == y.isM) = q0 at HE
  have k0 := x0.lt
  have k1 := x1.lt
  cases q0
  · have HR := hideP (show sq = false by rw [← HE.out]; rfl)
    clear HE HS HM
    go_wp2_with fail
    go_ret
    exact ⟨by rw [HR.out]; rfl, b0⟩
  · go_wp2_with fail
    refine (HS.out _ hx1 hy1).mono ?_
    rintro e w2 ⟨rfl, hb2⟩
    have b2 := b0.trans (hb2.mono b0.size)
    have x02 := x0.below hb2
    have x12 := x1.below hb2
    have hx2 := hx1.below hb2
    have hy2 := hy1.below hb2
    clear HS c0 c1 c2 c3 d0 d1 d2 d3
    have c2 := x02.cell 2 (v := .slice x.m.A x.m.cs.length x.m.ca) rfl
    have c3 := x02.cell 3 (v := .slice x.m.O x.m.os.length x.m.co) rfl
    have d2 := x12.cell 2 (v := .slice y.m.A y.m.cs.length y.m.ca) rfl
    have d3 := x12.cell 3 (v := .slice y.m.O y.m.os.length y.m.co) rfl
    cases q1
    · have HR := hideP (show sq = false by rw [← HE.out]; rfl)
      clear HE HM
      go_wp2_with fail
      go_ret
      exact ⟨by rw [HR.out]; rfl, b2⟩
    · have HR := hideP (show sq = q2 by rw [← HE.out]; rfl)
      clear HE
      have HM2 := hideP (HM.out w2 hx2 hy2)
      clear HM
      go_wp2_with fail
      refine HM2.out.mono ?_
      rintro e w3 ⟨rfl, hb3⟩
      have b3 := b2.trans (hb3.mono b2.size)
      go_wp2_with fail
      go_ret
      exact ⟨by rw [HR.out]; rfl, b3⟩
end Go.Proofs.YtcjfkbponikadaaGreatDoor
