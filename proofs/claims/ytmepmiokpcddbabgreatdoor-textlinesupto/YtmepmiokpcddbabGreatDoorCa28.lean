/-
  roref.SameEntry.
  slices.EqualFunc of entries by roref.SameEntry.
  roref.Entry, and whether there is such an input.
  What is read has few operations, plainly.
-/
import Derived.Test.YtmepmiokpcddbabGreatDoorCa5
import Derived.Test.YtmepmiokpcddbabGreatDoorCa27
import Derived.Test.YtmepmiokpcddbabGreatDoorCa26
import Derived.Test.YtmepmiokpcddbabGreatDoorCa20
import Derived.Test.YtmepmiokpcddbabGreatDoorCa23
set_option linter.unusedVariables false
set_option linter.unusedSimpArgs false
namespace Go.Proofs.YtmepmiokpcddbabGreatDoor
open Go.RowKit

/-- are two entries the same? -/
noncomputable def sameE (x y : Em) : Bool := (x.isM == y.isM) && (sameB x.d y.d && (decide (x.m.cs = y.m.cs) && decide (x.m.os = y.m.os)))
set_option maxHeartbeats 2000000 in
set_option maxRecDepth 100000 in
theorem sameent_any (x y : Em) (w : World) (hx : ES w x) (hy : ES w y) (hl : x.d.length < 4611686018427387904) :
    Calls Tryz.prog 26 #[emV x, emV y] w fun e w' => e = .returned (.bool (sameE x y)) ∧ Below w.heap.size w w' := by
  have b0 := ((Below.refl w.heap.size w).alloc (Nat.le_refl _) (.cells (emC x) 45)).alloc (by simp) (.cells (emC y) 45)
  have x0 := (Box.new w 45 (emC x)).alloc (.cells (emC y) 45)
  have x1 := Box.new (w.alloc (.cells (emC x) 45)) 45 (emC y)
  simp only [World.size_alloc] at x1
  have hx1 := hx.below b0
  have hy1 := hy.below b0
  have HS := hideP (fun W (h1 : ES W x) (h2 : ES W y) => samedeed_any x.D y.D x.c y.c x.d y.d W h1.ops h2.ops hl)
  have HM := hideP (fun W (h1 : ES W x) (h2 : ES W y) => samemap_any x.m y.m W h1.map h2.map)
  generalize hs : sameE x y = sq
  unfold sameE at hs
  have HE : Hid (_ = sq) := hideP hs
  clear hs hx hy
  generalize sameB x.d y.d = q1 at HS HE
  generalize (decide (x.m.cs = y.m.cs) && decide (x.m.os = y.m.os)) = q2 at HM HE
  unfold emV
  have c0 := x0.cell 0 (v := .slice x.D x.d.length x.c) rfl
  have c1 := x0.cell 1 (v := .bool x.isM) rfl
  have c2 := x0.cell 2 (v := .slice x.m.A x.m.cs.length x.m.ca) rfl
  have c3 := x0.cell 3 (v := .slice x.m.O x.m.os.length x.m.co) rfl
  have d0 := x1.cell 0 (v := .slice y.D y.d.length y.c) rfl
  have d1 := x1.cell 1 (v := .bool y.isM) rfl
  have d2 := x1.cell 2 (v := .slice y.m.A y.m.cs.length y.m.ca) rfl
  have d3 := x1.cell 3 (v := .slice y.m.O y.m.os.length y.m.co) rfl
  unfold emC at *
  go_enter Tryz.func26, Tryz.ntmps26
  generalize hq0 : (x.isM == y.isM) = q0 at HE
  have k0 := x0.lt
  have k1 := x1.lt
  cases q0
  · have HR := hideP (show sq = false by rw [← HE.out]; rfl)
    clear HE HS HM
    go_wp2_with fail
    go_ret
    exact ⟨by rw [HR.out]; rfl, b0⟩
  · go_wp2_with fail
    refine (HS.out _ hx1 hy1).mono ?_
    rintro e w2 ⟨rfl, hb2⟩
    have b2 := b0.trans (hb2.mono b0.size)
    have x02 := x0.below hb2
    have x12 := x1.below hb2
    have hx2 := hx1.below hb2
    have hy2 := hy1.below hb2
    clear HS c0 c1 c2 c3 d0 d1 d2 d3
    have c2 := x02.cell 2 (v := .slice x.m.A x.m.cs.length x.m.ca) rfl
    have c3 := x02.cell 3 (v := .slice x.m.O x.m.os.length x.m.co) rfl
    have d2 := x12.cell 2 (v := .slice y.m.A y.m.cs.length y.m.ca) rfl
    have d3 := x12.cell 3 (v := .slice y.m.O y.m.os.length y.m.co) rfl
    cases q1
    · have HR := hideP (show sq = false by rw [← HE.out]; rfl)
      clear HE HM
      go_wp2_with fail
      go_ret
      exact ⟨by rw [HR.out]; rfl, b2⟩
    · have HR := hideP (show sq = q2 by rw [← HE.out]; rfl)
      clear HE
      have HM2 := hideP (HM.out w2 hx2 hy2)
      clear HM
      go_wp2_with fail
      refine HM2.out.mono ?_
      rintro e w3 ⟨rfl, hb3⟩
      have b3 := b2.trans (hb3.mono b2.size)
      go_wp2_with fail
      go_ret
      exact ⟨by rw [HR.out]; rfl, b3⟩
end Go.Proofs.YtmepmiokpcddbabGreatDoor

set_option linter.unusedVariables false
set_option linter.unusedSimpArgs false
namespace Go.Proofs.YtmepmiokpcddbabGreatDoor
open Go.RowKit

theorem sameE_iff {x y : Em} : sameE x y = true ↔ entOf x = entOf y := by
  obtain ⟨D, c, d, isM, ⟨A, ca, cs, O, co, os⟩⟩ := x
  obtain ⟨D', c', d', isM', ⟨A', ca', cs', O', co', os'⟩⟩ := y
  unfold sameE sameB entOf
  simp only [Bool.and_eq_true, beq_iff_eq, decide_eq_true_eq, Ent.mk.injEq]
/-- do two lists read alike? -/
noncomputable def sameL (l m : List Em) : Bool := @decide (l.map entOf = m.map entOf) (Classical.propDecidable _)
theorem sameL_true {l m : List Em} (h : l.map entOf = m.map entOf) : sameL l m = true := by unfold sameL; exact @decide_eq_true _ (Classical.propDecidable _) h
theorem sameL_false {l m : List Em} (h : l.map entOf ≠ m.map entOf) : sameL l m = false := by unfold sameL; exact @decide_eq_false _ (Classical.propDecidable _) h
set_option maxHeartbeats 2000000 in
set_option maxRecDepth 100000 in
theorem eqfE_any (A1 A2 : Option Addr) (c1 c2 : Nat) (l m : List Em) (w : World) (h1 : EL w A1 l) (h2 : EL w A2 m) (hl : ∀ x ∈ l, x.d.length < 4611686018427387904) (hll : l.length < 4611686018427387904) :
    Calls Tryz.prog 27 #[.slice A1 l.length c1, .slice A2 m.length c2, .func (.func 26) #[] #[]] w fun e w' => e = .returned (.bool (sameL l m)) ∧ Below w.heap.size w w' := by
  by_cases hlen : l.length = m.length
  · have d0 : ((l.length : Int) != (m.length : Int)) = false := by simp [hlen]
    have HLE := hideP hlen
    clear hlen
    go_enter Tryz.func27, Tryz.ntmps27
    go_wp2_with fail
    go_loopw [17] (fun i wr => ∃ k : Nat, k ≤ l.length ∧ i = .int .i64 k ∧ (l.take k).map entOf = (m.take k).map entOf ∧ Below w.heap.size w wr) (fun i _ => l.length - (intOf i).toNat)
    case atStart => exact ⟨0, Nat.zero_le _, rfl, rfl, Below.refl _ _⟩
    case round =>
      obtain ⟨k, hk, rfl, heq, hb⟩ := hrel
      have HEQ := hideP heq
      clear heq
      by_cases hlt : k < l.length
      · have hlm : k < m.length := by rw [← HLE.out]; exact hlt
        have e1 := h1.below hb
        have e2 := h2.below hb
        obtain ⟨b1, o1, hA1, hb1, p0, p1, p2, p3⟩ := e1.cells k l[k] (List.getElem?_eq_getElem hlt)
        obtain ⟨b2, o2, hA2, hb2, q0, q1, q2, q3⟩ := e2.cells k m[k] (List.getElem?_eq_getElem hlm)
        have hx := e1.es _ (List.getElem_mem hlt)
        have hy := e2.es _ (List.getElem_mem hlm)
        have hxl := hl _ (List.getElem_mem hlt)
        subst hA1
        subst hA2
        have HT := hideP (fun (h : entOf l[k] = entOf m[k]) => show (l.take (k + 1)).map entOf = (m.take (k + 1)).map entOf by
          rw [List.take_succ_eq_append_getElem hlt, List.take_succ_eq_append_getElem hlm, List.map_append, List.map_append, HEQ.out]; simp [h])
        have HF := hideP (fun (h : entOf l[k] ≠ entOf m[k]) => show sameL l m = false from sameL_false fun e => h (by
          have := congrArg (fun z => z[k]?) e
          simp only [List.getElem?_map, List.getElem?_eq_getElem hlt, List.getElem?_eq_getElem hlm, Option.map_some, Option.some.injEq] at this
          exact this))
        generalize l[k] = x at p0 p1 p2 p3 hx hxl HT HF
        generalize m[k] = y at q0 q1 q2 q3 hy HT HF
        have al := ((Below.refl wr.heap.size wr).alloc (Nat.le_refl _) (.cells (emC x) 45)).alloc (by simp) (.cells (emC y) 45)
        have bE := hb.trans (al.mono hb.size)
        have x0 := (Box.new wr 45 (emC x)).alloc (.cells (emC y) 45)
        have x1 := Box.new (wr.alloc (.cells (emC x) 45)) 45 (emC y)
        simp only [World.size_alloc] at x1
        have HS := hideP (sameent_any x y _ (hx.below al) (hy.below al) hxl)
        have c0 := x0.cell 0 (v := .slice x.D x.d.length x.c) rfl
        have c1 := x0.cell 1 (v := .bool x.isM) rfl
        have c2 := x0.cell 2 (v := .slice x.m.A x.m.cs.length x.m.ca) rfl
        have c3 := x0.cell 3 (v := .slice x.m.O x.m.os.length x.m.co) rfl
        have d0 := x1.cell 0 (v := .slice y.D y.d.length y.c) rfl
        have d1 := x1.cell 1 (v := .bool y.isM) rfl
        have d2 := x1.cell 2 (v := .slice y.m.A y.m.cs.length y.m.ca) rfl
        have d3 := x1.cell 3 (v := .slice y.m.O y.m.os.length y.m.co) rfl
        have g1 : (0 : Int) ≤ (k : Int) := by omega
        have g2 : (k : Int) < (l.length : Int) := by omega
        have g3 : (k : Int) < (m.length : Int) := by omega
        clear h1 h2 e1 e2 hx hy al x0 x1 HLE hl hxl
        unfold emV at HS
        unfold emC at HS c0 c1 c2 c3 d0 d1 d2 d3 bE
        go_wp2_with fail
        refine HS.out.mono ?_
        clear HS
        rintro e w2 ⟨rfl, hbn⟩
        have b2 := bE.trans (hbn.mono bE.size)
        cases hs : sameE x y
        · have HR := hideP (HF.out fun e => by rw [sameE_iff.2 e] at hs; cases hs)
          clear hs
          go_wp2_with fail
          go_ret
          exact ⟨by rw [HR.out]; rfl, b2⟩
        · have HR := hideP (HT.out (sameE_iff.1 hs))
          clear hs
          go_wp2_with fail
          go_roundw
          case rel => exact ⟨k + 1, by omega, by go_num, HR.out, b2⟩
          case measure => simp [intOf]; omega
      · have HR := hideP (show sameL l m = true from sameL_true (by have := HEQ.out; rw [List.take_of_length_le (by omega), List.take_of_length_le (by have := HLE.out; omega)] at this; exact this))
        go_wp2_with fail
        go_ret
        exact ⟨by rw [HR.out]; rfl, hb⟩
  · have d0 : ((l.length : Int) != (m.length : Int)) = true := by simp; omega
    have HR := hideP (show sameL l m = false from sameL_false fun e => hlen (by have := congrArg List.length e; simpa using this))
    clear hlen
    go_enter Tryz.func27, Tryz.ntmps27
    go_wp2_with fail
    go_ret
    exact ⟨by rw [HR.out]; rfl, Below.refl _ _⟩
end Go.Proofs.YtmepmiokpcddbabGreatDoor

set_option linter.unusedVariables false
set_option linter.unusedSimpArgs false
namespace Go.Proofs.YtmepmiokpcddbabGreatDoor
open Go.RowKit

set_option maxHeartbeats 1000000 in
set_option maxRecDepth 100000 in
theorem rentry_any (x : Em) (w : World) (hx : ES w x) :
    Calls Tryz.prog 23 #[emV x] w fun e w' => e = .returned (.int .i64 (chkE (entOf x))) ∧ Below w.heap.size w w' := by
  have b0 := (Below.refl w.heap.size w).alloc (Nat.le_refl _) (.cells (emC x) 45)
  have x0 := Box.new w 45 (emC x)
  have hx1 := hx.below b0
  obtain ⟨D, c, d, isM, ⟨A, ca, cs, O, co, os⟩⟩ := x
  unfold emV
  unfold emC at b0 x0 hx1 ⊢
  simp only at b0 x0 hx1 ⊢
  have c0 := x0.cell 0 (v := .slice D d.length c) rfl
  have c1 := x0.cell 1 (v := .bool isM) rfl
  have c2 := x0.cell 2 (v := .slice A cs.length ca) rfl
  have c3 := x0.cell 3 (v := .slice O os.length co) rfl
  have hle : os.length ≤ 9223372036854775807 := by have := hx1.map.lo; have := hx1.map.mo; simp only [maxLen] at *; omega
  have HD := hideP (rdeed_any D c d _ hx1.ops)
  have HM := hideP (rmap_any _ _ hx1.map hle)
  simp only at HM
  clear hx hx1 x0
  cases isM
  · have HK := hideP (show chkE (entOf ⟨D, c, d, false, ⟨A, ca, cs, O, co, os⟩⟩) = chkD d from rfl)
    go_enter Tryz.func23, Tryz.ntmps23
    go_wp2_with fail
    refine HD.out.mono ?_
    clear HD HM
    generalize w.alloc _ = w1 at b0 ⊢
    rintro e w2 ⟨rfl, hb2⟩
    have b2 := b0.trans (hb2.mono b0.size)
    go_wp2_with fail
    go_ret
    exact ⟨by rw [HK.out]; rfl, b2⟩
  · have HK := hideP (show chkE (entOf ⟨D, c, d, true, ⟨A, ca, cs, O, co, os⟩⟩) = chkM cs os from rfl)
    go_enter Tryz.func23, Tryz.ntmps23
    go_wp2_with fail
    refine HM.out.mono ?_
    clear HD HM
    generalize w.alloc _ = w1 at b0 ⊢
    rintro e w2 ⟨rfl, hb2⟩
    have b2 := b0.trans (hb2.mono b0.size)
    go_wp2_with fail
    go_ret
    exact ⟨by rw [HK.out]; rfl, b2⟩
end Go.Proofs.YtmepmiokpcddbabGreatDoor

set_option linter.unusedVariables false
set_option linter.unusedSimpArgs false
namespace Go.Proofs.YtmepmiokpcddbabGreatDoor

theorem ts_few1 (l : List UInt8) : (rdD l).2.length ≤ 8 := by
  unfold rdD
  split
  · simp
  · next d _ =>
    split
    · next h => exact (chkD_zero.1 h).2.1
    · simp
end Go.Proofs.YtmepmiokpcddbabGreatDoor
