/-
  slices.Equal at pairs: two that read the same are equal.
  The walk of PartsMid.
  Slices of ints, and slices of slices of ints, that came in, opened.
-/
import Derived.Test.YtpefdonhacmaoaaBe7
import Derived.WalkKit
import Derived.WalkSpells
import Derived.WalkLawsBesides
import Derived.Deep.QuietTactic
import Derived.BigQuiet
import Derived.Laws.StructEq
import Derived.Test.YtpefdonhacmaoaaBe17
import Derived.Test.YtpefdonhacmaoaaBe23
import Derived.Test.YtpefdonhacmaoaaBe25
import Derived.Test.YtpefdonhacmaoaaBe27
import Derived.Test.YtpefdonhacmaoaaBe16
import Derived.ProofKit
import Derived.OpenShut
import Derived.Deep.Matrix
set_option linter.unusedVariables false
set_option linter.unusedSimpArgs false
namespace Go.Proofs.Ytpefdonhacmaoaa
open Go.RowKit

theorem run_neq_pair (k : ByteArray) (n : Int) (w : World) : (binOp .neq 46 (.agg #[.string k, .int .i64 n]) (.agg #[.string k, .int .i64 n])).run Try.prog w = .ok (.bool false) w := by
  have u3 := Try.underlying3
  have u9 := Try.underlying9
  have a3 := Try.isAgg3
  have z3 := Try.sizeOf3
  have a9 := Try.isAgg9
  have z9 := Try.sizeOf9
  have hS : Try.prog.underlying 46 = some (.struct (Try.prog.fieldsOf 46)) := by kernel_rfl
  have hp : Try.prog.stoodInHeld 46 = false := by kernel_rfl
  rw [run_neq_struct, show (10000 : Nat) = 9999 + 1 from rfl, run_equalIn_agg w 9999 46 _ _ hS hp]
  simp only [Program.fieldsOf, Try.underlying46]
  go_simp

theorem guard_pair (x y : Operand) (xs ys : Array Value) (w : World) : (eqGuard .neq 46 x y (.agg xs) (.agg ys)).run Try.prog w = .ok () w := run_eqGuard_agg w .neq 46 x y xs ys (by kernel_rfl)

set_option maxHeartbeats 400000 in
set_option maxRecDepth 100000 in
theorem equal_same (A1 A2 : Option Addr) (c1 c2 : Nat) (l : List Pr) (w : World) (h1 : PS w w.heap.size A1 l) (h2 : PS w w.heap.size A2 l) (hl : l.length < 4611686018427387904) :
    Calls Try.prog 13 #[.slice A1 l.length c1, .slice A2 l.length c2] w fun e w' => e = .returned (.bool true) ∧ Below w.heap.size w w' := by
  have d0 : ((l.length : Int) != (l.length : Int)) = false := by simp
  go_enter Try.func13, Try.ntmps13
  go_wp2_with fail
  go_loopw [13] (fun i wr => ∃ k : Nat, k ≤ l.length ∧ i = .int .i64 k ∧ Below w.heap.size w wr) (fun i _ => l.length - (intOf i).toNat)
  case atStart => exact ⟨0, Nat.zero_le _, rfl, Below.refl _ _⟩
  case round =>
    obtain ⟨k, hk, rfl, hb⟩ := hrel
    by_cases hlt : k < l.length
    · obtain ⟨b, o, rfl, hbl, q1, q2⟩ := h1.below hb k _ (List.getElem?_eq_getElem hlt)
      obtain ⟨b', o', rfl, hbl', q3, q4⟩ := h2.below hb k _ (List.getElem?_eq_getElem hlt)
      clear h1 h2
      generalize l[k] = p at q1 q2 q3 q4
      have g1 : (0 : Int) ≤ (k : Int) := by omega
      have g2 : (k : Int) < (l.length : Int) := by omega
      have n1 := run_neq_pair p.1 p.2
      have n2 := guard_pair
      go_wp2_with fail
      go_quiet (fail)
      go_wp2_with fail
      go_roundw
      case rel => exact ⟨k + 1, by omega, by go_num, ⟨hb.os, hb.tape, hb.output, hb.size, hb.block⟩⟩
      case measure => simp [intOf]; omega
    · go_wp2_with fail
      go_ret
      exact ⟨rfl, hb⟩
end Go.Proofs.Ytpefdonhacmaoaa

set_option linter.unusedVariables false
set_option linter.unusedSimpArgs false
namespace Go.Proofs.Ytpefdonhacmaoaa
open Go.RowKit

/-- two partitioned stores with the same union, and the transactions -/
structure MiH (w : World) (g1 : Nat) (m1 : Mp) (q1 : Dv) (g2 : Nat) (m2 : Mp) (q2 : Dv) (l : List Pr) (Ad : Option Addr) (cd : Nat) (ds : List Dl) (wr : World) : Prop where
  p1 : PB wr w.heap.size g1 m1 l q1
  p2 : PB wr w.heap.size g2 m2 l q2
  ne : g1 ≠ g2
  dd : Dds wr w.heap.size Ad cd ds
  be : Below w.heap.size w wr
section
variable {w wr w' : World} {g1 g2 cd : Nat} {m1 m2 m' : Mp} {q1 q2 q' : Dv} {l l' : List Pr} {Ad : Option Addr} {ds : List Dl}
theorem MiH.below (h : MiH w g1 m1 q1 g2 m2 q2 l Ad cd ds wr) (hb : Below wr.heap.size wr w') : MiH w g1 m1 q1 g2 m2 q2 l Ad cd ds w' := ⟨h.p1.below hb, h.p2.below hb, h.ne, h.dd.below_ hb, h.be.trans (hb.mono h.be.size)⟩
theorem MiH.turn (h : MiH w g1 m1 q1 g2 m2 q2 l Ad cd ds wr) (hp : PB w' w.heap.size g1 m' l q') (hg : wr.grownBy w' (some g1)) : MiH w g1 m' q' g2 m2 q2 l Ad cd ds w' :=
  ⟨hp, h.p2.kept h.ne.symm h.p1.box.ty (by decide) (by decide) (by decide) hg, h.ne, h.dd.kept h.p1.box.ty (by decide) (by decide) hg, Below.kept h.be h.p1.low hg⟩
end
def MiI (w : World) (g1 g2 : Nat) (m2 : Mp) (Ad : Option Addr) (cd : Nat) (ds : List Dl) (i : Value) (wr : World) : Prop :=
  ∃ (k : Nat) (m1 : Mp) (q1 q2 : Dv) (l : List Pr), k ≤ ds.length ∧ i = .int .i64 k ∧ MiH w g1 m1 q1 g2 m2 q2 l Ad cd ds wr

set_option maxHeartbeats 4000000 in
set_option maxRecDepth 100000 in
theorem pmid_walk (P R T D : Option Addr) (cp cr ct cd : Nat) (zs rs ts : List Int) (cs : List Cl) (at_ : Int) (w : World) (hP : IS w P zs) (hl : zs.length ≤ cp) (hc : cp ≤ 9223372036854775807) (hn : P = none → cp = 0)
    (hR : IS w R rs) (hlr : rs.length ≤ cr) (hcr : cr ≤ 9223372036854775807) (hnr : R = none → cr = 0)
    (hT : IS w T ts) (hlt : ts.length ≤ ct) (hct : ct ≤ 9223372036854775807) (hnt : T = none → ct = 0)
    (hD : LS w D cs) (hDl : cs.length ≤ cd) (hDc : cd ≤ 9223372036854775807) (hDn : D = none → cd = 0) :
    Calls Try.prog 5 #[.slice P zs.length cp, .slice R rs.length cr, .slice T ts.length ct, .slice D cs.length cd, .int .i64 at_] w fun e w' => e = .returned (.bool true) ∧ Below w.heap.size w w' := by
  go_enter Try.func5, Try.ntmps5
  go_wp2_with fail
  refine (ptbegun_any _).mono ?_
  rintro e w1 ⟨rfl, hb1⟩
  go_wp2_with fail
  refine (kmap_is P cp zs _ (hP.below hb1) (by omega)).mono ?_
  rintro e w2 ⟨A2, ca2, O2, co2, rfl, hmo, hb2⟩
  have hb := hb1.trans (hb2.mono hb1.size)
  clear hb2 hb1
  go_wp2_with fail
  refine (pairs_is T ct ts _ (hT.below hb) hlt hct hnt).mono ?_
  rintro e w3 ⟨A3, c3, l, rfl, hsv, hsm, hv3, hb3⟩
  replace hmo := hmo.below hb3
  replace hb := hb.trans (hb3.mono hb.size)
  have HV3 := hideP hv3
  have hokl := hsm.ok
  clear hb3 hv3 hsm
  go_wp2_with fail
  refine (new_ok ⟨A2, ca2, mpC zs, O2, co2, mpO zs⟩ A3 c3 l _ hmo.ms hsv.ps (mp_ok zs) hokl).mono ?_
  rintro e w4 ⟨g1, A4, ca4, O4, co4, q1, rfl, hp1, hb4⟩
  replace hp1 := hp1.mono hb.size
  replace hb := hb.trans (hb4.mono hb.size)
  clear hb4 hmo hsv
  go_wp2_with fail
  refine (kmap_is R cr rs _ (hR.below hb) (by omega)).mono ?_
  rintro e w5 ⟨A5, ca5, O5, co5, rfl, hmo, hb5⟩
  replace hp1 := hp1.below hb5
  replace hb := hb.trans (hb5.mono hb.size)
  clear hb5
  go_wp2_with fail
  refine (pairs_is T ct ts _ (hT.below hb) hlt hct hnt).mono ?_
  rintro e w6 ⟨A6, c6, l6, rfl, hsv, hsm, hv6, hb6⟩
  have e6 : l6 = l := hsm.ok.ext hokl fun k => by rw [hv6, HV3.out]
  subst e6
  replace hp1 := hp1.below hb6
  replace hmo := hmo.below hb6
  replace hb := hb.trans (hb6.mono hb.size)
  clear hb6 hv6 hsm HV3
  go_wp2_with fail
  refine (new_ok ⟨A5, ca5, mpC rs, O5, co5, mpO rs⟩ A6 c6 l6 _ hmo.ms hsv.ps (mp_ok rs) hokl).mono ?_
  rintro e w7 ⟨g2, A7, ca7, O7, co7, q2, rfl, hp2, hb7⟩
  have hne : g1 ≠ g2 := by have := hp1.box.lt; have := hp2.low; omega
  replace hp1 := hp1.below hb7
  replace hp2 := hp2.mono hb.size
  replace hb := hb.trans (hb7.mono hb.size)
  clear hb7 hmo hsv hokl
  generalize (⟨A4, ca4, mpC zs, O4, co4, mpO zs⟩ : Mp) = m1 at hp1
  generalize (⟨A7, ca7, mpC rs, O7, co7, mpO rs⟩ : Mp) = m2 at hp2
  go_wp2_with fail
  refine (deeds_any D cd 12 cs _ (hD.below hb) hDl hDc hDn (by omega)).mono ?_
  rintro e w8 ⟨Ad, cdd, ds, rfl, hdd, hdl, hb8⟩
  have hM : MiH w g1 m1 q1 g2 m2 q2 l6 Ad cdd ds w8 := ⟨hp1.below hb8, hp2.below hb8, hne, ⟨hdd.or.mono hb.size, fun x hx => (hdd.oo x hx).mono hb.size, hdd.ap, hdd.pw, hdd.good⟩, hb.trans (hb8.mono hb.size)⟩
  have hchk := hdd.chk
  clear hb8 hdd hp1 hp2 hne hb
  have hw1 : IntKind.i64.wrap ((ds.length : Int) + 1) = ((ds.length + 1 : Nat) : Int) := by simp only [IntKind.wrap_i64]; omega
  go_wp2_with fail
  refine (within_any at_ (ds.length + 1) (by omega) (by omega) _).mono ?_
  rintro e w9 ⟨rfl, rfl⟩
  generalize wi at_ (ds.length + 1) = a
  clear hw1
  go_wp2_with fail
  go_loopw [57] (MiI w g1 g2 m2 Ad cdd ds) (fun i _ => ds.length - (intOf i).toNat)
  case atStart => exact ⟨0, m1, q1, q2, l6, Nat.zero_le _, rfl, hM⟩
  case round =>
    clear hM
    obtain ⟨k, m1, q1, q2, l, hk, rfl, hM⟩ := hrel
    by_cases hkl : k < ds.length
    · obtain ⟨⟨b, o, rfl, hbl, x1⟩, hos⟩ := hM.dd.ds.at_ hkl
      have hcd := hchk _ (List.getElem_mem hkl)
      have hmem := List.getElem_mem hkl
      generalize ds[k] = x at x1 hos hcd hmem
      obtain ⟨Dx, cx, dx⟩ := x
      simp only [dlV] at x1
      simp only at hos hcd
      have hal := (Below.refl wr.heap.size wr).alloc (Nat.le_refl _) (.cells #[.slice Dx dx.length cx] 39)
      have y := Box.new wr 39 #[.slice Dx dx.length cx]
      replace hM := hM.below hal
      clear hal hos
      have y0 := y.cell 0 (v := .slice Dx dx.length cx) rfl
      by_cases hat : k = a
      · have d0 : ((k : Int) == (a : Int)) = true := by simp [hat]
        clear hat
        go_wp2_with fail
        generalize wr.alloc _ = w10 at hM y y0 ⊢
        generalize wr.heap.size = gd at y y0 ⊢
        refine (kmap_is R cr rs _ (hR.below hM.be) (by omega)).mono ?_
        rintro e w11 ⟨A11, ca11, O11, co11, rfl, hmo, hb11⟩
        replace hM := hM.below hb11
        replace y := y.below hb11
        clear hb11
        go_wp2_with fail
        refine (turn_ok w.heap.size g1 m1 l q1 ⟨A11, ca11, mpC rs, O11, co11, mpO rs⟩ _ hM.p1 hmo.ms (mp_ok rs)).mono ?_
        rintro e w12 ⟨rfl, A12, ca12, O12, co12, q12, hp12, hg12⟩
        replace y := y.kept (ty_ne y.ty hM.p1.box.ty (by decide)) hg12
        replace hM := hM.turn hp12 hg12
        have y0 := y.cell 0 (v := .slice Dx dx.length cx) rfl
        generalize (⟨A12, ca12, mpC rs, O12, co12, mpO rs⟩ : Mp) = m12 at hM
        generalize movN m1.cs m1.os (⟨A11, ca11, mpC rs, O11, co11, mpO rs⟩ : Mp).cs (⟨A11, ca11, mpC rs, O11, co11, mpO rs⟩ : Mp).os l = mv
        clear hp12 hg12 hmo
        go_wp2_with fail
        refine (do_ok w.heap.size g1 _ l _ Dx cx dx _ hM.p1 ((hM.dd.ds).os _ hmem) hcd).mono ?_
        rintro e w13 ⟨rfl, l13, q13, hp13, hv13, hg13⟩
        replace y := y.kept (ty_ne y.ty hM.p1.box.ty (by decide)) hg13
        have y1 := y.cell 0 (v := .slice Dx dx.length cx) rfl
        have hp2' := hM.p2.kept hM.ne.symm hM.p1.box.ty (by decide) (by decide) (by decide) hg13
        have hdd' := hM.dd.kept hM.p1.box.ty (by decide) (by decide) hg13
        have hbe' := Below.kept hM.be hM.p1.low hg13
        have hne := hM.ne
        have HV13 := hideP hv13
        clear hM hg13 hv13 y0
        have HDO := hideP (do_ok w.heap.size g2 m2 l q2 Dx cx dx _ hp2' ((hdd'.ds).os _ hmem) hcd)
        generalize doneV (valOf l) dx = r at HV13 HDO ⊢
        go_wp2_with fail
        refine HDO.out.mono ?_
        rintro e w14 ⟨rfl, l14, q14, hp14, hv14, hg14⟩
        have e14 : l14 = l13 := hp14.ok.ext hp13.ok fun k => by rw [hv14, HV13.out]
        subst e14
        have hp13' := hp13.kept hne hp2'.box.ty (by decide) (by decide) (by decide) hg14
        have hM : MiH w g1 _ q13 g2 m2 q14 l14 _ cdd ds w14 := ⟨hp13', hp14, hne, hdd'.kept hp2'.box.ty (by decide) (by decide) hg14, Below.kept hbe' hp2'.low hg14⟩
        have hsm := hp14.ok.small
        clear HDO HV13 hp13 hp13' hp14 hv14 hg14 hp2' hdd' hbe' hne y y1
        go_wp2_with fail
        refine (all_ok w.heap.size g1 _ l14 q13 _ hM.p1).mono ?_
        rintro e w15 ⟨A15, c15, rfl, ho15, hb15⟩
        replace hM := hM.below hb15
        clear hb15
        go_wp2_with fail
        refine (all_ok w.heap.size g2 m2 l14 q14 _ hM.p2).mono ?_
        rintro e w16 ⟨A16, c16, rfl, ho16, hb16⟩
        replace hM := hM.below hb16
        have hs15 := (ho15.below hb16).sv
        have hs16 := ho16.sv
        clear hb16 ho15 ho16
        go_wp2_with fail
        refine (equal_same _ _ _ _ l14 _ hs15.ps hs16.ps (by omega)).mono ?_
        rintro e w17 ⟨rfl, hb17⟩
        replace hM := hM.below hb17
        clear hb17 hs15 hs16
        go_wp2_with fail
        go_roundw
        case rel => exact ⟨k + 1, _, q13, q14, l14, by omega, by go_num, hM⟩
        case measure => simp [intOf]; omega
      · have d0 : ((k : Int) == (a : Int)) = false := by simp; omega
        clear hat
        go_wp2_with fail
        generalize wr.alloc _ = w10 at hM y y0 ⊢
        generalize wr.heap.size = gd at y y0 ⊢
        refine (do_ok w.heap.size g1 _ l _ Dx cx dx _ hM.p1 ((hM.dd.ds).os _ hmem) hcd).mono ?_
        rintro e w13 ⟨rfl, l13, q13, hp13, hv13, hg13⟩
        replace y := y.kept (ty_ne y.ty hM.p1.box.ty (by decide)) hg13
        have y1 := y.cell 0 (v := .slice Dx dx.length cx) rfl
        have hp2' := hM.p2.kept hM.ne.symm hM.p1.box.ty (by decide) (by decide) (by decide) hg13
        have hdd' := hM.dd.kept hM.p1.box.ty (by decide) (by decide) hg13
        have hbe' := Below.kept hM.be hM.p1.low hg13
        have hne := hM.ne
        have HV13 := hideP hv13
        clear hM hg13 hv13 y0
        have HDO := hideP (do_ok w.heap.size g2 m2 l q2 Dx cx dx _ hp2' ((hdd'.ds).os _ hmem) hcd)
        generalize doneV (valOf l) dx = r at HV13 HDO ⊢
        go_wp2_with fail
        refine HDO.out.mono ?_
        rintro e w14 ⟨rfl, l14, q14, hp14, hv14, hg14⟩
        have e14 : l14 = l13 := hp14.ok.ext hp13.ok fun k => by rw [hv14, HV13.out]
        subst e14
        have hp13' := hp13.kept hne hp2'.box.ty (by decide) (by decide) (by decide) hg14
        have hM : MiH w g1 _ q13 g2 m2 q14 l14 _ cdd ds w14 := ⟨hp13', hp14, hne, hdd'.kept hp2'.box.ty (by decide) (by decide) hg14, Below.kept hbe' hp2'.low hg14⟩
        have hsm := hp14.ok.small
        clear HDO HV13 hp13 hp13' hp14 hv14 hg14 hp2' hdd' hbe' hne y y1
        go_wp2_with fail
        refine (all_ok w.heap.size g1 _ l14 q13 _ hM.p1).mono ?_
        rintro e w15 ⟨A15, c15, rfl, ho15, hb15⟩
        replace hM := hM.below hb15
        clear hb15
        go_wp2_with fail
        refine (all_ok w.heap.size g2 m2 l14 q14 _ hM.p2).mono ?_
        rintro e w16 ⟨A16, c16, rfl, ho16, hb16⟩
        replace hM := hM.below hb16
        have hs15 := (ho15.below hb16).sv
        have hs16 := ho16.sv
        clear hb16 ho15 ho16
        go_wp2_with fail
        refine (equal_same _ _ _ _ l14 _ hs15.ps hs16.ps (by omega)).mono ?_
        rintro e w17 ⟨rfl, hb17⟩
        replace hM := hM.below hb17
        clear hb17 hs15 hs16
        go_wp2_with fail
        go_roundw
        case rel => exact ⟨k + 1, _, q13, q14, l14, by omega, by go_num, hM⟩
        case measure => simp [intOf]; omega
    · have hbe := hM.be
      go_wp2_with fail
      go_ret
      exact ⟨rfl, hbe⟩
end Go.Proofs.Ytpefdonhacmaoaa

set_option linter.unusedVariables false
set_option linter.unusedSimpArgs false
namespace Go.Proofs.Ytpefdonhacmaoaa
open Go.RowKit Go.ChangeShapes Go.WideShapes Go.Deep

theorem lit_of_cell {W : World} {a : Addr} {v : Value} (h : W.cell? (a.add 0) = some v) : ∃ b o, a = ⟨b, o, none⟩ := by
  obtain ⟨b, o, sp⟩ := a
  have hsp : sp = none := by simpa [Addr.add] using World.cell?_spot h
  subst hsp
  exact ⟨b, o, rfl⟩
theorem open_is {H : Type} {enc : TypeId × Value → H} {W : World} {A : Option Addr} {len cap : Nat} {d : DataW H} {p : List MemPlace} (h : DataW.Trod enc Try.prog W 0 (fun _ => true) true 22 (.slice A len cap) d p) :
    ∃ ys : List Int, len = ys.length ∧ IS W A ys ∧ ys.length ≤ cap ∧ cap ≤ 9223372036854775807 ∧ (A = none → cap = 0) := by
  obtain ⟨fuel, hf⟩ := h
  rcases open_ints Try.underlying22 Try.underlying3 (by kernel_rfl) hf with ⟨hcs, _⟩ | ⟨x, l, c, zs, hcs, _, hl, hm, hz, _, hcell, hwz⟩
  · simp [Value.cells] at hcs
    obtain ⟨rfl, rfl, rfl⟩ := hcs
    exact ⟨[], rfl, fun i z hz => by simp at hz, by simp, by simp, fun _ => rfl⟩
  · simp [Value.cells] at hcs
    obtain ⟨rfl, rfl, rfl⟩ := hcs
    simp only [if_true] at hz
    refine ⟨zs.take len, by simp; omega, fun i z hi => ?_, by simp; omega, by unfold maxLen at hm; exact hm, fun e => by cases e⟩
    rw [List.getElem?_take] at hi
    split at hi
    · have hlt : i < zs.length := by omega
      have hc := hcell i hlt
      obtain ⟨b, o, rfl⟩ := lit_of_cell (hcell 0 (by omega))
      rw [Addr.add_lit] at hc
      refine ⟨b, o, rfl, cell_lt hc, ?_⟩
      rw [hc]
      simp [hlt] at hi
      simp [hlt, hi]
    · cases hi
theorem open_ls {H : Type} {enc : TypeId × Value → H} {W : World} {A : Option Addr} {len cap : Nat} {d : DataW H} {p : List MemPlace} (h : DataW.Trod enc Try.prog W 0 (fun _ => true) true 23 (.slice A len cap) d p) :
    ∃ cs : List Cl, len = cs.length ∧ LS W A cs ∧ cs.length ≤ cap ∧ cap ≤ 9223372036854775807 ∧ (A = none → cap = 0) := by
  obtain ⟨fuel, hf⟩ := h
  rcases open_int_rows Try.underlying23 Try.underlying22 Try.underlying3 (by kernel_rfl) (by kernel_rfl) hf with ⟨hcs, _⟩ | ⟨a, l, c, Ar, L, C, Z, hcs, _, hl, hm, _, hr⟩
  · simp [Value.cells] at hcs
    obtain ⟨rfl, rfl, rfl⟩ := hcs
    exact ⟨[], rfl, ⟨VS.nil, by simp⟩, by simp, by simp, fun _ => rfl⟩
  · simp [Value.cells] at hcs
    obtain ⟨rfl, rfl, rfl⟩ := hcs
    refine ⟨(List.range len).map fun r => ⟨Ar r, C r, (Z r).take (L r)⟩, by simp, ⟨fun i v hv => ?_, fun x hx => ?_⟩, by simpa using hl, by unfold maxLen at hm; exact hm, fun e => by cases e⟩
    · have hi : i < len := by
        rcases Nat.lt_or_ge i len with h | h
        · exact h
        · simp [h] at hv
      obtain ⟨h1, h2, h3, h4, _⟩ := hr i (by omega)
      simp [hi, clV] at hv
      obtain ⟨b, o, rfl⟩ := lit_of_cell (hr 0 (by omega)).1
      rw [Addr.add_lit] at h1
      refine ⟨b, o, rfl, cell_lt h1, ?_⟩
      rw [h1, ← hv]
      congr 2
      omega
    · simp at hx
      obtain ⟨r, hlt, rfl⟩ := hx
      obtain ⟨h1, h2, h3, h4, h5, h6, h7⟩ := hr r (by omega)
      refine ⟨fun i z hz => ?_, by simp; omega, by unfold maxLen at h3; exact h3⟩
      simp only at hz ⊢
      rw [List.getElem?_take] at hz
      split at hz
      · have hlt2 : i < (Z r).length := by
          rcases Nat.lt_or_ge i (Z r).length with h | h
          · exact h
          · simp [h] at hz
        cases hA : Ar r with
        | none => have := h6 hA; omega
        | some a' =>
          have hc := (h7 a' hA).2 i (by omega)
          obtain ⟨b, o, rfl⟩ := lit_of_cell ((h7 a' hA).2 0 (by omega))
          rw [Addr.add_lit] at hc
          refine ⟨b, o, rfl, cell_lt hc, ?_⟩
          rw [hc]
          simp [hlt2] at hz
          simp [hlt2, hz]
      · cases hz
end Go.Proofs.Ytpefdonhacmaoaa
