/-
  slices.Equal at pairs: two that read the same are equal.
  rokeep.run.
  The walk of PartsRun.
  Slices of ints, and slices of slices of ints, that came in, opened.
-/
import Derived.Test.YtpefdonhacmaoaaBd7
import Derived.WalkKit
import Derived.WalkSpells
import Derived.WalkLawsBesides
import Derived.Deep.QuietTactic
import Derived.BigQuiet
import Derived.Laws.StructEq
import Derived.Test.YtpefdonhacmaoaaBd22
import Derived.Test.YtpefdonhacmaoaaBd17
import Derived.Test.YtpefdonhacmaoaaBd23
import Derived.Test.YtpefdonhacmaoaaBd25
import Derived.Test.YtpefdonhacmaoaaBd8
import Derived.Test.YtpefdonhacmaoaaBd16
import Derived.ProofKit
import Derived.OpenShut
import Derived.Deep.Matrix
set_option linter.unusedVariables false
set_option linter.unusedSimpArgs false
namespace Go.Proofs.Ytpefdonhacmaoaa
open Go.RowKit

theorem run_neq_pair (k : ByteArray) (n : Int) (w : World) : (binOp .neq 46 (.agg #[.string k, .int .i64 n]) (.agg #[.string k, .int .i64 n])).run Try.prog w = .ok (.bool false) w := by
  have u3 := Try.underlying3
  have u9 := Try.underlying9
  have a3 := Try.isAgg3
  have z3 := Try.sizeOf3
  have a9 := Try.isAgg9
  have z9 := Try.sizeOf9
  have hS : Try.prog.underlying 46 = some (.struct (Try.prog.fieldsOf 46)) := by kernel_rfl
  have hp : Try.prog.stoodInHeld 46 = false := by kernel_rfl
  rw [run_neq_struct, show (10000 : Nat) = 9999 + 1 from rfl, run_equalIn_agg w 9999 46 _ _ hS hp]
  simp only [Program.fieldsOf, Try.underlying46]
  go_simp

theorem guard_pair (x y : Operand) (xs ys : Array Value) (w : World) : (eqGuard .neq 46 x y (.agg xs) (.agg ys)).run Try.prog w = .ok () w := run_eqGuard_agg w .neq 46 x y xs ys (by kernel_rfl)

set_option maxHeartbeats 400000 in
set_option maxRecDepth 100000 in
theorem equal_same (A1 A2 : Option Addr) (c1 c2 : Nat) (l : List Pr) (w : World) (h1 : PS w w.heap.size A1 l) (h2 : PS w w.heap.size A2 l) (hl : l.length < 4611686018427387904) :
    Calls Try.prog 13 #[.slice A1 l.length c1, .slice A2 l.length c2] w fun e w' => e = .returned (.bool true) ∧ Below w.heap.size w w' := by
  have d0 : ((l.length : Int) != (l.length : Int)) = false := by simp
  go_enter Try.func13, Try.ntmps13
  go_wp2_with fail
  go_loopw [13] (fun i wr => ∃ k : Nat, k ≤ l.length ∧ i = .int .i64 k ∧ Below w.heap.size w wr) (fun i _ => l.length - (intOf i).toNat)
  case atStart => exact ⟨0, Nat.zero_le _, rfl, Below.refl _ _⟩
  case round =>
    obtain ⟨k, hk, rfl, hb⟩ := hrel
    by_cases hlt : k < l.length
    · obtain ⟨b, o, rfl, hbl, q1, q2⟩ := h1.below hb k _ (List.getElem?_eq_getElem hlt)
      obtain ⟨b', o', rfl, hbl', q3, q4⟩ := h2.below hb k _ (List.getElem?_eq_getElem hlt)
      clear h1 h2
      generalize l[k] = p at q1 q2 q3 q4
      have g1 : (0 : Int) ≤ (k : Int) := by omega
      have g2 : (k : Int) < (l.length : Int) := by omega
      have n1 := run_neq_pair p.1 p.2
      have n2 := guard_pair
      go_wp2_with fail
      go_quiet (fail)
      go_wp2_with fail
      go_roundw
      case rel => exact ⟨k + 1, by omega, by go_num, ⟨hb.os, hb.tape, hb.output, hb.size, hb.block⟩⟩
      case measure => simp [intOf]; omega
    · go_wp2_with fail
      go_ret
      exact ⟨rfl, hb⟩
end Go.Proofs.Ytpefdonhacmaoaa

set_option linter.unusedVariables false
set_option linter.unusedSimpArgs false
namespace Go.Proofs.Ytpefdonhacmaoaa
open Go.RowKit

/-- what run hands back -/
def RetRun3 (w : World) (r : VF × Bool) (e : Ending) (w' : World) : Prop :=
  ∃ A c l, e = .returned (.tuple #[.slice A (l : List Pr).length c, .bool r.2, .bool true]) ∧ OV w' w.heap.size A c l ∧ Ok l ∧ valOf l = r.1 ∧ Below w.heap.size w w'
set_option maxHeartbeats 400000 in
set_option maxRecDepth 100000 in
theorem rrun_ok (A D : Option Addr) (c cd : Nat) (l : List Pr) (d : List Opr) (w : World) (hA : SV w A c l) (h : Ok l) (hD : OS w w.heap.size D d) (hd : chkD d = 0) :
    Calls Try.prog 11 #[.slice A l.length c, .agg #[.slice D d.length cd]] w (RetRun3 w (doneV (valOf l) d)) := by
  have hb0 := (Below.refl w.heap.size w).alloc (Nat.le_refl _) (.cells #[.slice D d.length cd] 39)
  have hA0 := hA.below hb0
  have hD0 := hD.go hb0
  go_enter Try.func11, Try.ntmps11
  go_wp2_with fail
  refine (run_ok A D c cd l d _ hA0 h hD0 hd).mono ?_
  rintro e w1 ⟨A1, c1, l1, rfl, hO, hok, hv, hb1⟩
  have HV := hideP hv
  have hb2 := hb0.trans (hb1.mono hb0.size)
  have hO2 := hO.mono hb0.size
  clear hv
  go_wp2_with fail
  go_ret3
  exact ⟨A1, c1, l1, rfl, hO2, hok, HV.out, hb2⟩

end Go.Proofs.Ytpefdonhacmaoaa

set_option linter.unusedVariables false
set_option linter.unusedSimpArgs false
namespace Go.Proofs.Ytpefdonhacmaoaa
open Go.RowKit

/-- between two transactions -/
structure RnH (w : World) (gm : Nat) (m : Mp) (g : Nat) (mp : Mp) (l : List Pr) (q : Dv) (Ad : Option Addr) (cd : Nat) (ds : List Dl) (wr : World) : Prop where
  pb : PB wr w.heap.size g mp l q
  mx : MX w gm m wr
  dd : Dds wr w.heap.size Ad cd ds
theorem RnH.below {w wr w' : World} {gm g cd : Nat} {m mp : Mp} {l : List Pr} {q : Dv} {Ad : Option Addr} {ds : List Dl} (h : RnH w gm m g mp l q Ad cd ds wr) (hb : Below wr.heap.size wr w') : RnH w gm m g mp l q Ad cd ds w' := ⟨h.pb.below hb, h.mx.below hb, h.dd.below_ hb⟩
theorem RnH.kept {w wr w' : World} {gm g cd : Nat} {m mp : Mp} {l l' : List Pr} {q q' : Dv} {Ad : Option Addr} {ds : List Dl} (h : RnH w gm m g mp l q Ad cd ds wr) (hp : PB w' w.heap.size g mp l' q') (hg : wr.grownBy w' (some g)) : RnH w gm m g mp l' q' Ad cd ds w' :=
  ⟨hp, h.mx.kept h.pb.box.ty h.pb.low hg, h.dd.kept h.pb.box.ty (by decide) (by decide) hg⟩
def RnI (w : World) (gm : Nat) (m : Mp) (g : Nat) (mp : Mp) (Ad : Option Addr) (cd : Nat) (ds : List Dl) (v i : Value) (wr : World) : Prop :=
  ∃ (k : Nat) (A : Option Addr) (c : Nat) (l : List Pr) (q : Dv), k ≤ ds.length ∧ i = .int .i64 k ∧ v = .slice A l.length c ∧ SV wr A c l ∧ RnH w gm m g mp l q Ad cd ds wr

set_option maxHeartbeats 4000000 in
set_option maxRecDepth 100000 in
theorem prun_walk (P T D : Option Addr) (cp ct cd : Nat) (zs ts : List Int) (cs : List Cl) (w : World) (hP : IS w P zs) (hl : zs.length ≤ cp) (hc : cp ≤ 9223372036854775807) (hn : P = none → cp = 0)
    (hT : IS w T ts) (hlt : ts.length ≤ ct) (hct : ct ≤ 9223372036854775807) (hnt : T = none → ct = 0)
    (hD : LS w D cs) (hDl : cs.length ≤ cd) (hDc : cd ≤ 9223372036854775807) (hDn : D = none → cd = 0) :
    Calls Try.prog 3 #[.slice P zs.length cp, .slice T ts.length ct, .slice D cs.length cd] w fun e w' => e = .returned (.bool true) ∧ Below w.heap.size w w' := by
  go_enter Try.func3, Try.ntmps3
  go_wp2_with fail
  refine (ptbegun_any _).mono ?_
  rintro e w1 ⟨rfl, hb1⟩
  replace hP := hP.below hb1
  replace hT := hT.below hb1
  replace hD := hD.below hb1
  go_wp2_with fail
  refine (kmap_mk P cp zs _ hP (by omega)).mono ?_
  rintro e w2 ⟨m, rfl, hok, h6, hmo, hb2⟩
  replace hT := hT.below hb2
  replace hD := hD.below hb2
  have hb2' := hb1.trans (hb2.mono hb1.size)
  clear hP
  go_wp2_with fail
  refine (pairs_any T ct ts _ hT hlt hct hnt).mono ?_
  rintro e w3 ⟨As, cs', s, rfl, hsv, hsm, hb3⟩
  have hM := MX.mk_ ((hmo.mono hb1.size).below hb3) (hb2'.trans (hb3.mono hb2'.size))
  have hal := (Below.refl w3.heap.size w3).alloc (Nat.le_refl _) (.cells #[.slice m.A m.cs.length m.ca, .slice m.O m.os.length m.co] 27)
  have hs0 := hsv.below hal
  replace hD := (hD.below hb3).below hal
  have hokl := hsm.ok
  clear hb1 hb2 hb3 hb2' hmo hT hsm hsv hal
  obtain ⟨z1, z2⟩ := hM.c
  go_wp2_with fail
  generalize w3.alloc _ = w4 at hM hs0 hD z1 z2 ⊢
  generalize w3.heap.size = gm at hM z1 z2 ⊢
  refine (new_ok m As cs' s _ hM.ms hs0.ps hok hokl).mono ?_
  rintro e w5 ⟨g, A5, ca5, O5, co5, q, rfl, hPB, hb5⟩
  have hPB5 := hPB.mono hM.be.size
  replace hM := hM.below hb5
  replace hs0 := hs0.below hb5
  replace hD := hD.below hb5
  clear hb5 hPB z1 z2
  go_wp2_with fail
  refine (deeds_any D cd 15 cs _ hD hDl hDc hDn (by omega)).mono ?_
  rintro e w6 ⟨Ad, cdd, ds, rfl, hdd, hdl, hb6⟩
  have hR : RnH w gm m g ⟨A5, ca5, m.cs, O5, co5, m.os⟩ s q Ad cdd ds w6 := ⟨hPB5.below hb6, hM.below hb6, ⟨hdd.or.mono hM.be.size, fun x hx => (hdd.oo x hx).mono hM.be.size, hdd.ap, hdd.pw, hdd.good⟩⟩
  replace hs0 := hs0.below hb6
  have hchk := hdd.chk
  clear hb6 hD hdd hPB5 hM hokl
  generalize hmp : (⟨A5, ca5, m.cs, O5, co5, m.os⟩ : Mp) = mp at hR
  have HMP := hideP (show mp.cs = m.cs ∧ mp.os = m.os by rw [← hmp]; exact ⟨rfl, rfl⟩)
  clear hmp
  go_wp2_with fail
  go_loopw [8, 40] (RnI w gm m g mp Ad cdd ds) (fun _ i _ => ds.length - (intOf i).toNat)
  case atStart => exact ⟨0, As, cs', s, q, Nat.zero_le _, rfl, rfl, hs0, hR⟩
  case round =>
    clear hR hs0
    obtain ⟨k, A, c, l, q, hk, rfl, rfl, hs, hR⟩ := hrel
    by_cases hkl : k < ds.length
    · obtain ⟨⟨b, o, rfl, hbl, q1⟩, hos⟩ := hR.dd.ds.at_ hkl
      have hcd := hchk _ (List.getElem_mem hkl)
      generalize ds[k] = x at q1 hos hcd
      obtain ⟨Dx, cx, dx⟩ := x
      simp only [dlV] at q1
      simp only at hos hcd
      have hal := (Below.refl wr.heap.size wr).alloc (Nat.le_refl _) (.cells #[.slice Dx dx.length cx] 39)
      have y := Box.new wr 39 #[.slice Dx dx.length cx]
      replace hR := hR.below hal
      replace hs := hs.below hal
      replace hos := hos.go hal
      clear hal
      have y0 := y.cell 0 (v := .slice Dx dx.length cx) rfl
      go_wp2_with fail
      generalize wr.alloc _ = w7 at hR hs hos y y0 ⊢
      generalize wr.heap.size = gd at y y0 ⊢
      refine (rrun_ok A Dx c cx l dx _ hs hR.pb.ok hos hcd).mono ?_
      rintro e w8 ⟨A8, c8, l8, rfl, ho8, hok8, hv8, hb8⟩
      replace hR := hR.below hb8
      replace hos := hos.go hb8
      replace y := y.below hb8
      have y1 := y.cell 0 (v := .slice Dx dx.length cx) rfl
      have HV8 := hideP hv8
      have HDO := hideP (do_ok w.heap.size g mp l q Dx cx dx _ hR.pb hos hcd)
      generalize doneV (valOf l) dx = r at HV8 HDO ⊢
      clear hv8 hs hb8 y y0
      go_wp2_with fail
      refine HDO.out.mono ?_
      rintro e w9 ⟨rfl, l', q', hP9, hv9, hg9⟩
      have e9 : l' = l8 := hP9.ok.ext hok8 fun k => by rw [hv9, HV8.out]
      subst e9
      have ho9 := ho8.kept_ hR.pb.box.ty (by decide) hg9
      replace hR := hR.kept hP9 hg9
      have hs9 := ho9.sv
      have hsm := hok8.small
      clear HDO HV8 hg9 hP9 hv9 hos y1 ho8 ho9
      go_wp2_with fail
      refine (all_ok w.heap.size g mp l' q' _ hR.pb).mono ?_
      rintro e w10 ⟨A10, c10, rfl, ho10, hb10⟩
      replace hR := hR.below hb10
      replace hs9 := hs9.below hb10
      have hsa := ho10.sv
      clear hb10 ho10
      go_wp2_with fail
      refine (equal_same _ _ _ _ l' _ hsa.ps hs9.ps (by omega)).mono ?_
      rintro e w11 ⟨rfl, hb11⟩
      replace hR := hR.below hb11
      replace hs9 := hs9.below hb11
      clear hb11 hsa
      go_wp2_with fail
      go_loopw [76] (fun i wr => ∃ j : Nat, j ≤ 4 ∧ i = .int .i64 j ∧ Below w11.heap.size w11 wr) (fun i _ => 4 - (intOf i).toNat)
      case atStart => exact ⟨0, by omega, rfl, Below.refl _ _⟩
      case round =>
        obtain ⟨j, hj, rfl, hbj⟩ := hrel
        have hRj := hR.below hbj
        have hsj := hs9.below hbj
        by_cases hj4 : j < 4
        · have g1 : (j : Int) < 4 := by omega
          have hpl : (ptL m.cs m.os (j : Int) l').length ≤ l'.length := List.length_filter_le _ _
          have HPP := hideP (ppart_ok w.heap.size g mp l' q' j _ hRj.pb hj4)
          rw [HMP.out.1, HMP.out.2] at HPP
          have HPT := hideP (fun (W : World) (h : MX w gm m W) (hs : SV W A8 c8 l') => shpart_any m A8 c8 l' (j : Int) W h.ms hs.ps hok.l2 (by omega))
          rw [partV_ok (chkM_ok.2 hok) (chk_ok.2 hok8) (ownB_iff.2 (by omega))] at HPT
          generalize ptL m.cs m.os (j : Int) l' = pt at HPP HPT hpl
          have HR := hideP hR
          have HS9 := hideP hs9
          clear hR hs9
          go_wp2_with fail
          refine HPP.out.mono ?_
          rintro e w12 ⟨A12, c12, rfl, ho12, hb12⟩
          replace hRj := hRj.below hb12
          replace hsj := hsj.below hb12
          have hb12' := hbj.trans (hb12.mono hbj.size)
          have hs12 := ho12.sv
          obtain ⟨z1, z2⟩ := hRj.mx.c
          clear HPP hb12 hbj ho12
          go_wp2_with fail
          refine (HPT.out _ hRj.mx hsj).mono ?_
          rintro e w13 ⟨A13, c13, rfl, ho13, hb13⟩
          simp only at ho13 ⊢
          replace hs12 := hs12.below hb13
          have hs13 := ho13.sv
          have hb13' := hb12'.trans (hb13.mono hb12'.size)
          clear HPT hb13 ho13 hb12' z1 z2 hRj hsj
          go_wp2_with fail
          refine (equal_same _ _ _ _ pt _ hs12.ps hs13.ps (by omega)).mono ?_
          rintro e w14 ⟨rfl, hb14⟩
          have hb14' := hb13'.trans (hb14.mono hb13'.size)
          clear hb14 hb13' hs12 hs13
          go_wp2_with fail
          go_roundw
          case rel => exact ⟨j + 1, by omega, by go_num, hb14'⟩
          case measure => simp [intOf]; omega
        · have g1 : ¬ (j : Int) < 4 := by omega
          go_wp2_with fail
          go_roundw
          case rel => exact ⟨k + 1, A8, c8, l', q', by omega, by go_num, rfl, hsj, hRj⟩
          case measure => simp [intOf]; omega
    · have hbe := hR.mx.be
      go_wp2_with fail
      go_ret
      exact ⟨rfl, hbe⟩
end Go.Proofs.Ytpefdonhacmaoaa

set_option linter.unusedVariables false
set_option linter.unusedSimpArgs false
namespace Go.Proofs.Ytpefdonhacmaoaa
open Go.RowKit Go.ChangeShapes Go.WideShapes Go.Deep

theorem lit_of_cell {W : World} {a : Addr} {v : Value} (h : W.cell? (a.add 0) = some v) : ∃ b o, a = ⟨b, o, none⟩ := by
  obtain ⟨b, o, sp⟩ := a
  have hsp : sp = none := by simpa [Addr.add] using World.cell?_spot h
  subst hsp
  exact ⟨b, o, rfl⟩
theorem open_is {H : Type} {enc : TypeId × Value → H} {W : World} {A : Option Addr} {len cap : Nat} {d : DataW H} {p : List MemPlace} (h : DataW.Trod enc Try.prog W 0 (fun _ => true) true 22 (.slice A len cap) d p) :
    ∃ ys : List Int, len = ys.length ∧ IS W A ys ∧ ys.length ≤ cap ∧ cap ≤ 9223372036854775807 ∧ (A = none → cap = 0) := by
  obtain ⟨fuel, hf⟩ := h
  rcases open_ints Try.underlying22 Try.underlying3 (by kernel_rfl) hf with ⟨hcs, _⟩ | ⟨x, l, c, zs, hcs, _, hl, hm, hz, _, hcell, hwz⟩
  · simp [Value.cells] at hcs
    obtain ⟨rfl, rfl, rfl⟩ := hcs
    exact ⟨[], rfl, fun i z hz => by simp at hz, by simp, by simp, fun _ => rfl⟩
  · simp [Value.cells] at hcs
    obtain ⟨rfl, rfl, rfl⟩ := hcs
    simp only [if_true] at hz
    refine ⟨zs.take len, by simp; omega, fun i z hi => ?_, by simp; omega, by unfold maxLen at hm; exact hm, fun e => by cases e⟩
    rw [List.getElem?_take] at hi
    split at hi
    · have hlt : i < zs.length := by omega
      have hc := hcell i hlt
      obtain ⟨b, o, rfl⟩ := lit_of_cell (hcell 0 (by omega))
      rw [Addr.add_lit] at hc
      refine ⟨b, o, rfl, cell_lt hc, ?_⟩
      rw [hc]
      simp [hlt] at hi
      simp [hlt, hi]
    · cases hi
theorem open_ls {H : Type} {enc : TypeId × Value → H} {W : World} {A : Option Addr} {len cap : Nat} {d : DataW H} {p : List MemPlace} (h : DataW.Trod enc Try.prog W 0 (fun _ => true) true 23 (.slice A len cap) d p) :
    ∃ cs : List Cl, len = cs.length ∧ LS W A cs ∧ cs.length ≤ cap ∧ cap ≤ 9223372036854775807 ∧ (A = none → cap = 0) := by
  obtain ⟨fuel, hf⟩ := h
  rcases open_int_rows Try.underlying23 Try.underlying22 Try.underlying3 (by kernel_rfl) (by kernel_rfl) hf with ⟨hcs, _⟩ | ⟨a, l, c, Ar, L, C, Z, hcs, _, hl, hm, _, hr⟩
  · simp [Value.cells] at hcs
    obtain ⟨rfl, rfl, rfl⟩ := hcs
    exact ⟨[], rfl, ⟨VS.nil, by simp⟩, by simp, by simp, fun _ => rfl⟩
  · simp [Value.cells] at hcs
    obtain ⟨rfl, rfl, rfl⟩ := hcs
    refine ⟨(List.range len).map fun r => ⟨Ar r, C r, (Z r).take (L r)⟩, by simp, ⟨fun i v hv => ?_, fun x hx => ?_⟩, by simpa using hl, by unfold maxLen at hm; exact hm, fun e => by cases e⟩
    · have hi : i < len := by
        rcases Nat.lt_or_ge i len with h | h
        · exact h
        · simp [h] at hv
      obtain ⟨h1, h2, h3, h4, _⟩ := hr i (by omega)
      simp [hi, clV] at hv
      obtain ⟨b, o, rfl⟩ := lit_of_cell (hr 0 (by omega)).1
      rw [Addr.add_lit] at h1
      refine ⟨b, o, rfl, cell_lt h1, ?_⟩
      rw [h1, ← hv]
      congr 2
      omega
    · simp at hx
      obtain ⟨r, hlt, rfl⟩ := hx
      obtain ⟨h1, h2, h3, h4, h5, h6, h7⟩ := hr r (by omega)
      refine ⟨fun i z hz => ?_, by simp; omega, by unfold maxLen at h3; exact h3⟩
      simp only at hz ⊢
      rw [List.getElem?_take] at hz
      split at hz
      · have hlt2 : i < (Z r).length := by
          rcases Nat.lt_or_ge i (Z r).length with h | h
          · exact h
          · simp [h] at hz
        cases hA : Ar r with
        | none => have := h6 hA; omega
        | some a' =>
          have hc := (h7 a' hA).2 i (by omega)
          obtain ⟨b, o, rfl⟩ := lit_of_cell ((h7 a' hA).2 0 (by omega))
          rw [Addr.add_lit] at hc
          refine ⟨b, o, rfl, cell_lt hc, ?_⟩
          rw [hc]
          simp [hlt2] at hz
          simp [hlt2, hz]
      · cases hz
end Go.Proofs.Ytpefdonhacmaoaa
