/-
  slices.Equal at pairs: two that read the same are equal.
  The walk of PartsTurn.
-/
import Derived.Test.YtpefdonhacmaoaaBe7
import Derived.WalkKit
import Derived.WalkSpells
import Derived.WalkLawsBesides
import Derived.Deep.QuietTactic
import Derived.BigQuiet
import Derived.Laws.StructEq
import Derived.Test.YtpefdonhacmaoaaBe17
import Derived.Test.YtpefdonhacmaoaaBe23
import Derived.Test.YtpefdonhacmaoaaBe25
import Derived.Test.YtpefdonhacmaoaaBe27
set_option linter.unusedVariables false
set_option linter.unusedSimpArgs false
namespace Go.Proofs.Ytpefdonhacmaoaa
open Go.RowKit

theorem run_neq_pair (k : ByteArray) (n : Int) (w : World) : (binOp .neq 46 (.agg #[.string k, .int .i64 n]) (.agg #[.string k, .int .i64 n])).run Try.prog w = .ok (.bool false) w := by
  have u3 := Try.underlying3
  have u9 := Try.underlying9
  have a3 := Try.isAgg3
  have z3 := Try.sizeOf3
  have a9 := Try.isAgg9
  have z9 := Try.sizeOf9
  have hS : Try.prog.underlying 46 = some (.struct (Try.prog.fieldsOf 46)) := by kernel_rfl
  have hp : Try.prog.stoodInHeld 46 = false := by kernel_rfl
  rw [run_neq_struct, show (10000 : Nat) = 9999 + 1 from rfl, run_equalIn_agg w 9999 46 _ _ hS hp]
  simp only [Program.fieldsOf, Try.underlying46]
  go_simp

theorem guard_pair (x y : Operand) (xs ys : Array Value) (w : World) : (eqGuard .neq 46 x y (.agg xs) (.agg ys)).run Try.prog w = .ok () w := run_eqGuard_agg w .neq 46 x y xs ys (by kernel_rfl)

set_option maxHeartbeats 400000 in
set_option maxRecDepth 100000 in
theorem equal_same (A1 A2 : Option Addr) (c1 c2 : Nat) (l : List Pr) (w : World) (h1 : PS w w.heap.size A1 l) (h2 : PS w w.heap.size A2 l) (hl : l.length < 4611686018427387904) :
    Calls Try.prog 13 #[.slice A1 l.length c1, .slice A2 l.length c2] w fun e w' => e = .returned (.bool true) ∧ Below w.heap.size w w' := by
  have d0 : ((l.length : Int) != (l.length : Int)) = false := by simp
  go_enter Try.func13, Try.ntmps13
  go_wp2_with fail
  go_loopw [13] (fun i wr => ∃ k : Nat, k ≤ l.length ∧ i = .int .i64 k ∧ Below w.heap.size w wr) (fun i _ => l.length - (intOf i).toNat)
  case atStart => exact ⟨0, Nat.zero_le _, rfl, Below.refl _ _⟩
  case round =>
    obtain ⟨k, hk, rfl, hb⟩ := hrel
    by_cases hlt : k < l.length
    · obtain ⟨b, o, rfl, hbl, q1, q2⟩ := h1.below hb k _ (List.getElem?_eq_getElem hlt)
      obtain ⟨b', o', rfl, hbl', q3, q4⟩ := h2.below hb k _ (List.getElem?_eq_getElem hlt)
      clear h1 h2
      generalize l[k] = p at q1 q2 q3 q4
      have g1 : (0 : Int) ≤ (k : Int) := by omega
      have g2 : (k : Int) < (l.length : Int) := by omega
      have n1 := run_neq_pair p.1 p.2
      have n2 := guard_pair
      go_wp2_with fail
      go_quiet (fail)
      go_wp2_with fail
      go_roundw
      case rel => exact ⟨k + 1, by omega, by go_num, ⟨hb.os, hb.tape, hb.output, hb.size, hb.block⟩⟩
      case measure => simp [intOf]; omega
    · go_wp2_with fail
      go_ret
      exact ⟨rfl, hb⟩
end Go.Proofs.Ytpefdonhacmaoaa

set_option linter.unusedVariables false
set_option linter.unusedSimpArgs false
namespace Go.Proofs.Ytpefdonhacmaoaa
open Go.RowKit

/-- a partitioned store, and the transactions -/
structure TnH (w : World) (g : Nat) (m : Mp) (l : List Pr) (q : Dv) (Ad : Option Addr) (cd : Nat) (ds : List Dl) (wr : World) : Prop where
  pb : PB wr w.heap.size g m l q
  dd : Dds wr w.heap.size Ad cd ds
  be : Below w.heap.size w wr
theorem TnH.below {w wr w' : World} {g cd : Nat} {m : Mp} {l : List Pr} {q : Dv} {Ad : Option Addr} {ds : List Dl} (h : TnH w g m l q Ad cd ds wr) (hb : Below wr.heap.size wr w') : TnH w g m l q Ad cd ds w' := ⟨h.pb.below hb, h.dd.below_ hb, h.be.trans (hb.mono h.be.size)⟩
def TnI (w : World) (g : Nat) (m : Mp) (Ad : Option Addr) (cd : Nat) (ds : List Dl) (i : Value) (wr : World) : Prop :=
  ∃ (k : Nat) (l : List Pr) (q : Dv), k ≤ ds.length ∧ i = .int .i64 k ∧ TnH w g m l q Ad cd ds wr
/-- what all had, kept aside -/
structure WsH (w : World) (g : Nat) (m : Mp) (l : List Pr) (q : Dv) (Aa : Option Addr) (ca : Nat) (gw : Nat) (cs : List ByteArray) (os : List Int) (l0 : List Pr) (qw : Dv) (k : Nat) (wr : World) : Prop where
  pb : PB wr w.heap.size g m l q
  al : OV wr w.heap.size Aa ca l
  bx : Box wr gw 52 (qw.up cs os l0 k)
  ow : qw.Own wr w.heap.size cs os l0 k
  lw : w.heap.size ≤ gw
  be : Below w.heap.size w wr
section
variable {w wr w' : World} {g gw k ca : Nat} {m m' : Mp} {l l0 : List Pr} {q q' qw : Dv} {Aa : Option Addr} {cs : List ByteArray} {os : List Int}
theorem WsH.below (h : WsH w g m l q Aa ca gw cs os l0 qw k wr) (hb : Below wr.heap.size wr w') : WsH w g m l q Aa ca gw cs os l0 qw k w' := ⟨h.pb.below hb, h.al.below hb, h.bx.below hb, h.ow.below hb, h.lw, h.be.trans (hb.mono h.be.size)⟩
theorem WsH.turn (h : WsH w g m l q Aa ca gw cs os l0 qw k wr) (hp : PB w' w.heap.size g m' l q') (hg : wr.grownBy w' (some g)) : WsH w g m' l q' Aa ca gw cs os l0 qw k w' :=
  ⟨hp, h.al.kept_ h.pb.box.ty (by decide) hg, h.bx.kept (ty_ne h.bx.ty h.pb.box.ty (by decide)) hg, h.ow.kept h.pb.box.ty (by decide) hg, h.lw, Below.kept h.be h.pb.low hg⟩
theorem WsH.step (h : WsH w g m l q Aa ca gw cs os l0 qw k wr) (hk : k < 4) {A : Option Addr} {c : Nat} (hov : OV wr w.heap.size A c (ptL cs os (k : Int) l0)) : WsH w g m l q Aa ca gw cs os l0 (qw.put k A c) (k + 1) (wr.setCell ⟨gw, k, none⟩ (.slice A (ptL cs os (k : Int) l0).length c)) := by
  have hg := grown_set wr gw k (.slice A (ptL cs os (k : Int) l0).length c)
  refine ⟨h.pb.kept (ty_ne h.pb.box.ty h.bx.ty (by decide)) h.bx.ty (by decide) (by decide) (by decide) hg, h.al.kept_ h.bx.ty (by decide) hg, ?_, (h.ow.put hov).kept h.bx.ty (by decide) hg, h.lw, Below.kept h.be h.lw hg⟩
  have := h.bx.set k (.slice A (ptL cs os (k : Int) l0).length c)
  rw [Dv.up_put hk] at this
  exact this
end
def WsI (w : World) (g : Nat) (m : Mp) (l : List Pr) (q : Dv) (Aa : Option Addr) (ca : Nat) (gw : Nat) (cs : List ByteArray) (os : List Int) (i : Value) (wr : World) : Prop :=
  ∃ (k : Nat) (qw : Dv), k ≤ 4 ∧ i = .int .i64 k ∧ WsH w g m l q Aa ca gw cs os l qw k wr

set_option maxHeartbeats 4000000 in
set_option maxRecDepth 100000 in
theorem pturn_walk (P R T D : Option Addr) (cp cr ct cd : Nat) (zs rs ts : List Int) (cs : List Cl) (w : World) (hP : IS w P zs) (hl : zs.length ≤ cp) (hc : cp ≤ 9223372036854775807) (hn : P = none → cp = 0)
    (hR : IS w R rs) (hlr : rs.length ≤ cr) (hcr : cr ≤ 9223372036854775807) (hnr : R = none → cr = 0)
    (hT : IS w T ts) (hlt : ts.length ≤ ct) (hct : ct ≤ 9223372036854775807) (hnt : T = none → ct = 0)
    (hD : LS w D cs) (hDl : cs.length ≤ cd) (hDc : cd ≤ 9223372036854775807) (hDn : D = none → cd = 0) :
    Calls Try.prog 4 #[.slice P zs.length cp, .slice R rs.length cr, .slice T ts.length ct, .slice D cs.length cd] w fun e w' => e = .returned (.bool true) ∧ Below w.heap.size w w' := by
  go_enter Try.func4, Try.ntmps4
  go_wp2_with fail
  refine (ptbegun_any _).mono ?_
  rintro e w1 ⟨rfl, hb1⟩
  go_wp2_with fail
  refine (kmap_is P cp zs _ (hP.below hb1) (by omega)).mono ?_
  rintro e w2 ⟨A2, ca2, O2, co2, rfl, hmo, hb2⟩
  have hb := hb1.trans (hb2.mono hb1.size)
  clear hb2 hb1
  go_wp2_with fail
  refine (pairs_any T ct ts _ (hT.below hb) hlt hct hnt).mono ?_
  rintro e w3 ⟨A3, c3, l, rfl, hsv, hsm, hb3⟩
  replace hmo := hmo.below hb3
  replace hb := hb.trans (hb3.mono hb.size)
  have hokl := hsm.ok
  clear hb3 hsm hT hnt
  go_wp2_with fail
  refine (new_ok ⟨A2, ca2, mpC zs, O2, co2, mpO zs⟩ A3 c3 l _ hmo.ms hsv.ps (mp_ok zs) hokl).mono ?_
  rintro e w4 ⟨g, A4, ca4, O4, co4, q, rfl, hp, hb4⟩
  replace hp := hp.mono hb.size
  replace hb := hb.trans (hb4.mono hb.size)
  clear hb4 hmo hsv hokl
  go_wp2_with fail
  refine (deeds_any D cd 5 cs _ (hD.below hb) hDl hDc hDn (by omega)).mono ?_
  rintro e w8 ⟨Ad, cdd, ds, rfl, hdd, hdl, hb8⟩
  have hM : TnH w g ⟨A4, ca4, mpC zs, O4, co4, mpO zs⟩ l q Ad cdd ds w8 := ⟨hp.below hb8, ⟨hdd.or.mono hb.size, fun x hx => (hdd.oo x hx).mono hb.size, hdd.ap, hdd.pw, hdd.good⟩, hb.trans (hb8.mono hb.size)⟩
  have hchk := hdd.chk
  clear hb8 hdd hp hb hD hDn
  go_wp2_with fail
  go_loopw [41] (TnI w g ⟨A4, ca4, mpC zs, O4, co4, mpO zs⟩ Ad cdd ds) (fun i _ => ds.length - (intOf i).toNat)
  case atStart => exact ⟨0, l, q, Nat.zero_le _, rfl, hM⟩
  case round =>
    clear hM
    obtain ⟨k, l, q, hk, rfl, hM⟩ := hrel
    by_cases hkl : k < ds.length
    · obtain ⟨⟨b, o, rfl, hbl, x1⟩, hos⟩ := hM.dd.ds.at_ hkl
      have hcd := hchk _ (List.getElem_mem hkl)
      have hmem := List.getElem_mem hkl
      generalize ds[k] = x at x1 hos hcd hmem
      obtain ⟨Dx, cx, dx⟩ := x
      simp only [dlV] at x1
      simp only at hos hcd
      have hal := (Below.refl wr.heap.size wr).alloc (Nat.le_refl _) (.cells #[.slice Dx dx.length cx] 39)
      have y := Box.new wr 39 #[.slice Dx dx.length cx]
      replace hM := hM.below hal
      clear hal hos
      have y0 := y.cell 0 (v := .slice Dx dx.length cx) rfl
      go_wp2_with fail
      generalize wr.alloc _ = w10 at hM y y0 ⊢
      generalize wr.heap.size = gd at y y0 ⊢
      refine (do_ok w.heap.size g _ l _ Dx cx dx _ hM.pb ((hM.dd.ds).os _ hmem) hcd).mono ?_
      rintro e w13 ⟨rfl, l13, q13, hp13, hv13, hg13⟩
      have hM' : TnH w g _ l13 q13 _ cdd ds w13 := ⟨hp13, hM.dd.kept hM.pb.box.ty (by decide) (by decide) hg13, Below.kept hM.be hM.pb.low hg13⟩
      generalize doneV (valOf l) dx = r
      clear hM hp13 hg13 hv13 y y0
      go_wp2_with fail
      go_roundw
      case rel => exact ⟨k + 1, l13, q13, by omega, by go_num, hM'⟩
      case measure => simp [intOf]; omega
    · clear hchk
      go_wp2_with fail
      refine (all_ok w.heap.size g _ l q _ hM.pb).mono ?_
      rintro e w15 ⟨Aa, ca, rfl, ho15, hb15⟩
      have hW : WsH w g ⟨A4, ca4, mpC zs, O4, co4, mpO zs⟩ l q Aa ca w15.heap.size (mpC zs) (mpO zs) l noD 0 (w15.alloc (.cells #[.slice none 0 0, .slice none 0 0, .slice none 0 0, .slice none 0 0] 52)) := by
        have hal := (Below.refl w15.heap.size w15).alloc (Nat.le_refl _) (.cells #[.slice none 0 0, .slice none 0 0, .slice none 0 0, .slice none 0 0] 52)
        have hM15 := hM.below hb15
        exact ⟨hM15.pb.below hal, (ho15.mono hM.be.size).below hal, Box.new _ _ _, fun j hj => absurd hj (by omega), hM15.be.size, hM15.be.trans (hal.mono hM15.be.size)⟩
      have hsml := hM.pb.ok.small
      have hokl := hM.pb.ok
      clear hM ho15 hb15
      go_wp2_with fail
      generalize w15.alloc _ = w16 at hW ⊢
      generalize w15.heap.size = gw at hW ⊢
      go_loopw [56] (WsI w g ⟨A4, ca4, mpC zs, O4, co4, mpO zs⟩ l q Aa ca gw (mpC zs) (mpO zs)) (fun i _ => 4 - (intOf i).toNat)
      case atStart => exact ⟨0, noD, by omega, rfl, hW⟩
      case round =>
        clear hW
        obtain ⟨j, qw, hj, rfl, hW⟩ := hrel
        by_cases hj4 : j < 4
        · have g1 : (j : Int) < 4 := by omega
          have g0 : (0 : Int) ≤ (j : Int) := by omega
          have HPP := hideP (ppart_ok w.heap.size g _ l q j _ hW.pb hj4)
          simp only at HPP
          go_wp2_with fail
          refine HPP.out.mono ?_
          rintro e w17 ⟨A17, c17, rfl, ho17, hb17⟩
          have hbe := hW.be.size
          replace hW := hW.below hb17
          have f1 := hW.bx.frozen j
          have d1 := hW.bx.cell j (Dv.up_at hj4 hj4)
          have HN := hideP (hW.step hj4 (ho17.mono hbe))
          generalize ptL (mpC zs) (mpO zs) (j : Int) l = pt at HN
          clear HPP hb17 ho17 hbe
          go_wp2_with fail
          go_roundw
          case rel => exact ⟨j + 1, qw.put j A17 c17, by omega, by go_num, HN.out⟩
          case measure => simp [intOf]; omega
        · have hj5 : j = 4 := by omega
          have hW4 : WsH w g ⟨A4, ca4, mpC zs, O4, co4, mpO zs⟩ l q Aa ca gw (mpC zs) (mpO zs) l qw 4 wr := hj5 ▸ hW
          have g1 : ¬ (j : Int) < 4 := by omega
          clear hW hj5
          go_wp2_with fail
          refine (kmap_is R cr rs _ (hR.below hW4.be) (by omega)).mono ?_
          rintro e w20 ⟨A20, ca20, O20, co20, rfl, hmo, hb20⟩
          replace hW4 := hW4.below hb20
          clear hb20
          have HT1 := hideP (turn_ok w.heap.size g _ l q ⟨A20, ca20, mpC rs, O20, co20, mpO rs⟩ _ hW4.pb hmo.ms (mp_ok rs))
          simp only at HT1
          have hmle := movN_le (mpC zs) (mpO zs) (mpC rs) (mpO rs) l
          have HSW := hideP (movN_swap (mpC zs) (mpO zs) (mpC rs) (mpO rs) l)
          generalize movN (mpC zs) (mpO zs) (mpC rs) (mpO rs) l = mv at HT1 hmle HSW
          go_wp2_with fail
          refine HT1.out.mono ?_
          rintro e w21 ⟨rfl, A21, ca21, O21, co21, q21, hp21, hg21⟩
          replace hW4 := hW4.turn hp21 hg21
          clear HT1 hp21 hg21 hmo
          go_wp2_with fail
          refine (kmap_is R cr rs _ (hR.below hW4.be) (by omega)).mono ?_
          rintro e w22 ⟨A22, ca22, O22, co22, rfl, hmo, hb22⟩
          replace hW4 := hW4.below hb22
          clear hb22
          have HT2 := hideP (turn_ok w.heap.size g _ l q21 ⟨A22, ca22, mpC rs, O22, co22, mpO rs⟩ _ hW4.pb hmo.ms (mp_ok rs))
          simp only [movN_same] at HT2
          go_wp2_with fail
          refine HT2.out.mono ?_
          rintro e w23 ⟨rfl, A23, ca23, O23, co23, q23, hp23, hg23⟩
          replace hW4 := hW4.turn hp23 hg23
          clear HT2 hp23 hg23 hmo
          have t1 : ¬ ((mv : Int) < 0) := by omega
          have t2 : ¬ ((l.length : Int) < (mv : Int)) := by omega
          go_wp2_with fail
          refine (all_ok w.heap.size g _ l q23 _ hW4.pb).mono ?_
          rintro e w24 ⟨A24, c24, rfl, ho24, hb24⟩
          replace hW4 := hW4.below hb24
          have hs24 := ho24.sv
          clear hb24 ho24
          go_wp2_with fail
          refine (equal_same _ _ _ _ l _ hs24.ps hW4.al.sv.ps (by omega)).mono ?_
          rintro e w25 ⟨rfl, hb25⟩
          replace hW4 := hW4.below hb25
          clear hb25 hs24
          go_wp2_with fail
          refine (kmap_is P cp zs _ (hP.below hW4.be) (by omega)).mono ?_
          rintro e w26 ⟨A26, ca26, O26, co26, rfl, hmo, hb26⟩
          replace hW4 := hW4.below hb26
          clear hb26
          have HT3 := hideP (turn_ok w.heap.size g _ l q23 ⟨A26, ca26, mpC zs, O26, co26, mpO zs⟩ _ hW4.pb hmo.ms (mp_ok zs))
          simp only at HT3
          rw [← HSW.out] at HT3
          have t3 : ((mv : Int) != (mv : Int)) = false := by simp
          go_wp2_with fail
          refine HT3.out.mono ?_
          rintro e w27 ⟨rfl, A27, ca27, O27, co27, q27, hp27, hg27⟩
          replace hW4 := hW4.turn hp27 hg27
          clear HT3 hp27 hg27 hmo HSW
          go_wp2_with fail
          go_loopw [123] (fun i wr => ∃ j : Nat, j ≤ 4 ∧ i = .int .i64 j ∧ Below w27.heap.size w27 wr) (fun i _ => 4 - (intOf i).toNat)
          case atStart => exact ⟨0, by omega, rfl, Below.refl _ _⟩
          case round =>
            obtain ⟨i, hi, rfl, hbi⟩ := hrel
            have hWi := hW4.below hbi
            by_cases hi4 : i < 4
            · have g3 : (i : Int) < 4 := by omega
              have g0 : (0 : Int) ≤ (i : Int) := by omega
              have HPP := hideP (ppart_ok w.heap.size g _ l q27 i _ hWi.pb hi4)
              simp only at HPP
              have hpl : (ptL (mpC zs) (mpO zs) (i : Int) l).length ≤ l.length := List.length_filter_le _ _
              have HC := hideP (fun (W : World) (h : WsH w g ⟨A27, ca27, mpC zs, O27, co27, mpO zs⟩ l q27 Aa ca gw (mpC zs) (mpO zs) l qw 4 W) => show W.cell? ⟨gw, i, none⟩ = some (.slice (qw.A i) (ptL (mpC zs) (mpO zs) (i : Int) l).length (qw.c i)) ∧ SV W (qw.A i) (qw.c i) (ptL (mpC zs) (mpO zs) (i : Int) l) from ⟨h.bx.cell i (Dv.ar_at hi4), (h.ow i hi4).sv⟩)
              generalize ptL (mpC zs) (mpO zs) (i : Int) l = pt at HPP HC hpl
              have HW4 := hideP hW4
              clear hW4
              go_wp2_with fail
              refine HPP.out.mono ?_
              rintro e w28 ⟨A28, c28, rfl, ho28, hb28⟩
              obtain ⟨z1, z2⟩ := HC.out _ (hWi.below hb28)
              have hs28 := ho28.sv
              have hb28' := hbi.trans (hb28.mono hbi.size)
              clear HPP hb28 ho28 hWi hbi HC
              go_wp2_with fail
              refine (equal_same _ _ _ _ pt _ hs28.ps z2.ps (by omega)).mono ?_
              rintro e w29 ⟨rfl, hb29⟩
              have hb29' := hb28'.trans (hb29.mono hb28'.size)
              clear hb29 hb28' z1 z2 hs28
              go_wp2_with fail
              go_roundw
              case rel => exact ⟨i + 1, by omega, by go_num, hb29'⟩
              case measure => simp [intOf]; omega
            · have g3 : ¬ (i : Int) < 4 := by omega
              have hbe := hWi.be
              go_wp2_with fail
              go_ret
              exact ⟨rfl, hbe⟩
end Go.Proofs.Ytpefdonhacmaoaa
