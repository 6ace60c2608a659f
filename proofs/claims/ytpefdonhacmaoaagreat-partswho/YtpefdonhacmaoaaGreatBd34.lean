/-
  The walk of PartsWho.
  Slices of ints, and slices of slices of ints, that came in, opened.
-/
import Derived.Test.YtpefdonhacmaoaaGreatBd19
import Derived.Test.YtpefdonhacmaoaaGreatBd25
import Derived.Test.YtpefdonhacmaoaaGreatBd30
import Derived.Test.YtpefdonhacmaoaaGreatBd32
import Derived.Test.YtpefdonhacmaoaaGreatBd33
import Derived.Test.YtpefdonhacmaoaaGreatBd18
import Derived.ProofKit
import Derived.OpenShut
import Derived.Deep.Matrix
set_option linter.unusedVariables false
set_option linter.unusedSimpArgs false
namespace Go.Proofs.YtpefdonhacmaoaaGreat
open Go.RowKit

/-- a partitioned store, and the transactions -/
structure WoH (w : World) (g : Nat) (m : Mp) (l : List Pr) (q : Dv) (Ad : Option Addr) (cd : Nat) (ds : List Dl) (wr : World) : Prop where
  pb : PB wr w.heap.size g m l q
  dd : Dds wr w.heap.size Ad cd ds
  be : Below w.heap.size w wr
theorem WoH.below {w wr w' : World} {g cd : Nat} {m : Mp} {l : List Pr} {q : Dv} {Ad : Option Addr} {ds : List Dl} (h : WoH w g m l q Ad cd ds wr) (hb : Below wr.heap.size wr w') : WoH w g m l q Ad cd ds w' := ⟨h.pb.below hb, h.dd.below_ hb, h.be.trans (hb.mono h.be.size)⟩
def WoI (w : World) (g : Nat) (m : Mp) (Ad : Option Addr) (cd : Nat) (ds : List Dl) (i : Value) (wr : World) : Prop :=
  ∃ (k : Nat) (l : List Pr) (q : Dv), k ≤ ds.length ∧ i = .int .i64 k ∧ WoH w g m l q Ad cd ds wr
/-- what all had, and who takes part, kept aside -/
structure WaH (w : World) (g : Nat) (m : Mp) (l : List Pr) (q : Dv) (Ad : Option Addr) (cd : Nat) (ds : List Dl) (Aw : Option Addr) (cw : Nat) (zs : List Int) (gd : Nat) (vd : Value) (gw : Nat) (l0 : List Pr) (qw : Dv) (k : Nat) (wr : World) : Prop where
  h : WoH w g m l q Ad cd ds wr
  who : OR wr w.heap.size 3 Aw cw (zs.map encN)
  y : Box wr gd 39 #[vd]
  bx : Box wr gw 43 (qw.up m.cs m.os l0 k)
  ow : qw.Own wr w.heap.size m.cs m.os l0 k
  lw : w.heap.size ≤ gw
section
variable {w wr w' : World} {g gw gd k cd cw : Nat} {m : Mp} {l l' l0 : List Pr} {q q' qw : Dv} {Ad Aw : Option Addr} {ds : List Dl} {zs : List Int} {vd : Value}
theorem WaH.below (h : WaH w g m l q Ad cd ds Aw cw zs gd vd gw l0 qw k wr) (hb : Below wr.heap.size wr w') : WaH w g m l q Ad cd ds Aw cw zs gd vd gw l0 qw k w' := ⟨h.h.below hb, h.who.below hb, h.y.below hb, h.bx.below hb, h.ow.below hb, h.lw⟩
theorem WaH.do_ (h : WaH w g m l q Ad cd ds Aw cw zs gd vd gw l0 qw k wr) (hp : PB w' w.heap.size g m l' q') (hg : wr.grownBy w' (some g)) : WaH w g m l' q' Ad cd ds Aw cw zs gd vd gw l0 qw k w' :=
  have t := h.h.pb.box.ty
  ⟨⟨hp, h.h.dd.kept t (by decide) (by decide) hg, Below.kept h.h.be h.h.pb.low hg⟩, h.who.kept_ t (by decide) hg, h.y.kept (ty_ne h.y.ty t (by decide)) hg, h.bx.kept (ty_ne h.bx.ty t (by decide)) hg, h.ow.kept t (by decide) hg, h.lw⟩
theorem WaH.step (h : WaH w g m l q Ad cd ds Aw cw zs gd vd gw l0 qw k wr) (hk : k < 4) {A : Option Addr} {c : Nat} (hov : OV wr w.heap.size A c (ptL m.cs m.os (k : Int) l0)) : WaH w g m l q Ad cd ds Aw cw zs gd vd gw l0 (qw.put k A c) (k + 1) (wr.setCell ⟨gw, k, none⟩ (.slice A (ptL m.cs m.os (k : Int) l0).length c)) := by
  have hg := grown_set wr gw k (.slice A (ptL m.cs m.os (k : Int) l0).length c)
  have t := h.bx.ty
  refine ⟨⟨h.h.pb.kept (ty_ne h.h.pb.box.ty t (by decide)) t (by decide) (by decide) (by decide) hg, h.h.dd.kept t (by decide) (by decide) hg, Below.kept h.h.be h.lw hg⟩, h.who.kept_ t (by decide) hg, h.y.kept (ty_ne h.y.ty t (by decide)) hg, ?_, (h.ow.put hov).kept t (by decide) hg, h.lw⟩
  have := h.bx.set k (.slice A (ptL m.cs m.os (k : Int) l0).length c)
  rw [Dv.up_put hk] at this
  exact this
end
def WaI (w : World) (g : Nat) (m : Mp) (l : List Pr) (q : Dv) (Ad : Option Addr) (cd : Nat) (ds : List Dl) (Aw : Option Addr) (cw : Nat) (zs : List Int) (gd : Nat) (vd : Value) (gw : Nat) (i : Value) (wr : World) : Prop :=
  ∃ (k : Nat) (qw : Dv), k ≤ 4 ∧ i = .int .i64 k ∧ WaH w g m l q Ad cd ds Aw cw zs gd vd gw l qw k wr

set_option maxHeartbeats 4000000 in
set_option maxRecDepth 100000 in
theorem pwho_walk (P T D : Option Addr) (cp ct cd : Nat) (zs ts : List Int) (cs : List Cl) (w : World) (hP : IS w P zs) (hl : zs.length ≤ cp) (hc : cp ≤ 9223372036854775807) (hn : P = none → cp = 0)
    (hT : IS w T ts) (hlt : ts.length ≤ ct) (hct : ct ≤ 9223372036854775807) (hnt : T = none → ct = 0)
    (hD : LS w D cs) (hDl : cs.length ≤ cd) (hDc : cd ≤ 9223372036854775807) (hDn : D = none → cd = 0) :
    Calls Tryz.prog 3 #[.slice P zs.length cp, .slice T ts.length ct, .slice D cs.length cd] w fun e w' => e = .returned (.bool true) ∧ Below w.heap.size w w' := by
  go_enter Tryz.func3, Tryz.ntmps3
  go_wp2_with fail
  refine (ptbegun_any _).mono ?_
  rintro e w1 ⟨rfl, hb1⟩
  go_wp2_with fail
  refine (kmap_is P cp zs _ (hP.below hb1) (by omega)).mono ?_
  rintro e w2 ⟨A2, ca2, O2, co2, rfl, hmo, hb2⟩
  have hb := hb1.trans (hb2.mono hb1.size)
  clear hb2 hb1
  go_wp2_with fail
  refine (pairs_any T ct ts _ (hT.below hb) hlt hct hnt).mono ?_
  rintro e w3 ⟨A3, c3, l, rfl, hsv, hsm, hb3⟩
  replace hmo := hmo.below hb3
  replace hb := hb.trans (hb3.mono hb.size)
  have hokl := hsm.ok
  clear hb3 hsm hT hnt
  go_wp2_with fail
  refine (new_ok ⟨A2, ca2, mpC zs, O2, co2, mpO zs⟩ A3 c3 l _ hmo.ms hsv.ps (mp_ok zs) hokl).mono ?_
  rintro e w4 ⟨g, A4, ca4, O4, co4, q, rfl, hp, hb4⟩
  replace hp := hp.mono hb.size
  replace hb := hb.trans (hb4.mono hb.size)
  clear hb4 hmo hsv hokl
  go_wp2_with fail
  refine (deeds_any D cd 10 cs _ (hD.below hb) hDl hDc hDn (by omega)).mono ?_
  rintro e w8 ⟨Ad, cdd, ds, rfl, hdd, hdl, hb8⟩
  have hM : WoH w g ⟨A4, ca4, mpC zs, O4, co4, mpO zs⟩ l q Ad cdd ds w8 := ⟨hp.below hb8, ⟨hdd.or.mono hb.size, fun x hx => (hdd.oo x hx).mono hb.size, hdd.ap, hdd.pw, hdd.good⟩, hb.trans (hb8.mono hb.size)⟩
  have hchk := hdd.chk
  generalize (⟨A4, ca4, mpC zs, O4, co4, mpO zs⟩ : Mp) = m at hM
  clear hb8 hdd hp hb hD hDn hP
  go_wp2_with fail
  go_loopw [35] (WoI w g m Ad cdd ds) (fun i _ => ds.length - (intOf i).toNat)
  case atStart => exact ⟨0, l, q, Nat.zero_le _, rfl, hM⟩
  case round =>
    clear hM
    obtain ⟨k, l, q, hk, rfl, hM⟩ := hrel
    by_cases hkl : k < ds.length
    · obtain ⟨⟨b, o, rfl, hbl, x1⟩, hos⟩ := hM.dd.ds.at_ hkl
      have hcd := hchk _ (List.getElem_mem hkl)
      have hmem := List.getElem_mem hkl
      generalize ds[k] = x at x1 hos hcd hmem
      obtain ⟨Dx, cx, dx⟩ := x
      simp only [dlV] at x1
      simp only at hos hcd
      have hal := (Below.refl wr.heap.size wr).alloc (Nat.le_refl _) (.cells #[.slice Dx dx.length cx] 39)
      have y := Box.new wr 39 #[.slice Dx dx.length cx]
      replace hM := hM.below hal
      clear hal hos
      have y0 := y.cell 0 (v := .slice Dx dx.length cx) rfl
      go_wp2_with fail
      generalize wr.alloc _ = w10 at hM y y0 ⊢
      generalize wr.heap.size = gd at y y0 ⊢
      refine (who_ok w.heap.size g m l q Dx cx dx _ hM.pb ((hM.dd.ds).os _ hmem) hcd).mono ?_
      rintro e w11 ⟨Aw, cw, rfl, how, hb11⟩
      replace how := how.mono hM.be.size
      replace hM := hM.below hb11
      replace y := y.below hb11
      have hwp := whoL_pos (cs := m.cs) (os := m.os) hcd
      have hwl := whoL_len m.cs m.os dx
      have hws : (whoL m.cs m.os dx).Pairwise (fun a b => a < b) := owS_sorted _
      have hd8 := (chkD_zero.1 hcd).2.1
      have HST := hideP (fun (l' : List Pr) (h : Ok l') (hv : valOf l' = (doneV (valOf l) dx).1) (n : Int) (hn : n ∉ whoL m.cs m.os dx) => part_stays (cs := m.cs) (os := m.os) hM.pb.ok h hcd hv hn)
      generalize whoL m.cs m.os dx = ws at how hwp hwl hws HST ⊢
      have d0 : ((ws.length : Int) == 0) = false := by simp only [beq_eq_false_iff_ne]; omega
      clear hb11 y0
      go_wp2_with fail
      refine (issorted_any Aw cw ws _ how.vs.is_int (by omega) hws).mono ?_
      rintro e w12 ⟨rfl, hb12⟩
      replace hM := hM.below hb12
      replace y := y.below hb12
      replace how := how.below hb12
      clear hb12 hws hwp d0
      have hW : WaH w g m l q (some ⟨b, o, none⟩) cdd ds Aw cw ws gd (.slice Dx dx.length cx) w12.heap.size l noD 0 (w12.alloc (.cells #[.slice none 0 0, .slice none 0 0, .slice none 0 0, .slice none 0 0] 43)) := by
        have hal := (Below.refl w12.heap.size w12).alloc (Nat.le_refl _) (.cells #[.slice none 0 0, .slice none 0 0, .slice none 0 0, .slice none 0 0] 43)
        exact ⟨hM.below hal, how.below hal, y.below hal, Box.new _ _ _, fun j hj => absurd hj (by omega), hM.be.size⟩
      clear hM how y
      go_wp2_with fail
      generalize w12.alloc _ = w13 at hW ⊢
      generalize w12.heap.size = gw at hW ⊢
      go_loopw [57] (WaI w g m l q (some ⟨b, o, none⟩) cdd ds Aw cw ws gd (.slice Dx dx.length cx) gw) (fun i _ => 4 - (intOf i).toNat)
      case atStart => exact ⟨0, noD, by omega, rfl, hW⟩
      case round =>
        clear hW
        obtain ⟨j, qw, hj, rfl, hW⟩ := hrel
        by_cases hj4 : j < 4
        · have g1 : (j : Int) < 4 := by omega
          have g0 : (0 : Int) ≤ (j : Int) := by omega
          have HPP := hideP (ppart_ok w.heap.size g _ l q j _ hW.h.pb hj4)
          go_wp2_with fail
          refine HPP.out.mono ?_
          rintro e w17 ⟨A17, c17, rfl, ho17, hb17⟩
          have hbe := hW.h.be.size
          replace hW := hW.below hb17
          have f1 := hW.bx.frozen j
          have d1 := hW.bx.cell j (Dv.up_at hj4 hj4)
          have HN := hideP (hW.step hj4 (ho17.mono hbe))
          generalize ptL m.cs m.os (j : Int) l = pt at HN
          clear HPP hb17 ho17 hbe
          go_wp2_with fail
          go_roundw
          case rel => exact ⟨j + 1, qw.put j A17 c17, by omega, by go_num, HN.out⟩
          case measure => simp [intOf]; omega
        · have hj5 : j = 4 := by omega
          have hW4 : WaH w g m l q (some ⟨b, o, none⟩) cdd ds Aw cw ws gd (.slice Dx dx.length cx) gw l qw 4 wr := hj5 ▸ hW
          have g1 : ¬ (j : Int) < 4 := by omega
          clear hW hj5
          have y0 := hW4.y.cell 0 (v := .slice Dx dx.length cx) rfl
          go_wp2_with fail
          refine (do_ok w.heap.size g _ l _ Dx cx dx _ hW4.h.pb ((hW4.h.dd.ds).os _ hmem) hcd).mono ?_
          rintro e w18 ⟨rfl, l', q', hp18, hv18, hg18⟩
          have HSS := hideP (fun n hn => HST.out l' hp18.ok hv18 n hn)
          replace hW4 := hW4.do_ hp18 hg18
          generalize (doneV (valOf l) dx).2 = dn
          clear HST hp18 hv18 hg18 y0
          go_wp2_with fail
          go_loopw [77] (fun i wr => ∃ j : Nat, j ≤ 4 ∧ i = .int .i64 j ∧ Below w18.heap.size w18 wr) (fun i _ => 4 - (intOf i).toNat)
          case atStart => exact ⟨0, by omega, rfl, Below.refl _ _⟩
          case round =>
            obtain ⟨i, hi, rfl, hbi⟩ := hrel
            have hWi := hW4.below hbi
            by_cases hi4 : i < 4
            · have g3 : (i : Int) < 4 := by omega
              have g0 : (0 : Int) ≤ (i : Int) := by omega
              have hsm := hWi.h.pb.ok.small
              have HPP := hideP (ppart_ok w.heap.size g _ l' q' i _ hWi.h.pb hi4)
              have hpl : (ptL m.cs m.os (i : Int) l').length ≤ l'.length := List.length_filter_le _ _
              have HC := hideP (fun (W : World) (h : WaH w g m l' q' (some ⟨b, o, none⟩) cdd ds Aw cw ws gd (.slice Dx dx.length cx) gw l qw 4 W) => show W.cell? ⟨gw, i, none⟩ = some (.slice (qw.A i) (ptL m.cs m.os (i : Int) l).length (qw.c i)) ∧ SV W (qw.A i) (qw.c i) (ptL m.cs m.os (i : Int) l) from ⟨h.bx.cell i (Dv.ar_at hi4), (h.ow i hi4).sv⟩)
              have HE := hideP (HSS.out (i : Int))
              generalize ptL m.cs m.os (i : Int) l' = pt at HPP hpl HE
              generalize ptL m.cs m.os (i : Int) l = pt0 at HC HE
              have HW4 := hideP hW4
              have HWI := hideP (fun (W : World) (h : Below wr.heap.size wr W) => hWi.below h)
              clear hW4
              go_wp2_with fail
              refine HPP.out.mono ?_
              rintro e w28 ⟨A28, c28, rfl, ho28, hb28⟩
              obtain ⟨z1, z2⟩ := HC.out _ (HWI.out _ hb28)
              have hwi := (HWI.out _ hb28).who
              have hs28 := ho28.sv
              have hb28' := hbi.trans (hb28.mono hbi.size)
              clear HPP hb28 ho28 hWi hbi HC HWI
              go_wp2_with fail
              refine (icontains_any Aw cw ws (i : Int) _ hwi.vs.is_int (by omega)).mono ?_
              rintro e w29 ⟨rfl, rfl⟩
              cases hin : inI (i : Int) ws with
              | true =>
                go_wp2_with fail
                go_roundw
                case rel => exact ⟨i + 1, by omega, by go_num, hb28'⟩
                case measure => simp [intOf]; omega
              | false =>
                have hee := HE.out (inI_no.1 hin)
                subst hee
                clear hin
                go_wp2_with fail
                refine (equal_same _ _ _ _ pt _ hs28.ps z2.ps (by omega)).mono ?_
                rintro e w30 ⟨rfl, hb30⟩
                have hb30' := hb28'.trans (hb30.mono hb28'.size)
                clear hb30 hb28' z1 z2 hs28
                go_wp2_with fail
                go_roundw
                case rel => exact ⟨i + 1, by omega, by go_num, hb30'⟩
                case measure => simp [intOf]; omega
            · have g3 : ¬ (i : Int) < 4 := by omega
              go_wp2_with fail
              go_roundw
              case rel => exact ⟨k + 1, l', q', by omega, by go_num, hWi.h⟩
              case measure => simp [intOf]; omega
    · have hbe := hM.be
      go_wp2_with fail
      go_ret
      exact ⟨rfl, hbe⟩
end Go.Proofs.YtpefdonhacmaoaaGreat

set_option linter.unusedVariables false
set_option linter.unusedSimpArgs false
namespace Go.Proofs.YtpefdonhacmaoaaGreat
open Go.RowKit Go.ChangeShapes Go.WideShapes Go.Deep

theorem lit_of_cell {W : World} {a : Addr} {v : Value} (h : W.cell? (a.add 0) = some v) : ∃ b o, a = ⟨b, o, none⟩ := by
  obtain ⟨b, o, sp⟩ := a
  have hsp : sp = none := by simpa [Addr.add] using World.cell?_spot h
  subst hsp
  exact ⟨b, o, rfl⟩
theorem open_is {H : Type} {enc : TypeId × Value → H} {W : World} {A : Option Addr} {len cap : Nat} {d : DataW H} {p : List MemPlace} (h : DataW.Trod enc Tryz.prog W 0 (fun _ => true) true 22 (.slice A len cap) d p) :
    ∃ ys : List Int, len = ys.length ∧ IS W A ys ∧ ys.length ≤ cap ∧ cap ≤ 9223372036854775807 ∧ (A = none → cap = 0) := by
  obtain ⟨fuel, hf⟩ := h
  rcases open_ints Tryz.underlying22 Tryz.underlying3 (by kernel_rfl) hf with ⟨hcs, _⟩ | ⟨x, l, c, zs, hcs, _, hl, hm, hz, _, hcell, hwz⟩
  · simp [Value.cells] at hcs
    obtain ⟨rfl, rfl, rfl⟩ := hcs
    exact ⟨[], rfl, fun i z hz => by simp at hz, by simp, by simp, fun _ => rfl⟩
  · simp [Value.cells] at hcs
    obtain ⟨rfl, rfl, rfl⟩ := hcs
    simp only [if_true] at hz
    refine ⟨zs.take len, by simp; omega, fun i z hi => ?_, by simp; omega, by unfold maxLen at hm; exact hm, fun e => by cases e⟩
    rw [List.getElem?_take] at hi
    split at hi
    · have hlt : i < zs.length := by omega
      have hc := hcell i hlt
      obtain ⟨b, o, rfl⟩ := lit_of_cell (hcell 0 (by omega))
      rw [Addr.add_lit] at hc
      refine ⟨b, o, rfl, cell_lt hc, ?_⟩
      rw [hc]
      simp [hlt] at hi
      simp [hlt, hi]
    · cases hi
theorem open_ls {H : Type} {enc : TypeId × Value → H} {W : World} {A : Option Addr} {len cap : Nat} {d : DataW H} {p : List MemPlace} (h : DataW.Trod enc Tryz.prog W 0 (fun _ => true) true 23 (.slice A len cap) d p) :
    ∃ cs : List Cl, len = cs.length ∧ LS W A cs ∧ cs.length ≤ cap ∧ cap ≤ 9223372036854775807 ∧ (A = none → cap = 0) := by
  obtain ⟨fuel, hf⟩ := h
  rcases open_int_rows Tryz.underlying23 Tryz.underlying22 Tryz.underlying3 (by kernel_rfl) (by kernel_rfl) hf with ⟨hcs, _⟩ | ⟨a, l, c, Ar, L, C, Z, hcs, _, hl, hm, _, hr⟩
  · simp [Value.cells] at hcs
    obtain ⟨rfl, rfl, rfl⟩ := hcs
    exact ⟨[], rfl, ⟨VS.nil, by simp⟩, by simp, by simp, fun _ => rfl⟩
  · simp [Value.cells] at hcs
    obtain ⟨rfl, rfl, rfl⟩ := hcs
    refine ⟨(List.range len).map fun r => ⟨Ar r, C r, (Z r).take (L r)⟩, by simp, ⟨fun i v hv => ?_, fun x hx => ?_⟩, by simpa using hl, by unfold maxLen at hm; exact hm, fun e => by cases e⟩
    · have hi : i < len := by
        rcases Nat.lt_or_ge i len with h | h
        · exact h
        · simp [h] at hv
      obtain ⟨h1, h2, h3, h4, _⟩ := hr i (by omega)
      simp [hi, clV] at hv
      obtain ⟨b, o, rfl⟩ := lit_of_cell (hr 0 (by omega)).1
      rw [Addr.add_lit] at h1
      refine ⟨b, o, rfl, cell_lt h1, ?_⟩
      rw [h1, ← hv]
      congr 2
      omega
    · simp at hx
      obtain ⟨r, hlt, rfl⟩ := hx
      obtain ⟨h1, h2, h3, h4, h5, h6, h7⟩ := hr r (by omega)
      refine ⟨fun i z hz => ?_, by simp; omega, by unfold maxLen at h3; exact h3⟩
      simp only at hz ⊢
      rw [List.getElem?_take] at hz
      split at hz
      · have hlt2 : i < (Z r).length := by
          rcases Nat.lt_or_ge i (Z r).length with h | h
          · exact h
          · simp [h] at hz
        cases hA : Ar r with
        | none => have := h6 hA; omega
        | some a' =>
          have hc := (h7 a' hA).2 i (by omega)
          obtain ⟨b, o, rfl⟩ := lit_of_cell ((h7 a' hA).2 0 (by omega))
          rw [Addr.add_lit] at hc
          refine ⟨b, o, rfl, cell_lt hc, ?_⟩
          rw [hc]
          simp [hlt2] at hz
          simp [hlt2, hz]
      · cases hz
end Go.Proofs.YtpefdonhacmaoaaGreat
