/-
  The walk of StoreOwn.
-/
import Derived.Test.YtpefdonhacmaoaaGreatBo47
import Derived.Test.YtpefdonhacmaoaaGreatBo50
import Derived.Deep.RegionHeld3
import Derived.Deep.DeepCutAuto
set_option linter.unusedVariables false
set_option linter.unusedSimpArgs false
namespace Go.Proofs.YtpefdonhacmaoaaGreat
open Go.RowKit

set_option maxHeartbeats 400000 in
theorem mark_c (w : World) : Calls Tryz.prog 18 #[] w fun e w' => e = .returned (.agg #[.string ⟨#[109, 97, 114, 107]⟩, .int .i64 (-7)]) ∧ Below w.heap.size w w' := by
  have hb := (Below.refl w.heap.size w).alloc (Nat.le_refl _) (.cells #[.string ⟨#[109, 97, 114, 107]⟩, .int .i64 (-7)] 51)
  have q0 := (Box.new w 51 #[.string ⟨#[109, 97, 114, 107]⟩, .int .i64 (-7)]).cell 0 rfl
  have q1 := (Box.new w 51 #[.string ⟨#[109, 97, 114, 107]⟩, .int .i64 (-7)]).cell 1 rfl
  go_enter Tryz.func18, Tryz.ntmps18
  go_wp2_with fail
  exact bodyPost_ret (v := .agg #[.string ⟨#[109, 97, 114, 107]⟩, .int .i64 (-7)]) (by simp [results, Tryz.results18, go_sem, q0, q1]) rfl ⟨rfl, hb⟩

set_option maxHeartbeats 4000000 in
set_option maxRecDepth 100000 in
theorem sown_walk (A D : Option Addr) (c cd : Nat) (l : List Pr) (m : Mp) (d : List Opr) (k n : Int) (w : World) (hA : SV w A c l) (hl : l.length * 24 ≤ 140737488351232) (hm : MS w m) (hmo : m.os.length ≤ 9223372036854775807)
    (hD : OS w w.heap.size D d) (hdc : d.length ≤ cd) (hd0 : D = none → cd = 0) (hds : d.length * 48 ≤ 140737488351232) :
    Calls Tryz.prog 4 #[.slice A l.length c, .agg #[.slice m.A m.cs.length m.ca, .slice m.O m.os.length m.co], .agg #[.slice D d.length cd], .int .i64 k, .int .i64 n] w fun e w' => e = .returned (.bool true) ∧ Below w.heap.size w w' := by
  have hb0 := ((Below.refl w.heap.size w).alloc (Nat.le_refl _) (.cells #[.slice m.A m.cs.length m.ca, .slice m.O m.os.length m.co] 31)).alloc (by simp) (.cells #[.slice D d.length cd] 39)
  have xm := (Box.new w 31 #[.slice m.A m.cs.length m.ca, .slice m.O m.os.length m.co]).alloc (.cells #[.slice D d.length cd] 39)
  have x7 := Box.new (w.alloc (.cells #[.slice m.A m.cs.length m.ca, .slice m.O m.os.length m.co] 31)) 39 #[.slice D d.length cd]
  rw [World.size_alloc] at x7
  go_enter Tryz.func4, Tryz.ntmps4
  go_wp2_with fail
  generalize (w.alloc _).alloc _ = w0 at hb0 xm x7 ⊢
  refine (stbegun_any _).mono ?_
  rintro e w1 ⟨rfl, hb1⟩
  go_wp2_with fail
  refine (mark_c _).mono ?_
  rintro e w2 ⟨rfl, hb2⟩
  replace xm := (xm.below hb1).below hb2
  replace x7 := (x7.below hb1).below hb2
  have hb := (hb0.trans (hb1.mono hb0.size)).trans (hb2.mono (hb0.trans (hb1.mono hb0.size)).size)
  clear hb0 hb1 hb2
  generalize hgm : w.heap.size = gm at xm x7
  have HGM := hideP hgm
  clear hgm
  go_wp2_with fail
  refine (roomyP_any A c l mkP w2 (hA.below hb) hl).mono ?_
  rintro e w3 ⟨gi, rfl, oi, hb3⟩
  replace xm := xm.below hb3
  replace x7 := x7.below hb3
  replace oi := oi.mono hb.size
  replace hb := hb.trans (hb3.mono hb.size)
  clear hb3
  go_wp2_with fail
  refine (mark_c _).mono ?_
  rintro e w4 ⟨rfl, hb4⟩
  replace xm := xm.below hb4
  replace x7 := x7.below hb4
  replace oi := oi.below hb4
  replace hb := hb.trans (hb4.mono hb.size)
  clear hb4
  go_wp2_with fail
  refine (roomyP_any none 0 [] mkP w4 (SV.nil w4) (by simp)).mono ?_
  rintro e w5 ⟨go, rfl, oo, hb5⟩
  replace xm := xm.below hb5
  replace x7 := x7.below hb5
  replace oi := oi.below hb5
  replace oo := oo.mono hb.size
  replace hb := hb.trans (hb5.mono hb.size)
  clear hb5
  have z7 := x7.cell 0 (v := .slice D d.length cd) rfl
  go_wp2_with fail
  refine (roomyO_any D cd d mkO w5 ((hD.below hb).more hb.size) hdc hd0 hds).mono ?_
  rintro e w6 ⟨gd, rfl, od, hb6⟩
  replace xm := xm.below hb6
  replace x7 := x7.below hb6
  replace oi := oi.below hb6
  replace oo := oo.below hb6
  replace od := od.mono hb.size
  replace hb := hb.trans (hb6.mono hb.size)
  clear hb6 z7
  go_wp2_with fail
  have xo := ((Box.new w6 39 #[.slice (some ⟨gd, 0, none⟩) d.length (d.length + 3)]).alloc (.cells #[.slice (some ⟨gd, 0, none⟩) d.length (d.length + 3), .slice (some ⟨gd, 0, none⟩) d.length (d.length + 3)] 39)).alloc (.cells #[.int .i64 k, .int .i64 n] 3)
  have xs := (Box.new (w6.alloc (.cells #[.slice (some ⟨gd, 0, none⟩) d.length (d.length + 3)] 39)) 39 #[.slice (some ⟨gd, 0, none⟩) d.length (d.length + 3), .slice (some ⟨gd, 0, none⟩) d.length (d.length + 3)]).alloc (.cells #[.int .i64 k, .int .i64 n] 3)
  have xi := VS.of_box (Box.new ((w6.alloc (.cells #[.slice (some ⟨gd, 0, none⟩) d.length (d.length + 3)] 39)).alloc (.cells #[.slice (some ⟨gd, 0, none⟩) d.length (d.length + 3), .slice (some ⟨gd, 0, none⟩) d.length (d.length + 3)] 39)) 3 #[.int .i64 k, .int .i64 n])
  have hb7 := (((Below.refl w6.heap.size w6).alloc (Nat.le_refl _) (.cells #[.slice (some ⟨gd, 0, none⟩) d.length (d.length + 3)] 39)).alloc (by simp) (.cells #[.slice (some ⟨gd, 0, none⟩) d.length (d.length + 3), .slice (some ⟨gd, 0, none⟩) d.length (d.length + 3)] 39)).alloc (by simp; omega) (.cells #[.int .i64 k, .int .i64 n] 3)
  simp only [World.size_alloc] at xs xi
  generalize ((w6.alloc _).alloc _).alloc _ = w7 at xo xs xi hb7 ⊢
  replace xm := xm.below hb7
  replace x7 := x7.below hb7
  replace oi := oi.below hb7
  replace oo := oo.below hb7
  replace od := od.below hb7
  replace hb := hb.trans (hb7.mono hb.size)
  clear hb7
  generalize w6.heap.size = g6 at xo xs xi ⊢
  refine (roomyI_any (some ⟨g6 + 1 + 1, 0, none⟩) 2 [.int .i64 k, .int .i64 n] (-7) w7 xi (by simp) (by simp) (by simp [Value.oneCell']) (by simp)).mono ?_
  rintro e w8 ⟨gp, rfl, op, hb8⟩
  have hH : SoH w ⟨A, c, l, gm, m, gm + 1, D, cd, d, gi, go, gd, g6, g6 + 1, gp, k, n, w8.heap.size⟩ [] [] [] [] w8 := by
    have hb9 := hb.trans (hb8.mono hb.size)
    have oi8 := oi.below hb8
    have od8 := od.below hb8
    have op8 := op.mono hb.size
    exact ⟨hA.below hb9, hD.go hb9, xm.below hb8, hm.below hb9, x7.below hb8, oi8, oo.below hb8, od8, xo.below hb8, xs.below hb8, op8, hb9, Nat.le_refl _, (World.ownsRow.lt oi8 gi rfl).2, (World.ownsRow.lt od8 gd rfl).2, (World.ownsRow.lt op8 gp rfl).2, RsP.nil _ _, RsI.nil _ _, RsS.nil _ _, RsB.nil _ _⟩
  clear xm x7 oi oo od hb xo xs xi op hb8 hA hm hD
  generalize w8.heap.size = BB at hH
  have hl4 : l.length < 4611686018427387904 := by omega
  have hkN := keyN_ok (wi_lt k 8 (by omega))
  have hka := fun W => rkey_be k W
  generalize keyN (wi k 8) = key at hkN hka
  have h9 := wi_lt n 9 (by omega)
  have w9 : IntKind.i64.wrap ((wi n 9 : Int) - 4) = (wi n 9 : Int) - 4 := by simp only [IntKind.wrap_i64]; omega
  have HV := hideP (show valB ((wi n 9 : Int) - 4) = true from valB_iff'.2 (by omega))
  clear h9
  go_wp2_with fail
  refine (hka _).mono ?_
  rintro e w10 ⟨rfl, hb10⟩
  replace hH := hH.below hb10
  clear hb10
  go_wp2_with fail
  refine (within_any n 9 (by omega) (by omega) _).mono ?_
  rintro e w11 ⟨rfl, rfl⟩
  go_wp2_with fail
  refine (putO _ _ l key ((wi n 9 : Int) - 4) w10 hH.si hl4 hkN HV.out).mono ?_
  rintro e w11 ⟨A1, c1, x1, er1, rfl, ho1, hs1, hb11⟩
  replace hH := hH.addP hb11 ho1 hs1
  clear hb11 ho1 hs1 w9 HV
  go_wp2_with fail
  refine (scanO _ _ l w11 hH.si (by omega)).mono ?_
  rintro e w12 ⟨A2, c2, x2, er2, rfl, ho1, hs1, hb11⟩
  replace hH := hH.addP hb11 ho1 hs1
  clear hb11 ho1 hs1
  go_wp2_with fail
  refine (joinO _ _ _ _ l w12 hH.si hH.so hl4).mono ?_
  rintro e w13 ⟨A3, c3, x3, er3, rfl, ho1, hs1, hb11⟩
  replace hH := hH.addP hb11 ho1 hs1
  clear hb11 ho1 hs1
  have zo : w13.cell? ⟨g6, 0, none⟩ = some (.slice (some ⟨gd, 0, none⟩) d.length (d.length + 3)) := hH.xo.cell 0 rfl
  go_wp2_with fail
  refine (runO _ _ _ _ l d w13 hH.si hl4 hH.sd).mono ?_
  rintro e w14 ⟨A4, c4, x4, b4, er4, rfl, ho1, hs1, hb11⟩
  replace hH := hH.addP hb11 ho1 hs1
  clear hb11 ho1 hs1 zo
  go_wp2_with fail
  refine (serialO _ _ _ _ l _ w14 hH.si hl4 hH.ds (by simp)).mono ?_
  rintro e w15 ⟨A5, c5, x5, Ab, cb, bs1, er5, rfl, ho1, hs1, ho2, hs2, hb11⟩
  replace hH := hH.addPB hb11 ho1 hs1 ho2 hs2
  clear hb11 ho1 hs1 ho2 hs2
  go_wp2_with fail
  refine (playO _ _ _ _ _ _ l _ _ w15 hH.si hl4 hH.ds (by simp) hH.sp (by simp)).mono ?_
  rintro e w16 ⟨A6, c6, x6, Ac, cc, bs2, Ad, cdd, ns1, er6, rfl, ho1, hs1, ho2, hs2, ho3, hs3, hb11⟩
  replace hH := hH.addPBI hb11 ho1 hs1 ho2 hs2 ho3 hs3
  clear hb11 ho1 hs1 ho2 hs2 ho3 hs3
  go_wp2_with fail
  replace hH := hH.drew
  have HPT := hideP (fun (ps : List SvP) (is : List SvI) (ks : List SvS) (bs : List SvB) (W : World) (h : SoH w ⟨A, c, l, gm, m, gm + 1, D, cd, d, gi, go, gd, g6, g6 + 1, gp, k, n, BB⟩ ps is ks bs W) => partO m _ _ l (wi n 4 : Int) W h.ms h.si hmo hl4)
  go_region_held3 (fun w' => w'.cell? ⟨gm, 0, none⟩ = some (.slice m.A m.cs.length m.ca) ∧ w'.cell? ⟨gm, 1, none⟩ = some (.slice m.O m.os.length m.co)) (first | (exact SoH.c (w := w) hH)) (first
    | (go_at_call 23; refine (within_any n 4 (by omega) (by omega) _).mono ?_; rintro e wk ⟨rfl, rfl⟩)
    | (go_at_call 29; refine (HPT.out _ _ _ _ _ hH).mono ?_; rintro e w18 ⟨A7, c7, x7, er7, rfl, ho1, hs1, hb11⟩; replace hH := hH.addP hb11 ho1 hs1; clear hb11 ho1 hs1))
  clear HPT
  have zo : w18.cell? ⟨g6, 0, none⟩ = some (.slice (some ⟨gd, 0, none⟩) d.length (d.length + 3)) := hH.xo.cell 0 rfl
  go_wp2_with fail
  refine (dkeysO _ _ d w18 hH.sd).mono ?_
  rintro e w19 ⟨Ae, ce, ks1, Af, cf, ks2, er8, rfl, ht, hs1, hs2, hb11⟩
  replace hH := hH.addKK hb11 ht hs1 hs2
  clear hb11 ht hs1 hs2 zo
  go_wp2_with fail
  refine (roundsO _ _ _ w19 hH.ds (by simp)).mono ?_
  rintro e w20 ⟨Ag, cg, ns2, er9, rfl, ho1, hs1, hb11⟩
  replace hH := hH.addI hb11 ho1 hs1
  clear hb11 ho1 hs1
  go_wp2_with fail
  refine (equal_same _ _ _ _ l w20 hH.si.ps hH.la.ps hl4).mono ?_
  rintro e w21 ⟨rfl, hb11⟩
  replace hH := hH.below hb11
  clear hb11
  go_wp2_with fail
  refine (mark_c _).mono ?_
  rintro e w22 ⟨rfl, hb11⟩
  replace hH := hH.below hb11
  clear hb11
  go_wp2_with fail
  refine (markP_any _ gi l mkP w22 hH.oi hl).mono ?_
  rintro e w23 ⟨rfl, hb11⟩
  replace hH := hH.below hb11
  clear hb11
  go_wp2_with fail
  refine (mark_c _).mono ?_
  rintro e w24 ⟨rfl, hb11⟩
  replace hH := hH.below hb11
  clear hb11
  go_wp2_with fail
  refine (markP_any _ go [] mkP w24 hH.oo (by simp)).mono ?_
  rintro e w25 ⟨rfl, hb11⟩
  replace hH := hH.below hb11
  clear hb11
  have zo : w25.cell? ⟨g6, 0, none⟩ = some (.slice (some ⟨gd, 0, none⟩) d.length (d.length + 3)) := hH.xo.cell 0 rfl
  have z7 : w25.cell? ⟨gm + 1, 0, none⟩ = some (.slice D d.length cd) := hH.x7.cell 0 rfl
  go_wp2_with fail
  refine (equalO_same _ _ _ _ d w25 hH.sd hH.os (by omega)).mono ?_
  rintro e w26 ⟨rfl, hb11⟩
  replace hH := hH.below hb11
  clear hb11 zo z7
  have zo : w26.cell? ⟨g6, 0, none⟩ = some (.slice (some ⟨gd, 0, none⟩) d.length (d.length + 3)) := hH.xo.cell 0 rfl
  go_wp2_with fail
  refine (markO_any _ gd d mkO w26 hH.od hds).mono ?_
  rintro e w27 ⟨rfl, hb11⟩
  replace hH := hH.below hb11
  clear hb11 zo
  obtain ⟨zk, zn⟩ : w27.cell? ⟨gp, 0, none⟩ = some (.int .i64 k) ∧ w27.cell? ⟨gp, 1, none⟩ = some (.int .i64 n) := by
    obtain ⟨b, o, e, _, h1⟩ := hH.sp 0 k rfl
    obtain ⟨b', o', e', _, h2⟩ := hH.sp 1 n rfl
    injection e with e
    injection e with e1 e2 _
    injection e' with e'
    injection e' with e3 e4 _
    subst e1; subst e2; subst e3; subst e4
    exact ⟨h1, h2⟩
  have dk : (k != k) = false := by simp
  have dn : (n != n) = false := by simp
  go_wp2_with fail
  refine (markI_any _ gp [.int .i64 k, .int .i64 n] (-7) w27 hH.op (by simp)).mono ?_
  rintro e w28 ⟨rfl, rfl⟩
  clear zk zn dk dn
  go_wp2_with fail
  have hbA := hH.hB
  have xa := Box.new w28 33 #[.slice A1 x1.length c1, .slice A2 x2.length c2, .slice A3 x3.length c3, .slice A4 x4.length c4, .slice A5 x5.length c5, .slice A6 x6.length c6, .slice A7 x7.length c7]
  replace hH := hH.alloc (.cells #[.slice A1 x1.length c1, .slice A2 x2.length c2, .slice A3 x3.length c3, .slice A4 x4.length c4, .slice A5 x5.length c5, .slice A6 x6.length c6, .slice A7 x7.length c7] 33)
  generalize w28.alloc _ = wl at hH xa ⊢
  generalize w28.heap.size = ga at hbA xa ⊢
  obtain ⟨ss, hss⟩ : ∃ ss : List SvP, ss = [⟨A1, c1, x1⟩, ⟨A2, c2, x2⟩, ⟨A3, c3, x3⟩, ⟨A4, c4, x4⟩, ⟨A5, c5, x5⟩, ⟨A6, c6, x6⟩, ⟨A7, c7, x7⟩] := ⟨_, rfl⟩
  have HL := hideP (show ss.length = 7 by rw [hss]; rfl)
  replace xa : Box wl ga 33 (ss.map SvP.v).toArray := by rw [hss]; exact xa
  replace hH : SoH w ⟨A, c, l, gm, m, gm + 1, D, cd, d, gi, go, gd, g6, g6 + 1, gp, k, n, BB⟩ ss [⟨Ad, cdd, ns1⟩, ⟨Ag, cg, ns2⟩] [⟨Ae, ce, ks1⟩, ⟨Af, cf, ks2⟩] [⟨Ab, cb, bs1⟩, ⟨Ac, cc, bs2⟩] wl := by rw [hss]; exact hH
  have hP := hH.rp
  clear hss
  have hBB : BB ≤ wl.heap.size := hH.hB
  go_loopw [40, 193] (Ap1P wl ss) (fun _ i _ => 7 - (intOf i).toNat)
  case atStart => exact ⟨0, [], none, 0, Nat.zero_le _, rfl, rfl, rfl, ⟨OR.nil _ _ _, (fun s hs => by cases hs), (fun j s s' hs => by simp at hs)⟩, Below.refl _ _⟩
  case round =>
    obtain ⟨q, ws, Aw, cw, hq, rfl, rfl, hwl, hW, hb⟩ := hrel
    by_cases hq7 : q < 7
    · have hql : q < ss.length := by have := HL.out; omega
      have hbx := xa.below hb
      have z1 := hbx.cell q (v := ss[q].v) (by simp [hql])
      have hs0 := OV.below (hP.ow _ (List.getElem_mem hql)) hb
      have hsm := hP.sm _ (List.getElem_mem hql)
      have HEQ := hideP (show ∀ s', ss[q]? = some s' → ss[q].zs = s'.zs from fun s' hs => by rw [List.getElem?_eq_getElem hql] at hs; injection hs with hs; rw [hs])
      generalize ss[q] = s at z1 hs0 hsm HEQ
      obtain ⟨A0, c0, zs⟩ := s
      simp only [SvP.v, SvP.o] at z1 hs0 hsm HEQ
      have HCL := hideP (pclone_any A0 c0 zs wr hs0.sv (by omega))
      have g1 : (0 : Int) ≤ (q : Int) := by omega
      have g2 : (q : Int) < 7 := by omega
      have HWL := hideP hwl
      clear hbx hs0 hwl hH hP xa
      go_wp2_with fail
      refine HCL.out.mono ?_
      rintro e w1 ⟨Aq, cq, rfl, ho1, hb1⟩
      have hW1 := hW.below hb1
      have hb2 := hb.trans (hb1.mono hb.size)
      have ho1' := ho1.mono hb.size
      obtain ⟨A', c', w2, hrun, hr2, hbl2, hg2, _⟩ := app_row (P := Tryz.prog) Tryz.underlying78 rowsPInfo rfl w1 wl.heap.size 78 Aw cw _ hW1.row [.slice Aq zs.length cq] (by simp [Value.oneCell']) (by rw [List.length_map, HWL.out]; simp only [List.length_singleton]; omega) (by decide) hb2.size
      have hb3 := hbl2 wl.heap.size wl (Nat.le_refl _) hb2
      have hal := (Below.refl w1.heap.size w1).alloc (Nat.le_refl _) (.cells #[.slice Aq zs.length cq] 33)
      have hX : ws.map SvP.v ++ [Value.slice Aq zs.length cq] = (ws ++ [(⟨Aq, cq, zs⟩ : SvP)]).map SvP.v := by simp [SvP.v]
      rw [hX] at hrun hr2
      rw [List.length_map, List.length_map] at hrun
      have hne : ∀ {xs : List Pr} {a : Option Addr} {cc : Nat} {B' : Nat}, OV (w1.alloc (.cells #[.slice Aq zs.length cq] 33)) B' a cc xs → (Value.slice a xs.length cc).ownBlock = none ∨ (Value.slice a xs.length cc).ownBlock ≠ (Value.slice Aw (ws.map SvP.v).length cw).ownBlock := fun ho => rows_ne ho (hW1.row.below hal) (by decide)
      have hW2 : WanP wl w2 ss (ws ++ [⟨Aq, cq, zs⟩]) A' c' := by
        refine ⟨hr2, fun s hs => ?_, fun j s s' hs hs' => ?_⟩
        · rcases List.mem_append.1 hs with hs | hs
          · exact World.ownsRow.kept (OV.below (hW1.ow s hs) hal) hg2 (hne (OV.below (hW1.ow s hs) hal))
          · rw [List.mem_singleton.1 hs]
            exact World.ownsRow.kept (OV.below ho1' hal) hg2 (hne (OV.below ho1' hal))
        · rcases Nat.lt_or_ge j ws.length with hj | hj
          · rw [List.getElem?_append_left hj] at hs
            exact hW1.eq j s s' hs hs'
          · have hjk : j = q := by
              rcases Nat.lt_or_ge j (ws.length + 1) with h | h
              · have := HWL.out; omega
              · rw [List.getElem?_eq_none (by simp; omega)] at hs; cases hs
            subst hjk
            rw [List.getElem?_append_right hj] at hs
            have := HWL.out
            rw [show j - ws.length = 0 by omega] at hs
            simp at hs
            rw [← hs]
            exact HEQ.out s' hs'
      have HR := hideP hrun
      clear hrun hX hne hr2 hg2 hbl2 hW hW1 ho1 ho1' hb1 HCL hal hb hb2
      go_wp2_with (at_builtin; refine Lib.wpList_append_run _ rfl _ _ _ _ rfl _ _ rfl rfl _ _ HR.out ?_)
      go_roundw
      case rel => exact ⟨q + 1, ws ++ [⟨Aq, cq, zs⟩], A', c', by omega, by go_num, by simp, by simp [HWL.out], hW2, hb3⟩
      case measure => simp [intOf]; omega
    · have hwn : ws.length = 7 := by have := HL.out; omega
      have HWN := hideP hwn
      clear hwl hwn
      replace hH := hH.below hb
      have hF : FiH w BB ga ss ws Aw cw [⟨Ad, cdd, ns1⟩, ⟨Ag, cg, ns2⟩] [] [⟨Ae, ce, ks1⟩, ⟨Af, cf, ks2⟩] [] [⟨Ab, cb, bs1⟩, ⟨Ac, cc, bs2⟩] [] wl wr :=
        ⟨xa.below hb, hW, hH.rp, hH.ri, hH.rk, hH.rb, RsI.nil _ _, RsS.nil _ _, RsB.nil _ _, hH.be, hb.size⟩
      clear hb hW xa hP
      go_wp2_with fail
      refine (oclI _ (hF.ri.ow ⟨Ad, cdd, ns1⟩ (by simp)) (hF.ri.sm ⟨Ad, cdd, ns1⟩ (by simp))).mono ?_
      rintro e wc1 ⟨Ac1, cc1, rfl, ho1, hb1⟩
      have hsm := hF.ri.sm ⟨Ad, cdd, ns1⟩ (by simp)
      replace hH := hH.below hb1
      replace hF := hF.addI hb1 ho1 hsm
      clear hb1 ho1 hsm
      go_wp2_with fail
      refine (oclI _ (hF.ri.ow ⟨Ag, cg, ns2⟩ (by simp)) (hF.ri.sm ⟨Ag, cg, ns2⟩ (by simp))).mono ?_
      rintro e wc2 ⟨Ac2, cc2, rfl, ho1, hb1⟩
      have hsm := hF.ri.sm ⟨Ag, cg, ns2⟩ (by simp)
      replace hH := hH.below hb1
      replace hF := hF.addI hb1 ho1 hsm
      clear hb1 ho1 hsm
      go_wp2_with fail
      refine (oclS _ (hF.rk.ow ⟨Ae, ce, ks1⟩ (by simp)) (hF.rk.sm ⟨Ae, ce, ks1⟩ (by simp))).mono ?_
      rintro e wc3 ⟨Ac3, cc3, rfl, ho1, hb1⟩
      have hsm := hF.rk.sm ⟨Ae, ce, ks1⟩ (by simp)
      replace hH := hH.below hb1
      replace hF := hF.addS hb1 ho1 hsm
      clear hb1 ho1 hsm
      go_wp2_with fail
      refine (oclS _ (hF.rk.ow ⟨Af, cf, ks2⟩ (by simp)) (hF.rk.sm ⟨Af, cf, ks2⟩ (by simp))).mono ?_
      rintro e wc4 ⟨Ac4, cc4, rfl, ho1, hb1⟩
      have hsm := hF.rk.sm ⟨Af, cf, ks2⟩ (by simp)
      replace hH := hH.below hb1
      replace hF := hF.addS hb1 ho1 hsm
      clear hb1 ho1 hsm
      go_wp2_with fail
      refine (oclB _ (hF.rb.ow ⟨Ab, cb, bs1⟩ (by simp)) (hF.rb.sm ⟨Ab, cb, bs1⟩ (by simp))).mono ?_
      rintro e wc5 ⟨Ac5, cc5, rfl, ho1, hb1⟩
      have hsm := hF.rb.sm ⟨Ab, cb, bs1⟩ (by simp)
      replace hH := hH.below hb1
      replace hF := hF.addB hb1 ho1 hsm
      clear hb1 ho1 hsm
      go_wp2_with fail
      refine (oclB _ (hF.rb.ow ⟨Ac, cc, bs2⟩ (by simp)) (hF.rb.sm ⟨Ac, cc, bs2⟩ (by simp))).mono ?_
      rintro e wc6 ⟨Ac6, cc6, rfl, ho1, hb1⟩
      have hsm := hF.rb.sm ⟨Ac, cc, bs2⟩ (by simp)
      replace hH := hH.below hb1
      replace hF := hF.addB hb1 ho1 hsm
      clear hb1 ho1 hsm
      go_wp2_with fail
      have tI : Ty wc6 gi 51 := own_ty hH.oi rfl
      have hgi := (World.ownsRow.lt hH.oi gi rfl).1
      have hgd := (World.ownsRow.lt hH.od gd rfl).1
      have hgp := (World.ownsRow.lt hH.op gp rfl).1
      have li := hH.li
      have ld := hH.ld
      have lp := hH.lp
      simp only at li ld lp
      refine (pspoil_any w.heap.size (some ⟨gi, 0, none⟩) (l.length + 3) l _ _ wc6 (hH.oi.head (by simp)) (by omega)).mono ?_
      rintro e wd ⟨rfl, hg1⟩
      have hg1' : wc6.grownBy wd (some gi) := hg1
      replace hF := hF.kept hg1' li hbA hBB hgi
      have od : OO wd w.heap.size (some ⟨gd, 0, none⟩) (d.length + 3) (d ++ List.replicate 3 mkO) := World.ownsRow.kept hH.od hg1' (own_ne hH.od tI (by decide))
      have op : OR wd w.heap.size 3 (some ⟨gp, 0, none⟩) 5 ([.int .i64 k, .int .i64 n] ++ List.replicate 3 (.int .i64 (-7))) := World.ownsRow.kept hH.op hg1' (own_ne hH.op tI (by decide))
      have xo : Box wd g6 39 #[.slice (some ⟨gd, 0, none⟩) d.length (d.length + 3)] := hH.xo.grown hg1' (fun e => by
        injection e with e
        have e2 : g6 = gi := e
        exact absurd (tI.inj (e2 ▸ hH.xo.ty)) (by decide))
      have zo := xo.cell 0 (v := .slice (some ⟨gd, 0, none⟩) d.length (d.length + 3)) rfl
      clear hg1 hg1' hH tI
      go_wp2_with fail
      refine (spoilO_any w.heap.size gd _ d ⟨0, ⟨#[]⟩, ⟨#[]⟩, 0⟩ wd (od.head (by simp)) (by omega)).mono ?_
      rintro e we ⟨rfl, hg1⟩
      have tD : Ty wd gd 57 := own_ty od rfl
      replace hF := hF.kept hg1 ld hbA hBB hgd
      have op2 : OR we w.heap.size 3 (some ⟨gp, 0, none⟩) 5 ([.int .i64 k, .int .i64 n] ++ List.replicate 3 (.int .i64 (-7))) := World.ownsRow.kept op hg1 (own_ne op tD (by decide))
      clear hg1 tD od op xo zo
      go_wp2_with fail
      refine (spoilI_any w.heap.size _ _ [.int .i64 k, .int .i64 n] 3 we (op2.head (by simp))).mono ?_
      rintro e wf ⟨rfl, hg1⟩
      have hg1' : we.grownBy wf (some gp) := hg1
      replace hF := hF.kept hg1' lp hbA hBB hgp
      clear hg1 hg1' op2
      go_wp2_with fail
      go_loopw [226] (FiI w BB ga ss ws Aw cw [⟨Ad, cdd, ns1⟩, ⟨Ag, cg, ns2⟩] [⟨Ac1, cc1, ns1⟩, ⟨Ac2, cc2, ns2⟩] [⟨Ae, ce, ks1⟩, ⟨Af, cf, ks2⟩] [⟨Ac3, cc3, ks1⟩, ⟨Ac4, cc4, ks2⟩] [⟨Ab, cb, bs1⟩, ⟨Ac, cc, bs2⟩] [⟨Ac5, cc5, bs1⟩, ⟨Ac6, cc6, bs2⟩] wl) (fun i _ => 7 - (intOf i).toNat)
      case atStart => exact ⟨0, by omega, rfl, hF⟩
      case round =>
        clear hF
        obtain ⟨q, hq, rfl, hF⟩ := hrel
        by_cases hq7 : q < 7
        · have hql : q < ss.length := by have := HL.out; omega
          have hqw : q < ws.length := by have := HWN.out; omega
          have z1 := hF.xa.cell q (v := ss[q].v) (by simp [hql])
          obtain ⟨b, o, rfl, hbl, z2⟩ := hF.wa.row.vs q ws[q].v (by simp [hqw])
          have hs0 := hF.rp.ow _ (List.getElem_mem hql)
          have hs1 := hF.wa.ow _ (List.getElem_mem hqw)
          have hsm := hF.rp.sm _ (List.getElem_mem hql)
          have heq := hF.wa.eq q _ _ (List.getElem?_eq_getElem hqw) (List.getElem?_eq_getElem hql)
          generalize ss[q] = s at z1 hs0 hsm heq
          generalize ws[q] = s1 at z2 hs1 heq
          obtain ⟨A0, c0, zs⟩ := s
          obtain ⟨Aq, cq, zs1⟩ := s1
          simp only [SvP.v, SvP.o] at z1 z2 hs0 hs1 hsm heq
          subst heq
          have HEQ := hideP (equal_same A0 Aq c0 cq zs1 wr hs0.sv.ps hs1.sv.ps (by omega))
          have g1 : (0 : Int) ≤ (q : Int) := by omega
          have g2 : (q : Int) < 7 := by omega
          have g3 : (q : Int) < (ws.length : Int) := by omega
          clear hs0 hs1
          go_wp2_with fail
          refine HEQ.out.mono ?_
          rintro e w1 ⟨rfl, hb1⟩
          replace hF := hF.below hb1
          clear hb1 HEQ z1 z2
          go_wp2_with fail
          go_roundw
          case rel => exact ⟨q + 1, by omega, by go_num, hF⟩
          case measure => simp [intOf]; omega
        · have hEn : EnH w BB wl.heap.size [⟨Ad, cdd, ns1⟩, ⟨Ag, cg, ns2⟩] [⟨Ac1, cc1, ns1⟩, ⟨Ac2, cc2, ns2⟩] [⟨Ae, ce, ks1⟩, ⟨Af, cf, ks2⟩] [⟨Ac3, cc3, ks1⟩, ⟨Ac4, cc4, ks2⟩] [⟨Ab, cb, bs1⟩, ⟨Ac, cc, bs2⟩] [⟨Ac5, cc5, bs1⟩, ⟨Ac6, cc6, bs2⟩] wr := ⟨hF.ri, hF.rk, hF.rb, hF.ci, hF.ck, hF.cb, hF.be, Nat.le_trans hBB hF.sz⟩
          have HAP := hideP (apartP_any BB ga 7 ss ⟨#[122]⟩ 0 wr ⟨hF.xa, hF.rp.ow, hF.rp.sm, hF.rp.ap⟩ hEn.sz (by have := HL.out; omega))
          rw [HL.out] at HAP
          have hwB : w.heap.size ≤ BB := by omega
          clear hF
          go_wp2_with fail
          refine HAP.out.mono ?_
          rintro e w1 ⟨rfl, hb1, hk1⟩
          have hsz1 : BB ≤ w1.heap.size := Nat.le_trans hEn.sz hb1.size
          have hE : EnH w BB wl.heap.size [⟨Ad, cdd, ns1⟩, ⟨Ag, cg, ns2⟩] [⟨Ac1, cc1, ns1⟩, ⟨Ac2, cc2, ns2⟩] [⟨Ae, ce, ks1⟩, ⟨Af, cf, ks2⟩] [⟨Ac3, cc3, ks1⟩, ⟨Ac4, cc4, ks2⟩] [⟨Ab, cb, bs1⟩, ⟨Ac, cc, bs2⟩] [⟨Ac5, cc5, bs1⟩, ⟨Ac6, cc6, bs2⟩] w1 :=
            ⟨hEn.ri.kpt hk1 (by decide), hEn.rk.kpt hk1 (by decide), hEn.rb.kpt hk1 (by decide), hEn.ci.kpt hk1 (by decide), hEn.ck.kpt hk1 (by decide), hEn.cb.kpt hk1 (by decide), hEn.be.trans (hb1.mono hwB), hsz1⟩
          clear hEn hb1 hk1 HAP
          go_wp2_with fail
          refine (oeqI _ (hE.ri.ow ⟨Ad, cdd, ns1⟩ (by simp)) (hE.ci.ow ⟨Ac1, cc1, ns1⟩ (by simp)) (hE.ri.sm ⟨Ad, cdd, ns1⟩ (by simp))).mono ?_
          rintro e w2 ⟨rfl, hb1⟩
          replace hE := hE.below hb1
          clear hb1
          go_wp2_with fail
          refine (oeqI _ (hE.ri.ow ⟨Ag, cg, ns2⟩ (by simp)) (hE.ci.ow ⟨Ac2, cc2, ns2⟩ (by simp)) (hE.ri.sm ⟨Ag, cg, ns2⟩ (by simp))).mono ?_
          rintro e w3 ⟨rfl, hb1⟩
          replace hE := hE.below hb1
          clear hb1
          go_wp2_with fail
          refine (oeqS _ (hE.rk.ow ⟨Ae, ce, ks1⟩ (by simp)) (hE.ck.ow ⟨Ac3, cc3, ks1⟩ (by simp)) (hE.rk.sm ⟨Ae, ce, ks1⟩ (by simp))).mono ?_
          rintro e w4 ⟨rfl, hb1⟩
          replace hE := hE.below hb1
          clear hb1
          go_wp2_with fail
          refine (oeqS _ (hE.rk.ow ⟨Af, cf, ks2⟩ (by simp)) (hE.ck.ow ⟨Ac4, cc4, ks2⟩ (by simp)) (hE.rk.sm ⟨Af, cf, ks2⟩ (by simp))).mono ?_
          rintro e w5 ⟨rfl, hb1⟩
          replace hE := hE.below hb1
          clear hb1
          go_wp2_with fail
          refine (oeqB _ (hE.rb.ow ⟨Ab, cb, bs1⟩ (by simp)) (hE.cb.ow ⟨Ac5, cc5, bs1⟩ (by simp)) (hE.rb.sm ⟨Ab, cb, bs1⟩ (by simp))).mono ?_
          rintro e w6 ⟨rfl, hb1⟩
          replace hE := hE.below hb1
          clear hb1
          go_wp2_with fail
          refine (oeqB _ (hE.rb.ow ⟨Ac, cc, bs2⟩ (by simp)) (hE.cb.ow ⟨Ac6, cc6, bs2⟩ (by simp)) (hE.rb.sm ⟨Ac, cc, bs2⟩ (by simp))).mono ?_
          rintro e w7 ⟨rfl, hb1⟩
          replace hE := hE.below hb1
          clear hb1
          go_wp2_with fail
          have hsz7 := hE.sz
          have hal := (Below.refl w7.heap.size w7).alloc (Nat.le_refl _) (.cells #[.slice Ad ns1.length cdd, .slice Ag ns2.length cg] 22)
          have hEI := hE.ri.below hal
          refine (apartI_any BB _ 2 [⟨Ad, cdd, ns1⟩, ⟨Ag, cg, ns2⟩] 5 _ ⟨Box.new w7 22 #[.slice Ad ns1.length cdd, .slice Ag ns2.length cg], hEI.ow, hEI.sm, hEI.ap⟩ (by simp only [World.size_alloc]; omega) (by simp)).mono ?_
          rintro e w8 ⟨rfl, hb1, hk1⟩
          have hs1 := hb1.size
          simp only [World.size_alloc] at hs1
          have rk := (hE.rk.below hal).kpt hk1 (by decide)
          have rb := (hE.rb.below hal).kpt hk1 (by decide)
          have be := (hE.below hal).be.trans (hb1.mono hwB)
          clear hE hEI hal hb1 hk1
          go_wp2_with fail
          have hal := (Below.refl w8.heap.size w8).alloc (Nat.le_refl _) (.cells #[.slice Ae ks1.length ce, .slice Af ks2.length cf] 29)
          have hES := rk.below hal
          refine (apartS_any BB _ 2 [⟨Ae, ce, ks1⟩, ⟨Af, cf, ks2⟩] ⟨#[122]⟩ _ ⟨Box.new w8 29 #[.slice Ae ks1.length ce, .slice Af ks2.length cf], hES.ow, hES.sm, hES.ap⟩ (by simp only [World.size_alloc]; omega) (by simp)).mono ?_
          rintro e w9 ⟨rfl, hb1, hk1⟩
          have hs2 := hb1.size
          simp only [World.size_alloc] at hs2
          replace rb := (rb.below hal).kpt hk1 (by decide)
          replace be := (be.trans (hal.mono be.size)).trans (hb1.mono hwB)
          clear rk hES hal hb1 hk1
          go_wp2_with fail
          have hal := (Below.refl w9.heap.size w9).alloc (Nat.le_refl _) (.cells #[.slice Ab bs1.length cb, .slice Ac bs2.length cc] 66)
          have hEB := rb.below hal
          refine (apartB_any BB _ 2 [⟨Ab, cb, bs1⟩, ⟨Ac, cc, bs2⟩] true _ ⟨Box.new w9 66 #[.slice Ab bs1.length cb, .slice Ac bs2.length cc], hEB.ow, hEB.sm, hEB.ap⟩ (by simp only [World.size_alloc]; omega) (by simp)).mono ?_
          rintro e w10 ⟨rfl, hb1, hk1⟩
          have hs3 := hb1.size
          simp only [World.size_alloc] at hs3
          replace be := (be.trans (hal.mono be.size)).trans (hb1.mono hwB)
          clear rb hEB hal hb1 hk1
          go_wp2_with fail
          go_ret
          exact ⟨rfl, be⟩
end Go.Proofs.YtpefdonhacmaoaaGreat
