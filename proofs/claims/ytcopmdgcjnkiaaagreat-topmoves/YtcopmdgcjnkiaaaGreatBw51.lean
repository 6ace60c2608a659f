/-
  rotop.TopMoves: the walk.
-/
import Derived.Test.YtcopmdgcjnkiaaaGreatBw50
set_option linter.unusedVariables false
set_option linter.unusedSimpArgs false
namespace Go.Proofs.YtcopmdgcjnkiaaaGreat
open Go.RowKit

theorem one_step' {es : List Ent} {r0 : Sr} (h0 : r0.bs = []) {k : Nat} (hk : k < es.length) :
    cpQ es [playR r0 (es.take k)] 0 = 0 ∧ cpS es [playR r0 (es.take k)] 0 = [playR r0 (es.take (k + 1))] := by
  have hl : (playR r0 (es.take k)).bs.length = k := by rw [playR_len, h0, List.length_take]; simp; omega
  obtain ⟨h1, h2, h3⟩ := cp_go (log := es) (st := [playR r0 (es.take k)]) (i := 0) (x := es[k]) rfl (by rw [hl]; exact List.getElem?_eq_getElem hk)
  exact ⟨h1, by rw [show (0 : Int) = ((0 : Nat) : Int) from rfl, h3, playR_take _ _ _ hk]; rfl⟩
def TmI3 (w : World) (B g : Nat) (A : Option Addr) (ce : Nat) (xs : List Em) (ys : List Ent) (ct : List (List (List Ent))) (r0 : Sr) (l0 : List Pr) (i : Value) (wr : World) : Prop :=
  ∃ (k : Nat) (c : Cs), k ≤ xs.length ∧ i = .int .i64 k ∧ TmH w B g A ce xs ys ct [playR r0 (ys.take k)] c wr ∧ ∃ l : List Pr, Ok l ∧ valOf l = (playR r0 (ys.take k)).v ∧ sumI l = sumI l0
set_option maxHeartbeats 8000000 in
set_option maxRecDepth 100000 in
theorem tmv_walk (P T L D : Option Addr) (cp ct cl cd : Nat) (zs ts : List Int) (ps ds : List Cl) (i0 : Int) (w : World) (hP : IS w P zs) (hl : zs.length ≤ cp) (hc : cp ≤ 9223372036854775807) (hn : P = none → cp = 0)
    (hT : IS w T ts) (hlt : ts.length ≤ ct) (hct : ct ≤ 9223372036854775807) (hnt : T = none → ct = 0)
    (hL : LS w L ps) (hLl : ps.length ≤ cl) (hLc : cl ≤ 9223372036854775807) (hLn : L = none → cl = 0)
    (hD : LS w D ds) (hDl : ds.length ≤ cd) (hDc : cd ≤ 9223372036854775807) (hDn : D = none → cd = 0) :
    Calls Tryz.prog 6 #[.int .i64 i0, .slice P zs.length cp, .slice T ts.length ct, .slice L ps.length cl, .slice D ds.length cd] w fun e w' => e = .returned (.bool true) ∧ Below w.heap.size w w' := by
  go_enter Tryz.func6, Tryz.ntmps6
  go_wp2_with fail
  refine (tbegun_any _).mono ?_
  rintro e w1 ⟨rfl, hb1⟩
  have HF := hideP (tfed_pw P T L D cp ct cl cd zs ts ps ds i0 0 w1 (hP.below hb1) hl hc hn (hT.below hb1) hlt hct hnt (hL.below hb1) hLl hLc hLn (hD.below hb1) hDl hDc hDn)
  have HIS := hideP (fun (W : World) (hb : Below w.heap.size w W) => show IS W P zs ∧ IS W T ts from ⟨hP.below hb, hT.below hb⟩)
  have HLT := hideP (And.intro hlt (And.intro hct hnt))
  have hcpz : zs.length ≤ 9223372036854775807 := by omega
  clear hP hT hL hD hLl hLc hLn hDl hDc hDn hlt hct hnt hl hc hn
  go_wp2_with fail
  refine HF.out.mono ?_
  clear HF
  rintro e w2 ⟨c0, Ae, ce, xs, s0, rfl, hok, hxs, hew, _, _, hvs0, _, hgc, hb2, hpw⟩
  have b2 := hb1.trans (hb2.mono hb1.size)
  have hew2 := hew.mono hb1.size
  have hxl : xs.length ≤ 60 := by
    have h2 := log_tot c0.s.ct
    have h3 := hok.ms.gm.cnt
    have h4 := hok.ms.gm.most
    rw [← hxs, List.length_map] at h2
    unfold Ms.ct at h2
    omega
  obtain ⟨es, hes⟩ : ∃ es, xs.map entOf = es := ⟨_, rfl⟩
  have hel : es.length = xs.length := by rw [← hes, List.length_map]
  have HEG := hideP (show ∀ e ∈ es, chkE e = 0 ∧ dropE e = e ∧ ∀ o ∈ e.d, GoodO o from fun e he => by
    rw [← hes, hxs] at he
    exact ⟨hok.ms.log_chk he, hok.ms.log_drop he, hgc.log he⟩)
  have HES := hideP hes
  generalize c0.s.g = g0
  obtain ⟨i1, i2⟩ := HIS.out w2 b2
  clear hok hxs hgc hb1 hb2 hew hes
  go_wp2_with fail
  refine (kmap_is P cp zs _ i1 hcpz).mono ?_
  rintro e w3 ⟨A, ca, O, co, rfl, hmo, hb3⟩
  replace i2 := i2.below hb3
  have b3 := b2.trans (hb3.mono b2.size)
  replace hew2 := hew2.below hb3
  clear i1 b2
  go_wp2_with fail
  refine (pairs_is T ct ts _ i2 HLT.out.1 HLT.out.2.1 HLT.out.2.2).mono ?_
  rintro e w4 ⟨As, cs', s, rfl, hsv, hsm, hvs, hb4⟩
  replace i2 := i2.below hb4
  have b4 := b3.trans (hb4.mono b3.size)
  replace hew2 := hew2.below hb4
  have HN := hideP (cnew_ok 1 1 ⟨A, ca, mpC zs, O, co, mpO zs⟩ As cs' s w4 (by decide) (by decide) (by decide) (by decide) (hmo.below hb4).ms hsv.ps (mp_ok zs) hsm.ok)
  simp only at HN
  have hloA : ∀ q, blk Ae = some q → q < w4.heap.size := fun q hq => (World.ownsRow.lt hew2.row q (bo _ _ hq)).2
  have hloD : ∀ x ∈ xs, ∀ q, blk x.D = some q → q < w4.heap.size := fun x hx q hq => (World.ownsRow.lt (hew2.eo x hx).ops q (bo _ _ hq)).2
  have hB := b4.size
  clear hb4 hb3 hmo hsv b3
  go_wp2_with fail
  refine HN.out.mono ?_
  clear HN
  rintro e w5 ⟨c, rfl, hok, hct0, hst0, hb5⟩
  have b5 := b4.trans (hb5.mono b4.size)
  replace i2 := i2.below hb5
  have hTm : TmH w w4.heap.size c.s.g Ae ce xs es [[[]]] [⟨valOf s, mpC zs, mpO zs, []⟩] c w5 := ⟨hok, rfl, by rw [hct0]; rfl, by rw [hst0]; rfl, hew2.below hb5, hloA, hloD, hpw, HES.out, hB, b5⟩
  clear hok hct0 hst0 hew2 hloA hloD hpw hb5 b4
  go_wp2_with fail
  refine (pairs_is T ct ts _ i2 HLT.out.1 HLT.out.2.1 HLT.out.2.2).mono ?_
  rintro e w6 ⟨As6, cs6, s6, rfl, hsv6, hsm6, hvs6, hb6⟩
  have es6 : s6 = s := hsm6.ok.ext hsm.ok fun k => by rw [hvs6, hvs]
  subst es6
  have hTm6 := hTm.below hb6
  have hsl := hsm.ok.small
  have HTT := hideP (total_ok As6 cs6 s6 w6 hsv6 (by omega) hsm.ok)
  rw [sumW_eq hsm.ok] at HTT
  have HSO := hideP hsm.ok
  clear hTm hsv6 hsm6 hvs6 hvs hsm i2 hb6 b5 HIS HLT
  go_wp2_with fail
  refine HTT.out.mono ?_
  clear HTT
  rintro e w7 ⟨rfl, hb7⟩
  have hTm7 := hTm6.below hb7
  generalize hr0 : (⟨valOf s6, mpC zs, mpO zs, []⟩ : Sr) = r0 at hTm7
  have hr00 := hideP (show r0.bs = [] ∧ r0.v = valOf s6 by rw [← hr0]; exact ⟨rfl, rfl⟩)
  generalize hw4 : w4.heap.size = B at hTm7
  generalize c.s.g = g at hTm7 ⊢
  clear hTm6 hr0 hb7 hw4 hB
  have hI : TmI1 w B g Ae ce xs.length es r0 (.int .i64 0) w7 := ⟨0, xs, c, Nat.zero_le _, rfl, rfl, by simpa using hTm7⟩
  clear hTm7
  generalize xs.length = n at hI hel hxl ⊢
  go_wp2_with fail
  go_loopw [68] (TmI1 w B g Ae ce n es r0) (fun i _ => n - (intOf i).toNat)
  case atStart => exact hI
  case round =>
    clear hI
    obtain ⟨k, xs, c, hk, hxn, rfl, h⟩ := hrel
    by_cases hkn : k < n
    · have hke : k < es.length := by omega
      obtain ⟨e, he⟩ : ∃ e, es[k] = e := ⟨_, rfl⟩
      have hys : ((es.take k).map turnE ++ es.drop k)[k]? = some e := by
        rw [List.getElem?_append_right (by simp; omega)]
        simp [Nat.min_eq_left (Nat.le_of_lt hke), hke, he]
      obtain ⟨x, hx⟩ : ∃ x, xs[k]? = some x := ⟨_, List.getElem?_eq_getElem (by omega)⟩
      have hxe : entOf x = e := by
        have := hys
        rw [← h.eq, List.getElem?_map, hx] at this
        injection this
      have heg := HEG.out e (by rw [← he]; exact List.getElem_mem hke)
      obtain ⟨bb, oo, hA, hbl, p0, p1, p2, p3⟩ := h.ew.el.cells k x hx
      obtain ⟨D, cD, d, isM, m⟩ := x
      have hed : e.d = d := by rw [← hxe]; rfl
      have hem : e.isM = isM := by rw [← hxe]; rfl
      have hec : e.cs = m.cs := by rw [← hxe]; rfl
      have heo : e.os = m.os := by rw [← hxe]; rfl
      simp only at p0 p1 p2 p3
      have al := (Below.refl wr.heap.size wr).alloc (Nat.le_refl _) (.cells (emC ⟨D, cD, d, isM, m⟩) 41)
      have xb := Box.new wr 41 (emC ⟨D, cD, d, isM, m⟩)
      have hd8 : d.length ≤ 1000 := by
        cases isM
        · have := (chkD_zero.1 (show chkD d = 0 from by rw [← hxe] at heg; exact heg.1)).2.1; omega
        · have : ([] : List Opr) = d := by rw [← hxe] at heg; exact congrArg Ent.d heg.2.1
          rw [← this]; simp
      have hI2 : TmI2 w B g Ae ce n ((es.take k).map turnE ++ es.drop k) e [[(es.take k).map turnE]] r0 k wr.heap.size (emC ⟨D, cD, d, isM, m⟩) D cD m (.int .i64 0) (wr.alloc (.cells (emC ⟨D, cD, d, isM, m⟩) 41)) :=
        ⟨0, xs, c, Nat.zero_le _, hxn, rfl, by
          have e1 : ((es.take k).map turnE ++ es.drop k).set k ⟨e.isM, half e.d 0, e.cs, e.os⟩ = (es.take k).map turnE ++ es.drop k := by
            obtain ⟨q1, q2⟩ := List.getElem?_eq_some_iff.1 hys
            rw [half_zero, show (⟨e.isM, e.d, e.cs, e.os⟩ : Ent) = ((es.take k).map turnE ++ es.drop k)[k] from q2.symm, List.set_getElem_self]
          rw [e1]; exact h.below al, by rw [half_zero, hed, hem]; exact hx, xb⟩
      have g1 : (0 : Int) ≤ (k : Int) := by omega
      have g2 : (k : Int) < (n : Int) := by omega
      have HEE := hideP (And.intro hed (And.intro hem (And.intro hec heo)))
      have hkx : es[k]? = some e := by rw [← he]; exact List.getElem?_eq_getElem hke
      have HKX := hideP hkx
      have HEGG := hideP heg
      have x0 := xb.cell 0 (v := .slice D d.length cD) rfl
      subst hA
      unfold emC at hI2 x0
      clear h xb al hys hx hxe heg hed hem hec heo he hkx hke
      go_wp2_with fail
      generalize wr.heap.size = gx at hI2 x0 ⊢
      generalize wr.alloc _ = w8 at hI2 x0 ⊢
      go_wp2_with fail
      go_loopw [76] (TmI2 w B g (some ⟨bb, oo, none⟩) ce n ((es.take k).map turnE ++ es.drop k) e [[(es.take k).map turnE]] r0 k gx #[.slice D d.length cD, .bool isM, .slice m.A m.cs.length m.ca, .slice m.O m.os.length m.co] D cD m) (fun i _ => d.length - (intOf i).toNat)
      case atStart => exact hI2
      case round =>
        clear hI2 x0
        obtain ⟨j, xs, c, hj, hxn, rfl, h, hx, xb⟩ := hrel
        have x0 := xb.cell 0 (v := .slice D d.length cD) rfl
        have hdl : e.d.length = d.length := by rw [HEE.out.1]
        by_cases hjl : j < d.length
        · have hje : j < e.d.length := by omega
          obtain ⟨o, ho⟩ : ∃ o, e.d[j] = o := ⟨_, rfl⟩
          have hgo := HEGG.out.2.2 o (by rw [← ho]; exact List.getElem_mem hje)
          have hio : (half e.d j)[j]? = some o := by rw [half_get hje, ho]
          have hOS := (h.ew.eo _ (List.mem_of_getElem? hx)).ops.os
          obtain ⟨bD, oD, hDA, hblD, q0, q1, q2, q3⟩ := hOS j o hio
          have g3 : (0 : Int) ≤ (j : Int) := by omega
          have g4 : (j : Int) < (d.length : Int) := by omega
          by_cases hk45 : o.kind = 4 ∨ o.kind = 5
          · have hN := hideP (show TmI2 w B g (some ⟨bb, oo, none⟩) ce n ((es.take k).map turnE ++ es.drop k) e [[(es.take k).map turnE]] r0 k gx #[.slice D d.length cD, .bool isM, .slice m.A m.cs.length m.ca, .slice m.O m.os.length m.co] D cD m (.int .i64 ((j + 1 : Nat) : Int)) wr from by
              have hs := half_same hje (show turnO e.d[j] = e.d[j] by rw [ho]; unfold turnO; rw [if_pos hk45])
              exact ⟨j + 1, xs, c, hje, hxn, rfl, by rw [← hs]; exact h, by rw [← hs]; exact hx, xb⟩)
            simp only at hDA
            rw [hDA] at x0
            rcases hk45 with hk4 | hk4
            all_goals
              rw [hk4] at q0
              clear h hx xb hgo hio hOS hdl ho hk4
              go_wp2_with fail
              go_roundw
              case rel => exact hN.out
              case measure => simp [intOf]; omega
          · obtain ⟨gD, hDe, c0, f0, c1, f1, tg, hT, ff⟩ := h.turn hx hio (show turnO o = ⟨5, o.key, kq, o.n⟩ by unfold turnO; rw [if_neg hk45])
            simp only at hDA hDe
            rw [hDe] at hDA
            injection hDA with e1
            injection e1 with e1 e2 _
            subst e1; subst e2
            rw [Nat.zero_add] at q0
            have hN := hideP (show TmI2 w B g (some ⟨bb, oo, none⟩) ce n ((es.take k).map turnE ++ es.drop k) e [[(es.take k).map turnE]] r0 k gx #[.slice D d.length cD, .bool isM, .slice m.A m.cs.length m.ca, .slice m.O m.os.length m.co] D cD m (.int .i64 ((j + 1 : Nat) : Int)) ((wr.setCell ⟨gD, j * 4, none⟩ (.int .i64 5)).setCell ⟨gD, j * 4 + 2, none⟩ (.string kq)) from by
              have hs := half_set hje
              rw [ho] at hs
              refine ⟨j + 1, xs.set k (Em.setD ⟨D, cD, half e.d j, e.isM, m⟩ ((half e.d j).set j (turnO o))), c, hje, by rw [List.length_set]; exact hxn, rfl, ?_, ?_, ff.box xb (fun e3 => absurd ((show Ty wr gx 80 by have e4 : gx = gD := e3; rw [e4]; exact tg).inj xb.ty) (by decide))⟩
              · have := hT
                simp only at this
                rw [List.set_set, hs, ← HEE.out.2.2.1, ← HEE.out.2.2.2] at this
                rw [hs]
                exact this
              · rw [List.getElem?_set, if_pos rfl, if_pos (List.getElem?_eq_some_iff.1 hx).1]
                simp only [Em.setD]
                rw [hs])
            rw [hDe] at x0
            have hkk := hgo.kind
            have hk3 : o.kind = 1 ∨ o.kind = 2 ∨ o.kind = 3 := by omega
            have hkq : kq = ⟨#[113]⟩ := rfl
            rw [hkq] at hN
            clear h hx xb hgo hio hOS hdl ho hT ff tg hDe hkk hk45 hkq
            rcases hk3 with hk4 | hk4 | hk4
            all_goals
              rw [hk4] at q0 c0
              clear hk4
              go_wp2_with fail
              go_roundw
              case rel => exact hN.out
              case measure => simp [intOf]; omega
        · have hje : j = e.d.length := by omega
          rw [hje, half_all] at h hx
          have hes := h.ew.el.es _ (List.mem_of_getElem? hx)
          have hB := h.below (Below.refl _ wr).drew
          have hte : entOf ⟨D, cD, e.d.map turnO, e.isM, m⟩ = turnE e := by
            unfold entOf turnE
            simp only
            rw [HEE.out.2.2.1, HEE.out.2.2.2]
          have hkl : k < es.length := by omega
          obtain ⟨a1, a2⟩ := add_one ((es.take k).map turnE) (turnE e) (turnE_chk HEGG.out.1 HEGG.out.2.2) (turnE_drop HEGG.out.2.1) (by rw [List.length_map, List.length_take]; omega)
          have HAD := cadd_any c _ 0 ⟨D, cD, e.d.map turnO, e.isM, m⟩ _ hB.ok (hes.below (Below.refl _ wr).drew)
          rw [hB.ct, hte, a1, a2, hB.gg] at HAD
          unfold emV emC at HAD
          simp only [List.length_map] at HAD
          rw [HEE.out.2.1, hdl] at HAD
          have HADD := hideP HAD
          have hek : es[k] = e := by have := HKX.out; obtain ⟨_, h2⟩ := List.getElem?_eq_some_iff.1 this; exact h2
          have HNX := hideP (fun (c' : Cs) (w' : World) (TT : c.To wr.drew B c' w' [[(es.take k).map turnE ++ [turnE e]]] c.st) => show TmI1 w B g (some ⟨bb, oo, none⟩) ce n es r0 (.int .i64 ((k + 1 : Nat) : Int)) w' from by
            have h2 := hB.step TT
            refine ⟨k + 1, xs, c', by omega, hxn, rfl, ?_⟩
            have e1 : (es.take (k + 1)).map turnE = (es.take k).map turnE ++ [turnE e] := by rw [List.take_succ_eq_append_getElem hkl, hek]; simp
            have e2 : ((es.take k).map turnE ++ es.drop k).set k ⟨e.isM, e.d.map turnO, e.cs, e.os⟩ = (es.take (k + 1)).map turnE ++ es.drop (k + 1) := by
              rw [List.set_append_right _ _ (by simp; omega), show k - ((es.take k).map turnE).length = 0 by simp; omega, List.drop_eq_getElem_cons hkl, List.set_cons_zero, e1, List.append_assoc]
              rfl
            rw [e2, h.st] at h2
            rw [e1]
            rw [e1] at h2
            exact h2)
          have x1 := xb.cell 1 (v := .bool isM) rfl
          have x2 := xb.cell 2 (v := .slice m.A m.cs.length m.ca) rfl
          have x3 := xb.cell 3 (v := .slice m.O m.os.length m.co) rfl
          clear h hx xb hes hB hte a1 a2 HAD hdl hje hek hkl
          go_wp2_with fail
          go_region_law (
            (go_simp
             go_at_call 13
             refine HADD.out.mono ?_
             rintro e w6 ⟨c', rfl, TT⟩
             have hN := HNX.out c' w6 TT
             clear TT))
          all_goals
            go_wp2_with fail
            go_roundw
            case rel => exact hN
            case measure => simp [intOf]; omega
    · have hkn' : k = n := by omega
      have e0 : (es.take k).map turnE ++ es.drop k = es.map turnE := by rw [List.take_of_length_le (by omega), List.drop_of_length_le (by omega), List.append_nil]
      have e1 : (es.take k).map turnE = es.map turnE := by rw [List.take_of_length_le (by omega)]
      rw [e0, e1] at h
      obtain ⟨ys, hys⟩ : ∃ ys, es.map turnE = ys := ⟨_, rfl⟩
      rw [hys] at h
      have hyl : ys.length = n := by rw [← hys, List.length_map, hel]
      have HYG := hideP (show ∀ y ∈ ys, ∀ o ∈ y.d, chkO o = 0 ∧ (o.kind = 4 ∨ o.kind = 5) from fun y hy o ho => by
        rw [← hys] at hy
        obtain ⟨e, he, rfl⟩ := List.mem_map.1 hy
        obtain ⟨a, ha, rfl⟩ := List.mem_map.1 (show o ∈ e.d.map turnO from ho)
        exact ⟨turnO_good ((HEG.out e he).2.2 a ha), turnO_kind a⟩)
      have HCL := hideP (cclose_any c _ 0 wr h.ok)
      obtain ⟨f1, f2, f3⟩ := close_one ys
      rw [h.ct, f1, f2, f3, h.gg] at HCL
      have HNX := hideP (fun (c' : Cs) (w' : World) (TT : c.To wr B c' w' [[ys, []]] c.st) => show TmI3 w B g Ae ce xs ys [[ys, []]] r0 s6 (.int .i64 0) w' from by
        have := h.step TT
        rw [h.st] at this
        exact ⟨0, c', Nat.zero_le _, rfl, by rw [List.take_zero, playR_nil]; exact this, s6, HSO.out, by rw [List.take_zero, playR_nil]; exact hr00.out.2.symm, rfl⟩)
      clear h f1 f2 f3 hys e0 e1 hkn'
      go_wp2_with fail
      refine HCL.out.mono ?_
      rintro e w8 ⟨c8, rfl, TT⟩
      have hI3 := HNX.out c8 w8 TT
      clear TT HCL HNX
      rw [← hxn] at hyl hel hxl ⊢
      go_wp2_with fail
      go_loopw [121] (TmI3 w B g Ae ce xs ys [[ys, []]] r0 s6) (fun i _ => xs.length - (intOf i).toNat)
      case atStart => exact hI3
      case round =>
        clear hI3
        obtain ⟨j, c, hj, rfl, h, l, hol, hvl, hsum⟩ := hrel
        by_cases hjl : j < xs.length
        · have hjy : j < ys.length := by omega
          obtain ⟨q1, q3⟩ := one_step' (es := ys) hr00.out.1 (k := j) hjy
          have HS := cstep_any c _ 0 wr h.ok
          rw [h.ct, log_one, h.st, q1, q3, h.gg] at HS
          have HSS := hideP HS
          have HN := hideP (fun (c' : Cs) (w' : World) (TT : c.To wr B c' w' [[ys, []]] [playR r0 (ys.take (j + 1))]) => show TmH w B g Ae ce xs ys [[ys, []]] [playR r0 (ys.take (j + 1))] c' w' ∧ ∃ r, c'.rs[0]? = some r ∧ valOf r.l = (playR r0 (ys.take (j + 1))).v ∧ sumI r.l = sumI s6 from by
            have h2 := h.step TT
            obtain ⟨r, hr, hrs⟩ := Cs.at_st (c := c') (i := 0) (a := playR r0 (ys.take (j + 1))) (by rw [TT.st]; rfl)
            have hrv : valOf r.l = (playR r0 (ys.take (j + 1))).v := congrArg Sr.v hrs
            refine ⟨h2, r, hr, hrv, ?_⟩
            rw [← hsum]
            refine turn_total (x := ys[j]) (r := playR r0 (ys.take j)) hol (h2.ok.ro 0 r hr).pb.ok (HYG.out _ (List.getElem_mem hjy)) hvl.symm ?_
            rw [hrv, playR_take _ _ _ hjy])
          have g1 : (j : Int) < (xs.length : Int) := by omega
          generalize cpB ys [playR r0 (ys.take j)] 0 = bb at HSS
          clear h q1 q3 HS hol hvl hsum
          go_wp2_with fail
          refine HSS.out.mono ?_
          clear HSS
          rintro e w9 ⟨c9, rfl, TT⟩
          obtain ⟨h9, r, hr, hrv, hrs⟩ := HN.out c9 w9 TT
          have hokr := (h9.ok.ro 0 r hr).pb.ok
          have HA := hideP (call_any c9 _ 0 r w9 h9.ok hr)
          rw [h9.gg] at HA
          have hsl3 := hokr.small
          clear TT HN hr
          go_wp2_with fail
          refine HA.out.mono ?_
          clear HA
          rintro e w10 ⟨A10, c10, rfl, o10, hb10⟩
          have h10 := h9.below hb10
          have HTT := hideP (total_ok A10 c10 r.l w10 o10.sv (by omega) hokr)
          rw [sumW_eq hokr, hrs] at HTT
          clear h9 hb10 o10
          go_wp2_with fail
          refine HTT.out.mono ?_
          clear HTT
          rintro e w11 ⟨rfl, hb11⟩
          have h11 := h10.below hb11
          clear h10 hb11
          go_wp2_with fail
          go_roundw
          case rel => exact ⟨j + 1, c9, by omega, by go_num, h11, r.l, hokr, hrv, hrs⟩
          case measure => simp [intOf]; omega
        · have hbe := h.be
          go_wp2_with fail
          go_ret
          exact ⟨rfl, hbe⟩
end Go.Proofs.YtcopmdgcjnkiaaaGreat
