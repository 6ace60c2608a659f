/-
  rotop.TopPlan: the walk.
  Slices of ints, and slices of slices of ints, that came in, opened.
-/
import Derived.Test.YtefdipjhjgmokaaGreatBv47
import Derived.Test.YtefdipjhjgmokaaGreatBv52
import Derived.Test.YtefdipjhjgmokaaGreatBv54
import Derived.Deep.QuietTactic
import Derived.BigQuiet
import Derived.Test.YtefdipjhjgmokaaGreatBv36
import Derived.ProofKit
import Derived.OpenShut
import Derived.Deep.Matrix
set_option linter.unusedVariables false
set_option linter.unusedSimpArgs false
namespace Go.Proofs.YtefdipjhjgmokaaGreat
open Go.RowKit Go.WideMaps Go.Maps

def TpI (w : World) (g : Nat) (ct : List (List (List Ent))) (A : Option Addr) (ce : Nat) (xs : List Em) (es : List Ent) (r0 : Sr) (v i : Value) (wr : World) : Prop :=
  ∃ (k j : Nat) (Ad : Option Addr) (cd : Nat) (c : Cs), k ≤ xs.length ∧ k ≤ j ∧ j ≤ xs.length ∧ i = .int .i64 k ∧ v = .slice Ad (dsX (xs.take k)).length cd ∧ TpH w g ct A ce xs Ad cd (dsX (xs.take k)) [playR r0 (es.take j)] c wr
theorem ddE_le {es : List Ent} (k : Nat) : (ddE (es.take k)).length ≤ (ddE es).length := by
  have := congrArg List.length (ddE_app (es.take k) (es.drop k))
  rw [List.take_append_drop, List.length_append] at this
  omega
/-- what Step answers, whether there is an entry or not -/
theorem tp_step {es : List Ent} {r0 : Sr} (h0 : r0.bs = []) {k j : Nat} (hk : k < es.length) (hkj : k ≤ j) (hj : j ≤ es.length) :
    ∃ (q : Int) (j' : Nat), (q = 0 ∨ q = 6) ∧ k + 1 ≤ j' ∧ j' ≤ es.length ∧ cpQ es [playR r0 (es.take j)] 0 = q ∧ cpS es [playR r0 (es.take j)] 0 = [playR r0 (es.take j')] := by
  have hl : (playR r0 (es.take j)).bs.length = j := by rw [playR_len, h0, List.length_take]; simp; omega
  by_cases hjl : j < es.length
  · obtain ⟨h1, _, h3⟩ := cp_go (log := es) (st := [playR r0 (es.take j)]) (i := 0) (x := es[j]) rfl (by rw [hl]; exact List.getElem?_eq_getElem hjl)
    exact ⟨0, j + 1, .inl rfl, by omega, hjl, h1, by rw [show (0 : Int) = ((0 : Nat) : Int) from rfl, h3, playR_take _ _ _ hjl]; rfl⟩
  · obtain ⟨h1, _, h3⟩ := cp_wait (log := es) (st := [playR r0 (es.take j)]) (i := 0) (r := playR r0 (es.take j)) rfl (by rw [hl]; omega)
    exact ⟨6, j, .inr rfl, by omega, hj, h1, h3⟩
def TpI2 (w : World) (es : List Ent) (kv i : Value) (wr : World) : Prop :=
  ∃ m : Nat, m ≤ es.length ∧ i = .int .i64 m ∧ kv = .int .i64 (ddE (es.take m)).length ∧ Below w.heap.size w wr
set_option maxHeartbeats 8000000 in
set_option maxRecDepth 100000 in
theorem tpl_walk (P T L D K : Option Addr) (cp ct cl cd ck : Nat) (zs ts : List Int) (ps ds : List Cl) (ks : List Int) (i0 : Int) (w : World) (hP : IS w P zs) (hl : zs.length ≤ cp) (hc : cp ≤ 9223372036854775807) (hn : P = none → cp = 0)
    (hT : IS w T ts) (hlt : ts.length ≤ ct) (hct : ct ≤ 9223372036854775807) (hnt : T = none → ct = 0)
    (hL : LS w L ps) (hLl : ps.length ≤ cl) (hLc : cl ≤ 9223372036854775807) (hLn : L = none → cl = 0)
    (hD : LS w D ds) (hDl : ds.length ≤ cd) (hDc : cd ≤ 9223372036854775807) (hDn : D = none → cd = 0)
    (hK : IS w K ks) (hKl : ks.length ≤ ck) (hKc : ck ≤ 9223372036854775807) (hKn : K = none → ck = 0) :
    Calls Tryz.prog 3 #[.int .i64 i0, .slice P zs.length cp, .slice T ts.length ct, .slice L ps.length cl, .slice D ds.length cd, .slice K ks.length ck] w fun e w' => e = .returned (.bool true) ∧ Below w.heap.size w w' := by
  go_enter Tryz.func3, Tryz.ntmps3
  go_wp2_with fail
  refine (tbegun_any _).mono ?_
  rintro e w1 ⟨rfl, hb1⟩
  have HF := hideP (tfed_any P T L D cp ct cl cd zs ts ps ds i0 0 w1 (hP.below hb1) hl hc hn (hT.below hb1) hlt hct hnt (hL.below hb1) hLl hLc hLn (hD.below hb1) hDl hDc hDn)
  have HIS := hideP (fun (W : World) (hb : Below w.heap.size w W) => show IS W T ts ∧ IS W K ks from ⟨hT.below hb, hK.below hb⟩)
  have HLT := hideP (And.intro hlt (And.intro hct hnt))
  have hkz : ks.length ≤ 9223372036854775807 := by omega
  clear hP hT hL hD hK hLl hLc hLn hDl hDc hDn hlt hct hnt hl hc hn hKl hKc hKn
  go_wp2_with fail
  refine HF.out.mono ?_
  clear HF
  rintro e w2 ⟨c0, Ae, ce, xs, s0, rfl, hok, hxs, hew, hap, hcl, hvs0, hpl, hgc, hb2⟩
  have b2 := hb1.trans (hb2.mono hb1.size)
  have hxl : xs.length ≤ 60 := by
    have h2 := log_tot c0.s.ct
    have h3 := hok.ms.gm.cnt
    have h4 := hok.ms.gm.most
    rw [← hxs, List.length_map] at h2
    unfold Ms.ct at h2
    omega
  obtain ⟨es, hes⟩ : ∃ es, xs.map entOf = es := ⟨_, rfl⟩
  have hel : es.length = xs.length := by rw [← hes, List.length_map]
  have HCK := hideP (show ∀ e ∈ es, chkE e = 0 from fun e he => by
    rw [← hes, hxs] at he
    exact hok.ms.log_chk he)
  have HES := hideP hes
  obtain ⟨r0, hr0⟩ : ∃ r0, (⟨valOf s0, mpC zs, mpO zs, []⟩ : Sr) = r0 := ⟨_, rfl⟩
  have HR0 := hideP (show r0.bs = [] ∧ r0.v = valOf s0 by rw [← hr0]; exact ⟨rfl, rfl⟩)
  rw [hr0] at hpl
  obtain ⟨j0, hj0, hst⟩ : ∃ j0, j0 ≤ xs.length ∧ c0.st = [playR r0 (es.take j0)] := by
    obtain ⟨r, hr⟩ : ∃ r, c0.st = [r] := List.length_eq_one_iff.1 hcl
    obtain ⟨h1, h2⟩ := hpl r (by rw [hr]; simp)
    rw [← hxs, hes] at h1 h2
    exact ⟨r.bs.length, by rw [← hel]; exact h2, by rw [hr, ← h1]⟩
  have hlog : logM c0.s.ct = es := by rw [← hxs, hes]
  obtain ⟨ct0, hct0⟩ : ∃ x, c0.s.ct = x := ⟨_, rfl⟩
  rw [hct0] at hlog
  have HLG := hideP hlog
  have hTp : TpH w1 c0.s.g ct0 Ae ce xs none 0 [] [playR r0 (es.take j0)] c0 w2 := ⟨hok, rfl, hct0, hst, hew, hap, OR.nil _ _ _, hb2⟩
  have hI : TpI w1 c0.s.g ct0 Ae ce xs es r0 (.slice none 0 0) (.int .i64 0) w2 := ⟨0, j0, none, 0, c0, Nat.zero_le _, Nat.zero_le _, hj0, rfl, rfl, hTp⟩
  generalize c0.s.g = g at hI ⊢
  clear hTp hok hxs hew hap hcl hpl hgc hes hr0 hst hlog hct0 hb2 b2
  go_wp2_with fail
  go_loopw [16, 50] (TpI w1 g ct0 Ae ce xs es r0) (fun _ i _ => xs.length - (intOf i).toNat)
  case atStart => exact hI
  case round =>
    clear hI
    obtain ⟨k, j, Ad, cd, c, hk, hkj, hj, rfl, rfl, h⟩ := hrel
    by_cases hkn : k < xs.length
    · obtain ⟨bb, oo, hA, hbl, p0, p1, p2, p3⟩ := h.ew.el.cells k xs[k] (List.getElem?_eq_getElem hkn)
      have HDX := hideP (dsX_take (xs := xs) (i := k) (x := xs[k]) (List.getElem?_eq_getElem hkn))
      obtain ⟨q, j', hq, hkj', hj', hQ, hS⟩ := tp_step (es := es) HR0.out.1 (k := k) (j := j) (by omega) hkj (by omega)
      have hdl : (dsX (xs.take k)).length ≤ 1000 := by
        rw [dsX_len]
        have := ddE_len ((xs.take k).map entOf)
        rw [List.length_map, List.length_take] at this
        omega
      subst hA
      generalize xs[k] = x at p0 p1 p2 p3 HDX
      obtain ⟨D, cD, d, isM, m⟩ := x
      simp only at p0 p1 p2 p3 HDX
      have al := (Below.refl wr.heap.size wr).alloc (Nat.le_refl _) (.cells (emC ⟨D, cD, d, isM, m⟩) 37)
      have xb := Box.new wr 37 (emC ⟨D, cD, d, isM, m⟩)
      have hnF : ¬ c.F wr.heap.size := fun hF => by have := (h.ok.lo hF).2; omega
      have hA := h.below al
      have HS := cstep_any c _ 0 _ hA.ok
      rw [hA.ct, HLG.out, hA.st, hQ, hS, hA.gg] at HS
      have HSS := hideP HS
      have HN := hideP (fun (c' : Cs) (w' : World) (TT : c.To (wr.alloc (.cells (emC ⟨D, cD, d, isM, m⟩) 37)) w1.heap.size c' w' ct0 [playR r0 (es.take j')]) => show TpH w1 g ct0 (some ⟨bb, oo, none⟩) ce xs Ad cd (dsX (xs.take k)) [playR r0 (es.take j')] c' w' ∧ Box w' wr.heap.size 37 (emC ⟨D, cD, d, isM, m⟩) from ⟨hA.step TT, TT.fr.box xb hnF⟩)
      generalize cpB es [playR r0 (es.take j)] 0 = bq at HSS
      have g1 : (0 : Int) ≤ (k : Int) := by omega
      have g2 : (k : Int) < (xs.length : Int) := by omega
      unfold emC at HSS HN
      clear h hA xb al hnF HS hQ hS hkj hj
      go_wp2_with fail
      generalize wr.alloc _ = w8 at HSS HN ⊢
      generalize wr.heap.size = gx at HN ⊢
      refine HSS.out.mono ?_
      clear HSS
      rintro e w9 ⟨c', rfl, TT⟩
      obtain ⟨h9, xb⟩ := HN.out c' w9 TT
      have x0 := xb.cell 0 (v := .slice D d.length cD) rfl
      have x1 := xb.cell 1 (v := .bool isM) rfl
      clear TT HN xb
      cases isM
      · obtain ⟨Ad', cd', w10, hrun, hN⟩ := h9.grow hdl ⟨D, cD, d⟩ 29
        have hX : dsX (xs.take k) ++ [⟨D, cD, d⟩] = dsX (xs.take (k + 1)) := by rw [HDX.out, if_neg (by decide)]
        rw [hX] at hrun hN
        simp only [dlV] at hrun
        have HR := hideP hrun
        clear hrun hX h9 HDX
        rcases hq with rfl | rfl
        all_goals
          go_wp2_with (at_builtin; refine Lib.wpList_append_run _ rfl _ _ _ _ rfl _ _ rfl rfl _ _ HR.out ?_)
          go_roundw
          case rel => exact ⟨k + 1, j', Ad', cd', c', by omega, hkj', by omega, by go_num, rfl, hN⟩
          case measure => simp [intOf]; omega
      · have hX : dsX (xs.take k) = dsX (xs.take (k + 1)) := by rw [HDX.out, if_pos rfl]
        rw [hX] at h9 ⊢
        clear HDX hX x0
        rcases hq with rfl | rfl
        all_goals
          go_wp2_with fail
          go_roundw
          case rel => exact ⟨k + 1, j', Ad, cd, c', by omega, hkj', by omega, by go_num, rfl, h9⟩
          case measure => simp [intOf]; omega
    · have hkl : k = xs.length := by omega
      have e1 : xs.take k = xs := List.take_of_length_le (by omega)
      have e2 : es.take j = es := List.take_of_length_le (by omega)
      rw [e1, e2] at h
      rw [e1]
      clear e1 e2 hkj hj
      obtain ⟨r, hr, hrs⟩ := Cs.at_st (c := c) (i := 0) (a := playR r0 es) (by rw [h.st]; rfl)
      have hokr := (h.ok.ro 0 r hr).pb.ok
      have hrv : valOf r.l = (playR r0 es).v := congrArg Sr.v hrs
      have hrb : r.bs = (playR r0 es).bs := congrArg Sr.bs hrs
      have hrl : r.bs.length = xs.length := by rw [hrb, playR_len, HR0.out.1, hel]; simp
      have HA := hideP (call_any c _ 0 r wr h.ok hr)
      have HD := hideP (fun (W : World) (hb : Below wr.heap.size wr W) => cdone_any c _ 0 r W (h.below hb).ok hr)
      rw [h.gg] at HA HD
      rw [hrl] at HD
      have hdl : (dsX xs).length ≤ 60 := by
        rw [dsX_len]
        have := ddE_len (xs.map entOf)
        rw [List.length_map] at this
        omega
      have hdd : ddOf (dsX xs) = ddE es := by rw [dsX_dd, HES.out]
      have hcp : chkP (ddOf (dsX xs)) = 0 := by rw [hdd]; exact chkP_log (by omega) HCK.out
      have HV := hideP (show valOf r.l = (serV (valOf s0) (ddOf (dsX xs))).1 by rw [hrv, play_val, HR0.out.2, hdd])
      have HT := hideP (show ∀ (i : Nat) (x : Ent), es[i]? = some x → x.isM = false → r.bs[i]? = (serV (valOf s0) (ddOf (dsX xs))).2[(ddE (es.take i)).length]? from fun i x hi hx => by
        have := play_told es r0 i x hi hx
        rw [HR0.out.1, List.length_nil, Nat.zero_add, HR0.out.2] at this
        rw [hrb, this, hdd])
      have HCP := hideP hcp
      have HDD := hideP hdd
      have hbe := hb1.trans (h.be.mono hb1.size)
      have hDS := h.ds_
      have hEL := h.ew.el
      have HBW := hideP hbe
      clear hr hrs hrv hrb h hcp hdd hb1
      generalize hbs : r.bs = bs at HT HD hrl
      generalize hrl2 : r.l = l0 at HA HV hokr
      clear hbs hrl2
      go_wp2_with fail
      refine HA.out.mono ?_
      clear HA
      rintro e w3 ⟨A3, c3, rfl, o3, hb3⟩
      have q3 := o3.sv
      have b3 := HBW.out.trans (hb3.mono HBW.out.size)
      obtain ⟨i1, _⟩ := HIS.out w3 b3
      clear o3
      go_wp2_with fail
      refine (pairs_is T ct ts _ i1 HLT.out.1 HLT.out.2.1 HLT.out.2.2).mono ?_
      rintro e w4 ⟨As, cs', s, rfl, hsv, hsm, hvs, hb4⟩
      have hvv : valOf s0 = valOf s := funext fun k => by rw [hvs, hvs0]
      rw [hvv] at HV HT
      have b4 := b3.trans (hb4.mono b3.size)
      obtain ⟨_, i2⟩ := HIS.out w4 b4
      have hb34 := hb3.trans (hb4.mono hb3.size)
      have hDS4 := hDS.below hb34
      have q4 := q3.below hb4
      have HPL := hideP (play_ok As Ad K cs' cd ck s (dsX xs) ks w4 hsv hsm.ok hDS4 HCP.out i2 hkz)
      have hsr := play_serial (dd := ddOf (dsX xs)) (ps := ks) (chkP_zero.1 HCP.out).2 (valOf s)
      clear hvv hvs hsv hsm i1 i2 q3 hb3 hb4 hDS b3 hvs0 HIS HLT hkz
      go_wp2_with fail
      refine HPL.out.mono ?_
      clear HPL
      rintro e w5 ⟨A5, c5, l5, gx, A6, c6, he, hov5, hok5, hv5, hex5, hor5, hb5⟩
      rw [ddOf_len] at he
      subst he
      rw [hsr] at hv5 hex5
      have b5 := b4.trans (hb5.mono b4.size)
      have hb35 := hb34.trans (hb5.mono hb34.size)
      have hDS5 := hDS4.below hb5
      have q5 := q4.below hb5
      obtain ⟨z1, z2, z3, _⟩ := hor5.caps
      rw [nV_length, playN_len, ddOf_len] at z1
      have HO := hideP (porder_any Ad A6 cd c6 (dsX xs) (zI (playN (ddOf (dsX xs)) ks (ddOf (dsX xs)).length)) w5 hDS5 HCP.out hor5.vs.is_ (by rw [zI_len, playN_len, ddOf_len]; exact z1) (by unfold maxLen at z2; omega) z3)
      rw [show orV (ddOf (dsX xs)) (zI (playN (ddOf (dsX xs)) ks (ddOf (dsX xs)).length)) = (true, 0) from (play_kept (ddOf (dsX xs)) ks).order, zI_len, playN_len, ddOf_len] at HO
      have hl5 : l5 = l0 := hok5.ext hokr fun k => by rw [hv5, HV.out]
      subst hl5
      clear hor5 hDS4 hDS5 q4 z1 z2 z3 hsr b4 hb34 hv5 HV
      go_wp2_with fail
      refine HO.out.mono ?_
      clear HO
      rintro e w6 ⟨rfl, hb6⟩
      have b6 := b5.trans (hb6.mono b5.size)
      have hb36 := hb35.trans (hb6.mono hb35.size)
      have HDD6 := hideP (HD.out w6 hb36)
      have q6 := q5.below hb6
      have x6 := hex5.vs.below hb6
      have y6 := hov5.sv.below hb6
      clear hb35 hb5 hb6 q5 hex5 hov5 b5 HD
      go_wp2_with fail
      refine HDD6.out.mono ?_
      clear HDD6
      rintro e w7 ⟨A7, c7, rfl, hor7, hb7⟩
      have b7 := b6.trans (hb7.mono b6.size)
      have hb37 := hb36.trans (hb7.mono hb36.size)
      have x7 := x6.below hb7
      have hsl := hok5.small
      have HE := hideP (equal_same A3 A5 c3 c5 l5 w7 (q6.below hb7).ps (y6.below hb7).ps (by omega))
      have t7 := hor7.vs
      have dl : (((xs.length : Nat) : Int) != ((xs.length : Nat) : Int)) = false := by simp
      clear hb36 q6 x6 y6 hb7 hor7 b6 hok5 hokr hsl
      go_wp2_with fail
      refine HE.out.mono ?_
      clear HE
      rintro e w8 ⟨rfl, hb8⟩
      have b8 := b7.trans (hb8.mono b7.size)
      have hEL8 := hEL.below (hb37.trans (hb8.mono hb37.size))
      have x8 := x7.below hb8
      have t8 := t7.below hb8
      have HLT := hideP (show (serV (valOf s) (ddOf (dsX xs))).2.length = (ddE es).length by rw [serV_len, HDD.out])
      clear hb8 hb37 hEL x7 t7 b7 dl
      generalize (serV (valOf s) (ddOf (dsX xs))).2 = us at x8 HT HLT
      have HB8 := hideP b8
      have HLD := hideP (show (dsX xs).length = (ddE es).length by rw [dsX_len, HES.out])
      generalize (dsX xs).length = nd at HLD hdl ⊢
      clear b8
      go_wp2_with fail
      go_loopw [31, 133] (TpI2 w8 es) (fun _ i _ => xs.length - (intOf i).toNat)
      case atStart => exact ⟨0, Nat.zero_le _, rfl, rfl, Below.refl _ _⟩
      case round =>
        obtain ⟨m, hm, rfl, rfl, hb⟩ := hrel
        by_cases hml : m < xs.length
        · obtain ⟨bb, oo, hA, hbl, p0, p1, p2, p3⟩ := (hEL8.below hb).cells m xs[m] (List.getElem?_eq_getElem hml)
          have hes' : es[m]? = some (entOf xs[m]) := by rw [← HES.out, List.getElem?_map, List.getElem?_eq_getElem hml]; rfl
          have HTK := hideP (ddE_take hes')
          have HTM := hideP (fun h => HT.out m _ hes' h)
          have al := (Below.refl wr.heap.size wr).alloc (Nat.le_refl _) (.cells (emC xs[m]) 37)
          have xb := Box.new wr 37 (emC xs[m])
          have hb2 := hb.trans (al.mono hb.size)
          have hle := ddE_le (es := es) (m + 1)
          generalize xs[m] = x at p0 p1 p2 p3 HTK HTM xb hb2
          obtain ⟨D, cD, d, isM, mm⟩ := x
          subst hA
          simp only at p0 p1 p2 p3
          have x1 := xb.cell 1 (v := .bool isM) rfl
          have g1 : (0 : Int) ≤ (m : Int) := by omega
          have g2 : (m : Int) < (xs.length : Int) := by omega
          unfold emC at x1 hb2
          clear al xb hes' hb
          cases isM
          · have hk1 : (ddE (es.take (m + 1))).length = (ddE (es.take m)).length + 1 := by rw [HTK.out]; simp [entOf]
            have hbm := HTM.out rfl
            obtain ⟨kk, hkk⟩ : ∃ kk, (ddE (es.take m)).length = kk := ⟨_, rfl⟩
            rw [hkk] at hk1 hbm ⊢
            have hkn : kk < us.length := by rw [HLT.out]; omega
            rw [List.getElem?_eq_getElem hkn] at hbm
            obtain ⟨b6, o6, rfl, hbl6, q6⟩ := (t8.below hb2) m (.bool (us[kk]'hkn)) (by rw [List.getElem?_map, hbm]; rfl)
            obtain ⟨b9, o9, e9, hbl9, q9⟩ := (x8.below hb2) kk (.bool (us[kk]'hkn)) (by simp [hkn])
            injection e9 with e9
            injection e9 with e1 e2 _
            subst e1; subst e2
            rw [Nat.zero_add] at q9
            have g3 : (0 : Int) ≤ (kk : Int) := by omega
            have g4 : (kk : Int) < (nd : Int) := by have := HLD.out; have := HLT.out; omega
            have HK1 := hideP hk1
            generalize us[kk]'hkn = bv at q6 q9
            have db : (bv != bv) = false := by simp
            clear hk1 hkk hkn hbm hle HTK HTM
            go_wp2_with fail
            go_quiet (fail)
            go_wp2_with fail
            go_roundw
            case rel => exact ⟨m + 1, by omega, by go_num, by rw [HK1.out]; go_num, ⟨hb2.os, hb2.tape, hb2.output, hb2.size, hb2.block⟩⟩
            case measure => simp [intOf]; omega
          · have hk1 : (ddE (es.take (m + 1))).length = (ddE (es.take m)).length := by rw [HTK.out]; simp [entOf]
            rw [← hk1]
            have HK1 := hideP hk1
            clear hk1 HTK HTM hle
            go_wp2_with fail
            go_roundw
            case rel => exact ⟨m + 1, by omega, by go_num, rfl, hb2⟩
            case measure => simp [intOf]; omega
        · have b9 := HB8.out.trans (hb.mono HB8.out.size)
          go_wp2_with fail
          go_ret
          exact ⟨rfl, b9⟩
end Go.Proofs.YtefdipjhjgmokaaGreat

set_option linter.unusedVariables false
set_option linter.unusedSimpArgs false
namespace Go.Proofs.YtefdipjhjgmokaaGreat
open Go.RowKit Go.ChangeShapes Go.WideShapes Go.Deep

theorem lit_of_cell {W : World} {a : Addr} {v : Value} (h : W.cell? (a.add 0) = some v) : ∃ b o, a = ⟨b, o, none⟩ := by
  obtain ⟨b, o, sp⟩ := a
  have hsp : sp = none := by simpa [Addr.add] using World.cell?_spot h
  subst hsp
  exact ⟨b, o, rfl⟩
theorem open_is {H : Type} {enc : TypeId × Value → H} {W : World} {A : Option Addr} {len cap : Nat} {d : DataW H} {p : List MemPlace} (h : DataW.Trod enc Tryz.prog W 0 (fun _ => true) true 22 (.slice A len cap) d p) :
    ∃ ys : List Int, len = ys.length ∧ IS W A ys ∧ ys.length ≤ cap ∧ cap ≤ 9223372036854775807 ∧ (A = none → cap = 0) := by
  obtain ⟨fuel, hf⟩ := h
  rcases open_ints Tryz.underlying22 Tryz.underlying3 (by kernel_rfl) hf with ⟨hcs, _⟩ | ⟨x, l, c, zs, hcs, _, hl, hm, hz, _, hcell, hwz⟩
  · simp [Value.cells] at hcs
    obtain ⟨rfl, rfl, rfl⟩ := hcs
    exact ⟨[], rfl, fun i z hz => by simp at hz, by simp, by simp, fun _ => rfl⟩
  · simp [Value.cells] at hcs
    obtain ⟨rfl, rfl, rfl⟩ := hcs
    simp only [if_true] at hz
    refine ⟨zs.take len, by simp; omega, fun i z hi => ?_, by simp; omega, by unfold maxLen at hm; exact hm, fun e => by cases e⟩
    rw [List.getElem?_take] at hi
    split at hi
    · have hlt : i < zs.length := by omega
      have hc := hcell i hlt
      obtain ⟨b, o, rfl⟩ := lit_of_cell (hcell 0 (by omega))
      rw [Addr.add_lit] at hc
      refine ⟨b, o, rfl, cell_lt hc, ?_⟩
      rw [hc]
      simp [hlt] at hi
      simp [hlt, hi]
    · cases hi
theorem open_ls {H : Type} {enc : TypeId × Value → H} {W : World} {A : Option Addr} {len cap : Nat} {d : DataW H} {p : List MemPlace} (h : DataW.Trod enc Tryz.prog W 0 (fun _ => true) true 23 (.slice A len cap) d p) :
    ∃ cs : List Cl, len = cs.length ∧ LS W A cs ∧ cs.length ≤ cap ∧ cap ≤ 9223372036854775807 ∧ (A = none → cap = 0) := by
  obtain ⟨fuel, hf⟩ := h
  rcases open_int_rows Tryz.underlying23 Tryz.underlying22 Tryz.underlying3 (by kernel_rfl) (by kernel_rfl) hf with ⟨hcs, _⟩ | ⟨a, l, c, Ar, L, C, Z, hcs, _, hl, hm, _, hr⟩
  · simp [Value.cells] at hcs
    obtain ⟨rfl, rfl, rfl⟩ := hcs
    exact ⟨[], rfl, ⟨VS.nil, by simp⟩, by simp, by simp, fun _ => rfl⟩
  · simp [Value.cells] at hcs
    obtain ⟨rfl, rfl, rfl⟩ := hcs
    refine ⟨(List.range len).map fun r => ⟨Ar r, C r, (Z r).take (L r)⟩, by simp, ⟨fun i v hv => ?_, fun x hx => ?_⟩, by simpa using hl, by unfold maxLen at hm; exact hm, fun e => by cases e⟩
    · have hi : i < len := by
        rcases Nat.lt_or_ge i len with h | h
        · exact h
        · simp [h] at hv
      obtain ⟨h1, h2, h3, h4, _⟩ := hr i (by omega)
      simp [hi, clV] at hv
      obtain ⟨b, o, rfl⟩ := lit_of_cell (hr 0 (by omega)).1
      rw [Addr.add_lit] at h1
      refine ⟨b, o, rfl, cell_lt h1, ?_⟩
      rw [h1, ← hv]
      congr 2
      omega
    · simp at hx
      obtain ⟨r, hlt, rfl⟩ := hx
      obtain ⟨h1, h2, h3, h4, h5, h6, h7⟩ := hr r (by omega)
      refine ⟨fun i z hz => ?_, by simp; omega, by unfold maxLen at h3; exact h3⟩
      simp only at hz ⊢
      rw [List.getElem?_take] at hz
      split at hz
      · have hlt2 : i < (Z r).length := by
          rcases Nat.lt_or_ge i (Z r).length with h | h
          · exact h
          · simp [h] at hz
        cases hA : Ar r with
        | none => have := h6 hA; omega
        | some a' =>
          have hc := (h7 a' hA).2 i (by omega)
          obtain ⟨b, o, rfl⟩ := lit_of_cell ((h7 a' hA).2 0 (by omega))
          rw [Addr.add_lit] at hc
          refine ⟨b, o, rfl, cell_lt hc, ?_⟩
          rw [hc]
          simp [hlt2] at hz
          simp [hlt2, hz]
      · cases hz
end Go.Proofs.YtefdipjhjgmokaaGreat
