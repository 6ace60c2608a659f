/-
  rokeep.PlanOrders: the law answers true.
-/
import Derived.Test.YtgcnbifgnaepnaaGreatBd50
import Derived.Test.YtgcnbifgnaepnaaGreatBd51
import Derived.Deep.Cut
import Derived.Deep.CutBlock
import Derived.Deep.DeepCutAuto
import Derived.IntWalk
import Derived.Deep.QuietTactic
import Derived.BigQuiet
set_option linter.unusedVariables false
set_option linter.unusedSimpArgs false
namespace Go.Proofs.YtgcnbifgnaepnaaGreat
open Go.RowKit Go.WideMaps Go.Maps

theorem nV_get2 {l : List Nat} {i : Nat} (h : i < l.length) : (nV l)[i]? = some (.int .i64 ((l.getD i 0 : Nat) : Int)) := by simp [nV, h, List.getD_eq_getElem?_getD]
theorem nV_set2 (l : List Nat) (i v : Nat) : nV (l.set i v) = (nV l).set i (.int .i64 (v : Int)) := by simp [nV, List.map_set]
theorem OR.at2 {w : World} {B : Nat} {t : TypeId} {g c : Nat} {xs : List Value} (h : OR w B t (some ⟨g, 0, none⟩) c xs) {i : Nat} {v : Value} (hv : xs[i]? = some v) : w.cell? ⟨g, i, none⟩ = some v := by
  obtain ⟨b, o, e, _, h1⟩ := h.vs i v hv
  injection e with e
  injection e with e1 e2 _
  subst e1; subst e2
  rw [Nat.zero_add] at h1
  exact h1
/-- an order of the call's own in memory -/
structure Om (w3 : World) (go : Nat) (n : Nat) (o : List Nat) (wr : World) : Prop where
  row : OR wr w3.heap.size 3 (some ⟨go, 0, none⟩) n (nV o)
  bel : Below w3.heap.size w3 wr
theorem Om.below {w3 : World} {go n : Nat} {o : List Nat} {wr w' : World} (h : Om w3 go n o wr) (hb : Below wr.heap.size wr w') : Om w3 go n o w' := ⟨h.row.below hb, h.bel.trans (hb.mono h.bel.size)⟩
theorem Om.set_ {w3 : World} {go n : Nat} {o : List Nat} {wr : World} (h : Om w3 go n o wr) {k : Nat} (hk : k < o.length) (v : Nat) : Om w3 go n (o.set k v) (wr.setCell ⟨go, k, none⟩ (.int .i64 (v : Int))) := by
  refine ⟨?_, ?_⟩
  · rw [nV_set2]; exact h.row.set_ (by rw [nV_length]; exact hk) _
  · exact h.bel.setCell (p := ⟨go, k, none⟩) (World.ownsRow.lt h.row go rfl).1 _
theorem Om.swap1 {w3 : World} {go n : Nat} {o : List Nat} {wr : World} (h : Om w3 go n o wr) {k : Nat} (hk : k + 1 < o.length) :
    Om w3 go n (swp o k) ((wr.setCell ⟨go, k, none⟩ (.int .i64 ((o.getD (k + 1) 0 : Nat) : Int))).setCell ⟨go, k + 1, none⟩ (.int .i64 ((o.getD k 0 : Nat) : Int))) :=
  (h.set_ (by omega) _).set_ (by rw [List.length_set]; exact hk) _
theorem Om.swap2 {w3 : World} {go n : Nat} {o : List Nat} {wr : World} (h : Om w3 go n o wr) {k : Nat} (hk : k + 1 < o.length) :
    Om w3 go n (swp o k) ((wr.setCell ⟨go, k + 1, none⟩ (.int .i64 ((o.getD k 0 : Nat) : Int))).setCell ⟨go, k, none⟩ (.int .i64 ((o.getD (k + 1) 0 : Nat) : Int))) := by
  have := (h.set_ (k := k + 1) hk (o.getD k 0)).set_ (k := k) (by rw [List.length_set]; omega) (o.getD (k + 1) 0)
  rw [List.set_comm _ _ (by omega)] at this
  exact this
def OfInv (w3 : World) (go n : Nat) (i : Value) (wr : World) : Prop := ∃ k : Nat, k ≤ n ∧ i = .int .i64 k ∧ Om w3 go n (filM n k) wr
def OsInv (w3 : World) (go n : Nat) (dd : List (List Opr)) (i : Value) (wr : World) : Prop := ∃ (t : Nat) (o : List Nat), i = .int .i64 t ∧ Kept dd n o ∧ Om w3 go n o wr

/-- the transactions while they are laid in order -/
def OtInv (w8 : World) (ds : List Dl) (o : List Nat) (s i : Value) (wr : World) : Prop :=
  ∃ (j : Nat) (A : Option Addr) (c : Nat), j ≤ o.length ∧ i = .int .i64 j ∧ s = .slice A j c ∧ OR wr w8.heap.size 45 A c ((dsO ds (o.take j)).map dlV) ∧ Below w8.heap.size w8 wr
def CmInv (w9 : World) (n : Nat) (i : Value) (wr : World) : Prop := ∃ j : Nat, j ≤ n ∧ i = .int .i64 j ∧ Below w9.heap.size w9 wr

set_option maxHeartbeats 4000000 in
set_option maxRecDepth 100000 in
theorem porders_walk (A D P : Option Addr) (c cd cp : Nat) (zs : List Int) (cs : List Cl) (ps : List Int) (w : World)
    (hA : IS w A zs) (hAl : zs.length ≤ c) (hAc : c ≤ 9223372036854775807) (hAn : A = none → c = 0)
    (hD : LS w D cs) (hDl : cs.length ≤ cd) (hDc : cd ≤ 9223372036854775807) (hDn : D = none → cd = 0)
    (hP : IS w P ps) (hPl : ps.length ≤ cp) (hPc : cp ≤ 9223372036854775807) (hPn : P = none → cp = 0) :
    Calls Tryz.prog 4 #[.slice A zs.length c, .slice D cs.length cd, .slice P ps.length cp] w fun e w' => e = .returned (.bool true) ∧ Below w.heap.size w w' := by
  obtain ⟨m, hm⟩ : ∃ m : Nat, m = min ps.length 40 := ⟨_, rfl⟩
  have hm1 : m ≤ ps.length := by omega
  have gm : min (ps.length : Int) 40 = (m : Int) := by omega
  have hsl := slice_upto P ps.length cp m (by omega) hPn
  clear hm
  go_enter Tryz.func4, Tryz.ntmps4
  go_wp2_with fail
  refine (pbegun_any _).mono ?_
  rintro e w1 ⟨rfl, hb1⟩
  have hA1 := hA.below hb1
  go_wp2_with fail
  refine (pairs_any A c zs _ hA1 hAl hAc hAn).mono ?_
  rintro e w2 ⟨A2, c2, l, rfl, hS2, hsm, hb2⟩
  have hb3 := hb1.trans (hb2.mono hb1.size)
  have hD2 := hD.below hb3
  clear hA1 hb1 hb2 hA hAn
  go_wp2_with fail
  refine (deeds_any D cd 12 cs _ hD2 hDl hDc hDn (by omega)).mono ?_
  rintro e w3 ⟨A3, c3, ds, rfl, hDD, hlen, hb4⟩
  have hb5 := hb3.trans (hb4.mono hb3.size)
  have hS3 := hS2.below hb4
  have hP3 := hP.below hb5
  have hok := hsm.ok
  have hcp := dds_chkP hDD (by omega)
  have hDS := hDD.ds
  have HCP := hideP hcp
  obtain ⟨i0, hi0, hz0, hz1, hz2⟩ := info_parts intInfo
  obtain ⟨w4, hmk, hown, hg4⟩ := run_make_full (P := Tryz.prog) w3 w3.heap.size 22 3 i0 _ 1 Tryz.underlying22 hi0 hz0 hz1 .i64 .i64 ds.length (by rw [hz2]; omega) (by unfold maxLen; omega) (Nat.le_refl _)
  rw [made_ints, ← filM_start] at hown
  have hb6 : Below w3.heap.size w3 w4 := ⟨hg4.os, hg4.tape, hg4.output, hg4.size, fun k hk => hg4.block k hk (by simp)⟩
  have HI := hideP (show OfInv w3 w3.heap.size ds.length (.int .i64 0) w4 from ⟨0, Nat.zero_le _, rfl, by unfold OR; rw [nV_length, filM_len]; exact hown, hb6⟩)
  clear hD2 hS2 hb3 hb4 hD hDn hP hPn hDD hsm hcp hown hg4 hi0 hz0 hz1 hz2 hb6
  generalize hgo : w3.heap.size = go at HI hmk
  have HGO := hideP hgo
  clear hgo
  go_wp2_with fail
  go_loopw [37] (OfInv w3 go ds.length) (fun i _ => ds.length - (intOf i).toNat)
  case atStart => exact HI.out
  case round =>
    clear HI hmk
    obtain ⟨k, hk, rfl, hom⟩ := hrel
    by_cases hkl : k < ds.length
    · have y1 := hom.row.at2 (nV_get2 (l := filM ds.length k) (i := k) (by rw [filM_len]; exact hkl))
      have y2 := hom.row.frozen_ k
      have hom2 := hom.set_ (k := k) (by rw [filM_len]; exact hkl) k
      rw [filM_next hkl] at hom2
      have HO := hideP hom2
      generalize (((filM ds.length k).getD k 0 : Nat) : Int) = z at y1
      have g1 : (0 : Int) ≤ (k : Int) := by omega
      have g2 : (k : Int) < (ds.length : Int) := by omega
      clear hom hom2
      go_wp2_with fail
      go_roundw
      case rel => exact ⟨k + 1, by omega, by go_num, HO.out⟩
      case measure => simp [intOf] <;> omega
    · have hke : k = ds.length := by omega
      subst hke
      rw [filM_end] at hom
      have HI := hideP (show OsInv w3 go ds.length (ddOf ds) (.int .i64 0) wr from ⟨0, _, rfl, by have := kept_range (ddOf ds) ds.length; exact this, hom⟩)
      clear hom
      go_wp2_with fail
      go_loopw [51] (OsInv w3 go ds.length (ddOf ds)) (fun i _ => m - (intOf i).toNat)
      case atStart => exact HI.out
      case round =>
        clear HI hsl gm
        obtain ⟨t, o, rfl, hkp, hom⟩ := hrel
        have hol := hkp.prm.len
        by_cases htm : t < m
        · obtain ⟨b, o1, rfl, hbl, q1⟩ := hP3.below hom.bel t _ (List.getElem?_eq_getElem (by omega))
          generalize ps[t] = z at q1
          have g1 : (0 : Int) ≤ (t : Int) := by omega
          have g2 : (t : Int) < (m : Int) := by omega
          by_cases hd2 : ds.length < 2
          · have g3 : (ds.length : Int) < 2 := by omega
            have hfin := hb5.trans (hom.bel.mono hb5.size)
            clear hom hkp
            go_wp2_with fail
            go_ret
            exact ⟨rfl, hfin⟩
          · obtain ⟨m1, hm1'⟩ : ∃ m1 : Nat, ds.length = m1 + 1 := ⟨ds.length - 1, by omega⟩
            have gs : (ds.length : Int) - 1 = (m1 : Int) := by omega
            have g3 : ¬ (ds.length : Int) < 2 := by omega
            have hwi := wi_lt z m1 (by omega)
            have hWI := hideP (within_any z m1 (by omega) (by omega) wr)
            have hm2 : m1 < ds.length := by omega
            have hm3 : ds.length ≤ m1 + 1 := by omega
            clear hm1'
            go_wp2_with fail
            refine hWI.out.mono ?_
            rintro e w7 ⟨rfl, rfl⟩
            clear hWI gs
            generalize wi z m1 = k at hwi ⊢
            go_upto_region 15 with fail
            go_cut [] (fun wc => Om w3 go ds.length (swp o k) wc)
            case first =>
              have hk1 : k + 1 < o.length := by omega
              have y1 := hom.row.at2 (nV_get2 (l := o) (i := k) (by omega))
              have y2 := hom.row.at2 (nV_get2 (l := o) (i := k + 1) hk1)
              have y3 := hom.row.frozen_ k
              have y4 := hom.row.frozen_ (k + 1)
              have H1 := hideP ((hom.swap1 hk1).below (Below.refl _ _).drew)
              have H2 := hideP ((hom.swap2 hk1).below (Below.refl _ _).drew)
              generalize ((o.getD k 0 : Nat) : Int) = a at y1 H1 H2
              generalize ((o.getD (k + 1) 0 : Nat) : Int) = b at y2 H1 H2
              have g4 : (0 : Int) ≤ (k : Int) := by omega
              have g5 : (k : Int) < (ds.length : Int) := by omega
              have g6 : (0 : Int) ≤ (k : Int) + 1 := by omega
              have g7 : (k : Int) + 1 < (ds.length : Int) := by omega
              have g8 : ((k : Int) + 1).toNat = k + 1 := by omega
              have hw : IntKind.i64.wrap ((k : Int) + 1) = (k : Int) + 1 := IntWalk.i64_in _ (by omega)
              clear hom hkp HCP HGO hDS hS3 hok
              go_wp2_with fail
              go_region
              all_goals
                go_wp2_with fail
                go_meet
                case rel => first | exact H1.out | exact H2.out
            case rest =>
              have hprm := hkp.prm.swp (k := k) (by omega)
              have HBK := hideP (swp_back (o := o) (k := k) (by omega))
              generalize swp o k = o' at hcut hprm HBK
              have hol' := hprm.len
              have hDSc := hDS.below hcut.bel
              have HO := hideP (porder_any A3 (some ⟨go, 0, none⟩) c3 ds.length ds (zI o') wc hDSc HCP.out hcut.row.vs.is_ (by rw [zI_len]; omega) (by omega) (fun h => by cases h))
              have hov : orV (ddOf ds) (zI o') = (ordB (ddOf ds) (zI o'), 0) := by unfold orV; rw [ddOf_len, if_pos (show chkOr ds.length (zI o') = 0 from hprm.chk)]
              rw [hov, zI_len, hol'] at HO
              have hl1 : o'.length ≤ ds.length := by omega
              have hl2 : ds.length ≤ o'.length := by omega
              clear hov hDSc hol'
              go_wp2_with fail
              refine HO.out.mono ?_
              rintro e w8 ⟨rfl, hb8⟩
              have hom8 := hcut.below hb8
              clear hcut hb8 HO
              cases hob : ordB (ddOf ds) (zI o')
              · have hk1 : k + 1 < o'.length := by omega
                have y1 := hom8.row.at2 (nV_get2 (l := o') (i := k) (by omega))
                have y2 := hom8.row.at2 (nV_get2 (l := o') (i := k + 1) hk1)
                have y3 := hom8.row.frozen_ k
                have y4 := hom8.row.frozen_ (k + 1)
                have H1 := hideP ((hom8.swap1 hk1).below (Below.refl _ _).drew)
                have H2 := hideP ((hom8.swap2 hk1).below (Below.refl _ _).drew)
                rw [HBK.out] at H1 H2
                generalize ((o'.getD k 0 : Nat) : Int) = a at y1 H1 H2
                generalize ((o'.getD (k + 1) 0 : Nat) : Int) = b at y2 H1 H2
                have g4 : (0 : Int) ≤ (k : Int) := by omega
                have g5 : (k : Int) < (ds.length : Int) := by omega
                have g6 : (0 : Int) ≤ (k : Int) + 1 := by omega
                have g7 : (k : Int) + 1 < (ds.length : Int) := by omega
                have g8 : ((k : Int) + 1).toNat = k + 1 := by omega
                have hw : IntKind.i64.wrap ((k : Int) + 1) = (k : Int) + 1 := IntWalk.i64_in _ (by omega)
                have HKP := hideP hkp
                clear hom8 hkp HCP HGO hDS hS3 hok hob hom
                go_wp2_with fail
                go_region
                all_goals
                  go_wp2_with fail
                  go_roundw
                  case rel => exact ⟨t + 1, o, by go_num, HKP.out, (by first | exact H1.out | exact H2.out)⟩
                  case measure => simp [intOf] <;> omega
              · have hkp' : Kept (ddOf ds) (ddOf ds).length o' := kept_of_order (by rw [ddOf_len]; exact hprm.chk) hob
                have HKS := hideP (kept_ser (chkP_zero.1 HCP.out).2 hkp' (valOf l))
                rw [ddOf_len] at hkp'
                have hDS8 := hDS.below hom8.bel
                have hS8 := hS3.below hom8.bel
                have HKP := hideP hkp'
                have HJ := hideP (show OtInv w8 ds o' (.slice none 0 0) (.int .i64 0) w8 from ⟨0, none, 0, Nat.zero_le _, rfl, rfl, OR.nil _ _ _, Below.refl _ _⟩)
                clear hkp hob hom HBK hkp'
                go_wp2_with fail
                go_loopw [15, 107] (OtInv w8 ds o') (fun _ i _ => o'.length - (intOf i).toNat)
                case atStart => exact HJ.out
                case round =>
                  clear HJ
                  obtain ⟨j, A4, c4, hj, rfl, rfl, hor, hbw⟩ := hrel
                  by_cases hjl : j < o'.length
                  · have hml := (HKP.out.mem o'[j]).1 (List.getElem_mem hjl)
                    have q := (hom8.row.below hbw).at2 (nV_get2 (l := o') (i := j) hjl)
                    have e0 : o'.getD j 0 = o'[j] := by simp [List.getD_eq_getElem?_getD, hjl]
                    rw [e0] at q
                    obtain ⟨⟨bd, od, eD, hbld, qd⟩, hosd⟩ := (hDS8.below hbw).at_ hml
                    have HT := hideP (dsO_take (ds := ds) hjl)
                    have e1 : ds.getD o'[j] ⟨none, 0, []⟩ = ds[o'[j]] := by simp [List.getD_eq_getElem?_getD, hml]
                    rw [e1] at HT
                    clear e0 e1 hosd
                    generalize ds[o'[j]] = x at qd HT
                    generalize o'[j] = i at q qd hml
                    obtain ⟨Dx, cx, dx⟩ := x
                    simp only [dlV] at qd
                    have htl : (dsO ds (o'.take j)).length = j := by rw [dsO_len, List.length_take]; omega
                    have htl2 : (dsO ds (o'.take (j + 1))).length = j + 1 := by rw [dsO_len, List.length_take]; omega
                    obtain ⟨A7, c7, w7, hrun, hor7, hbel, hgr, _⟩ := app_row (P := Tryz.prog) Tryz.underlying27 deedInfo rfl wr w8.heap.size 27 A4 c4 _ hor [dlV ⟨Dx, cx, dx⟩] (by simp [dlV, Value.oneCell']) (by rw [List.length_map, htl]; simp only [List.length_singleton]; omega) (by decide) hbw.size
                    have hX : (dsO ds (o'.take j)).map dlV ++ [dlV ⟨Dx, cx, dx⟩] = (dsO ds (o'.take (j + 1))).map dlV := by rw [HT.out, List.map_append]; rfl
                    rw [hX, List.length_map, List.length_map, htl, htl2] at hrun
                    rw [hX] at hor7
                    have hb7 := hbel w8.heap.size w8 (Nat.le_refl _) hbw
                    have HR := hideP hrun
                    have g4 : (0 : Int) ≤ (j : Int) := by omega
                    have g5 : (j : Int) < (ds.length : Int) := by omega
                    have g6 : (0 : Int) ≤ (i : Int) := by omega
                    have g7 : (i : Int) < (ds.length : Int) := by omega
                    rw [eD]
                    clear hrun hX htl htl2 HT hgr hbel hor hbw
                    go_wp2_with (at_builtin; refine Lib.wpList_append_run _ rfl _ _ _ _ rfl _ _ rfl rfl _ _ HR.out ?_)
                    go_roundw
                    case rel => exact ⟨j + 1, A7, c7, by omega, by go_num, rfl, hor7, hb7⟩
                    case measure => simp [intOf] <;> omega
                  · have hje : j = o'.length := by omega
                    subst hje
                    rw [List.take_length] at hor
                    have hDS9 := hDS8.below hbw
                    have hS9 := hS8.below hbw
                    have hom9 := hom8.below hbw
                    have hDO : DS wr A4 (dsO ds o') := ⟨hor.vs, fun x hx => hDS9.os x (dsO_mem (fun y hy => (HKP.out.mem y).1 hy) hx)⟩
                    have HS1 := hideP (serial_any A2 A3 c2 c3 l ds wr hS9 hok hDS9 (by omega))
                    have HS2 := hideP (fun (w' : World) (hb : Below wr.heap.size wr w') => serial_any A2 A4 c2 c4 l (dsO ds o') w' (hS9.below hb) hok (hDO.below hb) (by rw [dsO_len]; omega))
                    rw [dsO_len] at HS2
                    have HC2 := hideP (show chkDs ((dsO ds o').map (·.d)) = 0 from chkDs_zero.2 fun d hd => by
                      obtain ⟨x, hx, rfl⟩ := List.mem_map.1 hd
                      exact (chkP_zero.1 HCP.out).2 _ (List.mem_map.2 ⟨x, dsO_mem (fun y hy => (HKP.out.mem y).1 hy) hx, rfl⟩))
                    have HDD := hideP (show serV (valOf l) ((dsO ds o').map (·.d)) = serV (valOf l) (atD (ddOf ds) o') by rw [← dsO_dd]; rfl)
                    clear hor hDO hDS9 hS9 hom8 hDS8 hS8 hbw
                    go_wp2_with fail
                    refine HS1.out.mono ?_
                    rintro e w10 (⟨_, A5, c5, l5, A6, c6, he, hov5, hok5, hv5, hor6, hb10⟩ | ⟨hne, _⟩)
                    case inr => exact absurd (chkDs_of_chkP HCP.out) hne
                    have hl6 : (serV (valOf l) (ds.map (·.d))).2.length = ds.length := by rw [serV_len]; simp
                    rw [hl6] at he
                    subst he
                    have hom10 := hom9.below hb10
                    have HS3 := hideP (HS2.out _ hb10)
                    clear HS1 HS2 hom9 hl6
                    go_wp2_with fail
                    refine HS3.out.mono ?_
                    rintro e w11 (⟨_, A7, c7, l7, A8, c8, he, hov7, hok7, hv7, hor8, hb11⟩ | ⟨hne, _⟩)
                    case inr => exact absurd HC2.out hne
                    rw [HDD.out] at he hv7 hor8
                    have hl8 : (serV (valOf l) (atD (ddOf ds) o')).2.length = o'.length := by rw [serV_len]; simp [atD]
                    rw [hl8] at he
                    subst he
                    obtain rfl : l7 = l5 := hok7.ext hok5 (fun q => by rw [hv7, hv5, HKS.out.1]; rfl)
                    have hom11 := hom10.below hb11
                    have v6 : VS w11 A6 ((serV (valOf l) (ddOf ds)).2.map Value.bool) := hor6.vs.below hb11
                    have v8 := hor8.vs
                    have HE := hideP (equal_same A5 A7 c5 c7 l7 w11 (hov5.sv.below hb11).ps hov7.sv.ps (by have := hok7.small; omega))
                    clear HS3 hov5 hok5 hv5 hor6 hb10 hov7 hok7 hv7 hor8 hb11 hom10 HDD HC2 hl8
                    go_wp2_with fail
                    refine HE.out.mono ?_
                    rintro e w12 ⟨rfl, hb12⟩
                    have hom12 := hom11.below hb12
                    have v6' := v6.below hb12
                    have v8' := v8.below hb12
                    clear HE hom11 v6 v8 hb12
                    go_wp2_with fail
                    go_loopw [147] (CmInv w12 ds.length) (fun i _ => ds.length - (intOf i).toNat)
                    case atStart => exact ⟨0, Nat.zero_le _, rfl, Below.refl _ _⟩
                    case round =>
                      obtain ⟨j, hj, rfl, hbw⟩ := hrel
                      by_cases hjl : j < ds.length
                      · have hjo : j < o'.length := by omega
                        have hml := (HKP.out.mem o'[j]).1 (List.getElem_mem hjo)
                        have q := (hom12.row.below hbw).at2 (nV_get2 (l := o') (i := j) hjo)
                        have e0 : o'.getD j 0 = o'[j] := by simp [List.getD_eq_getElem?_getD, hjo]
                        rw [e0] at q
                        have h2 := HKS.out.2 j o'[j] (List.getElem?_eq_getElem hjo)
                        have hl9 : o'[j] < (serV (valOf l) (ddOf ds)).2.length := by rw [serV_len, ddOf_len]; exact hml
                        rw [List.getElem?_eq_getElem hl9] at h2
                        obtain ⟨b6, o6, rfl, hbl6, q6⟩ := v6'.below hbw o'[j] (.bool ((serV (valOf l) (ddOf ds)).2[o'[j]]'hl9)) (by simp [hl9])
                        obtain ⟨b8, o8, rfl, hbl8, q8⟩ := v8'.below hbw j (.bool ((serV (valOf l) (ddOf ds)).2[o'[j]]'hl9)) (by simp [h2])
                        generalize (serV (valOf l) (ddOf ds)).2[o'[j]]'hl9 = bb at q6 q8
                        clear h2 hl9 e0
                        generalize o'[j] = i at q q6 hml
                        have g4 : (0 : Int) ≤ (j : Int) := by omega
                        have g5 : (j : Int) < (ds.length : Int) := by omega
                        have g6 : (0 : Int) ≤ (i : Int) := by omega
                        have g7 : (i : Int) < (ds.length : Int) := by omega
                        have g8 : (j : Int) < (o'.length : Int) := by omega
                        have db : (bb != bb) = false := by simp
                        clear v6' v8' hom12
                        go_wp2_with fail
                        go_quiet (fail)
                        go_wp2_with fail
                        go_roundw
                        case rel => exact ⟨j + 1, by omega, by go_num, ⟨hbw.os, hbw.tape, hbw.output, hbw.size, hbw.block⟩⟩
                        case measure => simp [intOf] <;> omega
                      · have hom13 := hom12.below hbw
                        clear v6' v8' hom12
                        go_wp2_with fail
                        go_roundw
                        case rel => exact ⟨t + 1, o', by go_num, HKP.out, hom13⟩
                        case measure => simp [intOf] <;> omega
        · have hfin := hb5.trans (hom.bel.mono hb5.size)
          clear hom hkp
          go_wp2_with fail
          go_ret
          exact ⟨rfl, hfin⟩
end Go.Proofs.YtgcnbifgnaepnaaGreat
