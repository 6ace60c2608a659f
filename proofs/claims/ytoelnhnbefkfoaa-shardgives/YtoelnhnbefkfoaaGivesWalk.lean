/-
  The walk of ShardGives.
-/
import Derived.Test.YtoelnhnbefkfoaaShLaw
import Derived.Test.YtoelnhnbefkfoaaShGive
import Derived.Deep.DeepCutAuto
set_option linter.unusedVariables false
set_option linter.unusedSimpArgs false
namespace Go.Proofs.Ytoelnhnbefkfoaa
open Go.RowKit

/-- behind the gift back: the map and the new one, each in its box -/
def GiveRel (w : World) (gm : Nat) (m : Mp) (r : (List ByteArray × List Int) × Int) (v8 v9 : Value) (wc : World) : Prop :=
  ∃ gx n, v8 = .pointer (some ⟨gx, 0, none⟩) ∧ v9 = .int .i64 r.2 ∧ n.cs = r.1.1 ∧ n.os = r.1.2 ∧ MX w gm m wc ∧ MX w gx n wc
def GvI (w1 : World) (i : Value) (wr : World) : Prop := ∃ k : Nat, k ≤ 8 ∧ i = .int .i64 k ∧ Below w1.heap.size w1 wr
def GaI (cs : List ByteArray) (key : ByteArray) (w1 : World) (i : Value) (wr : World) : Prop := ∃ k : Nat, k ≤ cs.length ∧ i = .int .i64 k ∧ (∀ j (hj : j < cs.length), j < k → leB cs[j] key = true) ∧ w1 = wr

set_option maxHeartbeats 4000000 in
set_option maxRecDepth 100000 in
theorem gives_walk (P : Option Addr) (cp : Nat) (zs : List Int) (i0 n0 : Int) (w : World) (hP : IS w P zs) (hl : zs.length ≤ cp) (hc : cp ≤ 9223372036854775807) (hn : P = none → cp = 0) :
    Calls Try.prog 4 #[.slice P zs.length cp, .int .i64 i0, .int .i64 n0] w fun e w' => e = .returned (.bool true) ∧ Below w.heap.size w w' := by
  go_enter Try.func4, Try.ntmps4
  go_wp2_with fail
  refine (shbegun_any _).mono ?_
  rintro e w1 ⟨rfl, hb1⟩
  have hP1 := hP.below hb1
  clear hP
  go_wp2_with fail
  refine (kmap_mk P cp zs _ hP1 (by omega)).mono ?_
  rintro e w2 ⟨m, rfl, hok, h6, hmo, hb2⟩
  have hM := MX.mk_ (hmo.mono hb1.size) (hb1.trans (hb2.mono hb1.size))
  clear hP1 hb1 hb2 hmo
  obtain ⟨z1, z2⟩ := hM.c
  have hlm := hok.len
  have hmL : 1 ≤ m.os.length ∧ m.os.length ≤ 13 := by have := hok.few; omega
  clear hlm
  go_wp2_with fail
  generalize w2.alloc _ = w3 at hM z1 z2 ⊢
  generalize w2.heap.size = gm at hM z1 z2 ⊢
  refine (within_any i0 m.os.length (by omega) (by omega) _).mono ?_
  rintro e w4 ⟨rfl, rfl⟩
  go_wp2_with fail
  refine (within_any n0 4 (by omega) (by omega) _).mono ?_
  rintro e w4 ⟨rfl, rfl⟩
  have hi := wi_lt i0 m.os.length (by omega)
  have ho := wi_lt n0 4 (by omega)
  generalize wi i0 m.os.length = i at hi ⊢
  generalize wi n0 4 = o at ho ⊢
  have hob : ownB (o : Int) = true := ownB_iff.2 (by omega)
  have hV : giveV m.cs m.os (i : Int) (o : Int) = ((m.cs, m.os.set i (o : Int)), 0) := by
    rw [giveV_ok (chkM_ok.2 hok) (by rw [hob]; simp; omega), Int.toNat_natCast]
  have HG := hideP (fun (W : World) (h : MS W m) => shgive_any m (i : Int) (o : Int) W h hok.l2)
  rw [hV] at HG
  clear hV hob
  go_wp2_with fail
  refine (HG.out _ hM.ms).mono ?_
  rintro e w4 ⟨x, rfl, hx1, hx2, hxo, hb4⟩
  simp only at hx1 hx2
  have hokx : OkM x.cs x.os := by rw [hx1, hx2]; exact give_ok hok (by omega) (by omega)
  have hws : ∀ k, atC m.cs k = i → whV x.cs x.os k = (o : Int) := fun k h => by rw [hx1, hx2]; exact whV_give_same hok h
  have hwo : ∀ k, atC m.cs k ≠ i → whV x.cs x.os k = whV m.cs m.os k := fun k h => by rw [hx1, hx2]; exact whV_give_other h
  have HBACK := hideP (show giveV x.cs x.os (i : Int) (m.os.getD i 0) = ((m.cs, m.os), 0) by
    have hm3 : ownB (m.os.getD i 0) = true := ownB_iff.2 (hok.own _ (by rw [List.getD_eq_getElem?_getD, List.getElem?_eq_getElem hi]; exact List.getElem_mem hi))
    have hlx : x.os.length = m.os.length := by rw [hx2, List.length_set]
    rw [giveV_ok (chkM_ok.2 hokx) (by rw [hm3, hlx]; simp; omega), Int.toNat_natCast, hx1, hx2, give_back hi])
  have hX := MX.mk_ (hxo.mono hM.be.size) (hM.below hb4).be
  replace hM := (hM.below hb4).alloc (o := .cells #[.slice x.A x.cs.length x.ca, .slice x.O x.os.length x.co] 26)
  clear hb4 hxo z1 z2 hx1 hx2 HG
  go_wp2_with fail
  generalize w4.alloc _ = w5 at hM hX ⊢
  generalize w4.heap.size = gx at hX ⊢
  refine (keys_any _).mono ?_
  rintro e w6 ⟨rfl, hw6⟩
  have hkc := fun (j : Nat) (h : j < 8) => keysO_cell w5 j h
  have hkl : w5.heap.size < (w5.alloc keysO).heap.size := by simp
  replace hM := hM.alloc (o := keysO)
  replace hX := hX.alloc (o := keysO)
  rw [hw6] at hkc hM hX hkl
  clear hw6
  have HKC := hideP hkc
  clear hkc
  generalize w5.heap.size = gk at HKC hkl ⊢
  go_wp2_with fail
  go_loopw [40] (GvI w6) (fun i _ => 8 - (intOf i).toNat)
  case atStart => exact ⟨0, by omega, rfl, Below.refl _ _⟩
  case round =>
    obtain ⟨j, hj, rfl, hb⟩ := hrel
    by_cases hlt : j < 8
    · have hMr := hM.below hb
      have hXr := hX.below hb
      have c0 := (hb.cell (p := ⟨gk, j, none⟩) hkl).trans (HKC.out j hlt)
      have hkN := keyN_ok hlt
      generalize keyN j = key at c0 hkN
      have g1 : (0 : Int) ≤ (j : Int) := by omega
      have g2 : (j : Int) < 8 := by omega
      obtain ⟨z1, z2⟩ := hMr.c
      go_wp2_with fail
      go_loopw [12] (GaI m.cs key wr) (fun i _ => m.cs.length - (intOf i).toNat)
      case atStart => exact ⟨0, Nat.zero_le _, rfl, fun j hj h => by omega, rfl⟩
      case round =>
        obtain ⟨k, hk, rfl, hall, rfl⟩ := hrel
        have HALL := hideP hall
        clear hall
        by_cases hkl2 : k < m.cs.length
        · obtain ⟨b1, o1, e1, _, q1⟩ := hMr.ms.cuts k (.string m.cs[k]) (by simp [hkl2])
          rw [e1] at z1
          have HE1 := hideP e1
          clear e1
          have HAT := hideP (fun (h : leB m.cs[k] key = false) => show atC m.cs key = k from atC_of hk HALL.out (fun _ => h))
          have HNX := hideP (fun (h : leB m.cs[k] key = true) => show ∀ j (hj : j < m.cs.length), j < k + 1 → leB m.cs[j] key = true from fun j hj hlt => by
            rcases Nat.lt_or_eq_of_le (Nat.le_of_lt_succ hlt) with hl | rfl
            · exact HALL.out j hj hl
            · exact h)
          generalize m.cs[k] = c at q1 HAT HNX
          have g3 : (0 : Int) ≤ (k : Int) := by omega
          have g4 : (k : Int) < (m.cs.length : Int) := by omega
          cases hc : leB c key
          · have d1 : Op.bytesLess key.toList c.toList = true := leB_no.1 hc
            have hat := HAT.out hc
            clear hc HAT HNX
            have HFM := hideP (fun (W : World) (h : MS W m) => shfind_any m key W h hok.l2)
            have HFX := hideP (fun (W : World) (h : MS W x) => shfind_any x key W h hokx.l2)
            rw [findV_ok (chkM_ok.2 hok) hkN] at HFM
            rw [findV_ok (chkM_ok.2 hokx) hkN] at HFX
            have hwx : whV x.cs x.os key = if k = i then (o : Int) else whV m.cs m.os key := by
              by_cases e : k = i
              · rw [if_pos e]; exact hws key (by omega)
              · rw [if_neg e]; exact hwo key (by omega)
            rw [hwx] at HFX
            clear hwx hat
            rw [HE1.out] at HFM
            generalize whV m.cs m.os key = v at HFM HFX
            go_wp2_with fail
            refine (HFM.out _ hMr.ms).mono ?_
            rintro e wf ⟨rfl, hbf⟩
            replace hXr := hXr.below hbf
            have hbf2 := hb.trans (hbf.mono hb.size)
            obtain ⟨y1, y2⟩ := hXr.c
            go_wp2_with fail
            refine (HFX.out _ hXr.ms).mono ?_
            rintro e wg ⟨rfl, hbg⟩
            have hbg2 := hbf2.trans (hbg.mono hbf2.size)
            clear y1 y2 HFM HFX hbf hbg hbf2
            by_cases hki : k = i
            · rw [if_pos hki]
              have d2 : ((k : Int) == (i : Int)) = true := by simp [hki]
              have d3 : ((k : Int) != (i : Int)) = false := by simp [hki]
              have d4 : ((o : Int) != (o : Int)) = false := by simp
              clear hki
              go_wp2_with fail
              go_roundw
              case rel => exact ⟨j + 1, by omega, by go_num, hbg2⟩
              case measure => simp [intOf]; omega
            · rw [if_neg hki]
              have d2 : ((k : Int) == (i : Int)) = false := by simp; omega
              have d3 : ((k : Int) != (i : Int)) = true := by simp; omega
              have d4 : (v != v) = false := by simp
              clear hki
              go_wp2_with fail
              go_roundw
              case rel => exact ⟨j + 1, by omega, by go_num, hbg2⟩
              case measure => simp [intOf]; omega
          · have d1 : Op.bytesLess key.toList c.toList = false := leB_iff.1 hc
            have HX := hideP (HNX.out hc)
            clear hc HAT HNX
            go_wp2_with fail
            go_roundw
            case rel => exact ⟨k + 1, by omega, by go_num, HX.out, rfl⟩
            case measure => simp [intOf]; omega
        · have hat : atC m.cs key = k := atC_of hk HALL.out (fun h => absurd h hkl2)
          have g4 : decide ((k : Int) < (m.cs.length : Int)) = false := by simp; omega
          have HFM := hideP (fun (W : World) (h : MS W m) => shfind_any m key W h hok.l2)
          have HFX := hideP (fun (W : World) (h : MS W x) => shfind_any x key W h hokx.l2)
          rw [findV_ok (chkM_ok.2 hok) hkN] at HFM
          rw [findV_ok (chkM_ok.2 hokx) hkN] at HFX
          have hwx : whV x.cs x.os key = if k = i then (o : Int) else whV m.cs m.os key := by
            by_cases e : k = i
            · rw [if_pos e]; exact hws key (by omega)
            · rw [if_neg e]; exact hwo key (by omega)
          rw [hwx] at HFX
          clear hwx hat
          generalize whV m.cs m.os key = v at HFM HFX
          go_wp2_with fail
          refine (HFM.out _ hMr.ms).mono ?_
          rintro e wf ⟨rfl, hbf⟩
          replace hXr := hXr.below hbf
          have hbf2 := hb.trans (hbf.mono hb.size)
          obtain ⟨y1, y2⟩ := hXr.c
          go_wp2_with fail
          refine (HFX.out _ hXr.ms).mono ?_
          rintro e wg ⟨rfl, hbg⟩
          have hbg2 := hbf2.trans (hbg.mono hbf2.size)
          clear y1 y2 HFM HFX hbf hbg hbf2
          by_cases hki : k = i
          · rw [if_pos hki]
            have d2 : ((k : Int) == (i : Int)) = true := by simp [hki]
            have d3 : ((k : Int) != (i : Int)) = false := by simp [hki]
            have d4 : ((o : Int) != (o : Int)) = false := by simp
            clear hki
            go_wp2_with fail
            go_roundw
            case rel => exact ⟨j + 1, by omega, by go_num, hbg2⟩
            case measure => simp [intOf]; omega
          · rw [if_neg hki]
            have d2 : ((k : Int) == (i : Int)) = false := by simp; omega
            have d3 : ((k : Int) != (i : Int)) = true := by simp; omega
            have d4 : (v != v) = false := by simp
            clear hki
            go_wp2_with fail
            go_roundw
            case rel => exact ⟨j + 1, by omega, by go_num, hbg2⟩
            case measure => simp [intOf]; omega
    · have hMr := hM.below hb
      have hXr := hX.below hb
      have g2 : ¬ (j : Int) < 8 := by omega
      have HG := hideP (fun (W : World) (h : MS W x) => shgive_any x (i : Int) (m.os.getD i 0) W h hokx.l2)
      rw [HBACK.out] at HG
      obtain ⟨bO, oO, eO, hx1, hx2⟩ := hMr.ms.own i (m.os.getD i 0) (by simp [List.getD_eq_getElem?_getD, hi])
      have HS := hideP (fun (W : World) (h : MX w gm m W) (h' : MX w gx x W) => show W.cell? ⟨gx, 0, none⟩ = some (.slice x.A x.cs.length x.ca) ∧ W.cell? ⟨gx, 1, none⟩ = some (.slice x.O x.os.length x.co) ∧ W.cell? ⟨gm, 1, none⟩ = some (.slice (some ⟨bO, oO, none⟩) m.os.length m.co) ∧ W.cell? ⟨bO, oO + i, none⟩ = some (.int .i64 (m.os.getD i 0)) from by
        obtain ⟨b2, o2, e2, _, c2⟩ := h.ms.own i (m.os.getD i 0) (by simp [List.getD_eq_getElem?_getD, hi])
        rw [eO] at e2
        injection e2 with e2
        injection e2 with e3 e4
        subst e3; subst e4
        exact ⟨h'.c.1, h'.c.2, by rw [← eO]; exact h.c.2, c2⟩)
      have g3 : (0 : Int) ≤ (i : Int) := by omega
      have g4 : (i : Int) < (m.os.length : Int) := by omega
      have hgm : gm < wr.heap.size := hMr.x0.lt
      have hgx : gx < wr.heap.size := hXr.x0.lt
      have hwr : w.heap.size ≤ wr.heap.size := hMr.be.size
      generalize m.os.getD i 0 = v at HG HS
      clear hx1 hx2 eO HBACK hws hwo hM hX hokx
      go_wp2_with fail
      go_cut [17, 9] (GiveRel w gm m ((m.cs, m.os), 0))
      case first =>
        go_region_held3 (fun w' => w'.cell? ⟨gx, 0, none⟩ = some (.slice x.A x.cs.length x.ca) ∧ w'.cell? ⟨gx, 1, none⟩ = some (.slice x.O x.os.length x.co) ∧ w'.cell? ⟨gm, 1, none⟩ = some (.slice (some ⟨bO, oO, none⟩) m.os.length m.co) ∧ w'.cell? ⟨bO, oO + i, none⟩ = some (.int .i64 v)) (first | with_reducible exact hS3 | (refine HS.out _ ?_ ?_; (repeat first | with_reducible exact hM2 | with_reducible exact hMr | with_reducible apply MX.alloc | with_reducible apply MX.drew); (repeat first | with_reducible exact hX2 | with_reducible exact hXr | with_reducible apply MX.alloc | with_reducible apply MX.drew))) (first
          | (go_at_call 19
             first
               | refine (HG.out _ hXr.drew.ms).mono ?_
               | refine (HG.out _ hXr.alloc.drew.ms).mono ?_
             rintro e wc ⟨n, rfl, hn1, hn2, hmo, hbc⟩
             have HN1 := hideP hn1
             have HN2 := hideP hn2
             clear hn1 hn2
             first
               | (have hM2 := hMr.drew.below hbc; have hX2 := hXr.drew.below hbc)
               | (have hM2 := hMr.alloc.drew.below hbc; have hX2 := hXr.alloc.drew.below hbc; have hB := (Box.new wr 26 #[.slice none 0 0, .slice none 0 0]).drew.below hbc)
             have hmo' : MO wc w.heap.size n := hmo.mono (by first | exact hMr.drew.be.size | exact hMr.alloc.drew.be.size)
             first
               | (have f0 := hB.frozen 0; have f2 := hB.frozen 1; have d2 := hB.cell 1 (v := .slice none 0 0) rfl; have f1 := (hB.set 0 (.slice n.A n.cs.length n.ca)).frozen 1; have d0 := hB.cell 0 (v := .slice none 0 0) rfl; have d1 := (hB.set 0 (.slice n.A n.cs.length n.ca)).cell 1 (v := .slice none 0 0) rfl
                  have hN := MX.fill hmo' hM2.be hB (by omega); have hM3 := hM2.other hB (by omega) (by omega) (.slice n.A n.cs.length n.ca) (.slice n.O n.os.length n.co); have hX3 := hX2.other hB (by omega) (by omega) (.slice n.A n.cs.length n.ca) (.slice n.O n.os.length n.co); have hS3 := HS.out _ hM3 hX3)
               | skip))
        all_goals
          go_wp2_with fail
          go_meet
          case rel => first | exact ⟨_, n, rfl, rfl, HN1.out, HN2.out, hM3, hN⟩ | exact ⟨_, n, rfl, rfl, HN1.out, HN2.out, hM2.alloc, MX.mk_ hmo' hM2.be⟩
      case rest =>
        obtain ⟨gy, n, rfl, rfl, hn1, hn2, hMc, hN⟩ := hcut
        simp only at hn1 hn2
        have HSQ := hideP (show (decide (n.cs = m.cs) && decide (n.os = m.os)) = true by rw [hn1, hn2]; simp)
        clear hn1 hn2 HS hMr hXr
        obtain ⟨z1, z2⟩ := hMc.c
        obtain ⟨y1, y2⟩ := hN.c
        go_wp2_with fail
        refine (samemap_any n m _ hN.ms hMc.ms).mono ?_
        rintro e wz ⟨rfl, hbz⟩
        rw [HSQ.out]
        have hbe := (hMc.below hbz).be
        go_wp2_with fail
        go_ret
        exact ⟨rfl, hbe⟩
end Go.Proofs.Ytoelnhnbefkfoaa
