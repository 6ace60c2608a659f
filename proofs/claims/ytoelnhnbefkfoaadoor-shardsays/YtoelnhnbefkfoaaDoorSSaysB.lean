/-
  The walk of ShardSays, where a cut is made behind all others.
-/
import Derived.Test.YtoelnhnbefkfoaaDoorSSaysPre
set_option linter.unusedVariables false
set_option linter.unusedSimpArgs false
namespace Go.Proofs.YtoelnhnbefkfoaaDoor
open Go.RowKit

set_option maxHeartbeats 4000000 in
set_option maxRecDepth 100000 in
theorem ssays_b (m : Mp) (key : ByteArray) (i n : Int) (w : World) (hm : MS w m) (hc : chkM m.cs m.os = 0) (hk0 : keyB key = true) (hin0 : inB key m.cs = false) (h120 : m.cs.length ≠ 12) (hat0 : atC m.cs key = m.cs.length) :
    Calls Tryd.prog 3 #[.agg #[.slice m.A m.cs.length m.ca, .slice m.O m.os.length m.co], .string key, .int .i64 i, .int .i64 n] w fun e w' => e = .returned (.bool true) ∧ Below w.heap.size w w' := by
  have hl2 : m.os.length ≤ 9223372036854775807 := by have := hm.lo; have := hm.mo; unfold maxLen at this; omega
  have hM := MH.new hm
  have HK0 := hideP hk0
  have HI0 := hideP hin0
  have H12 := hideP h120
  have HA0 := hideP hat0
  clear hk0 hin0 h120 hat0
  have hok := chkM_ok.1 hc
  have HOK := hideP hok
  have HC0 := hideP hc
  have hfew := hok.few
  have HLEN := hideP hok.len
  have HF := hideP (fun (W : World) (h : MS W m) => shfind_any m key W h hl2)
  have HC := hideP (fun (W : World) (h : MS W m) => shcut_any m key W h hl2)
  have HG := hideP (fun (W : World) (h : MS W m) => shgive_any m i n W h hl2)
  have HR := hideP (fun (W : World) (h : MS W m) => rmap_any m W h hl2)
  have HK := hideP (fun (W : World) (h : MS W m) => shcheck_any m W h hl2)
  rw [hc] at HR HK
  clear hc hok
  obtain ⟨rf, hrf⟩ : ∃ rf, rf = findV m.cs m.os key := ⟨_, rfl⟩
  obtain ⟨rc, hrc⟩ : ∃ rc, rc = cutV m.cs m.os key := ⟨_, rfl⟩
  obtain ⟨rg, hrg⟩ : ∃ rg, rg = giveV m.cs m.os i n := ⟨_, rfl⟩
  rw [← hrf] at HF
  rw [← hrc] at HC
  rw [← hrg] at HG
  have HRF := hideP hrf
  have HRC := hideP hrc
  have HRG := hideP hrg
  clear hrf hrc hrg
  go_enter Tryd.func3, Tryd.ntmps3
  obtain ⟨z1, z2⟩ := hM.c
  go_wp2_with fail
  generalize w.alloc _ = w1 at hM z1 z2 ⊢
  generalize hg : w.heap.size = g at hM z1 z2 ⊢
  clear hg
  refine (HF.out _ hM.ms).mono ?_
  rintro e w2 ⟨rfl, hb2⟩
  replace hM := hM.below hb2
  clear hb2 z1 z2
  obtain ⟨z1, z2⟩ := hM.c
  go_wp2_with fail
  refine (HC.out _ hM.ms).mono ?_
  rintro e w3 ⟨c, rfl, hc1, hc2, hco, hb3⟩
  have hX := MX.mk_ (hco.mono hM.be.size) (hM.below hb3).be
  replace hM := (hM.below hb3).below ((Below.refl _ _).alloc (Nat.le_refl _) (.cells #[.slice c.A c.cs.length c.ca, .slice c.O c.os.length c.co] 25))
  have HC1 := hideP hc1
  have HC2 := hideP hc2
  clear hb3 z1 z2 hc1 hc2 hco
  obtain ⟨z1, z2⟩ := hM.c
  go_wp2_with fail
  generalize w3.alloc _ = w4 at hM hX z1 z2 ⊢
  generalize w3.heap.size = gc at hX ⊢
  refine (HG.out _ hM.ms).mono ?_
  rintro e w5 ⟨v, rfl, hv1, hv2, hvo, hb5⟩
  have hV := MX.mk_ (hvo.mono hM.be.size) (hM.below hb5).be
  have hS : SA w g m gc c w5.heap.size v _ := ⟨(hM.below hb5).below ((Below.refl _ _).alloc (Nat.le_refl _) _), (hX.below hb5).alloc, hV⟩
  have HV1 := hideP hv1
  have HV2 := hideP hv2
  clear hb5 z1 z2 hv1 hv2 hvo hV hX hM
  obtain ⟨z1, z2⟩ := hS.mh.c
  go_wp2_with fail
  generalize w5.alloc _ = w6 at hS z1 z2 ⊢
  generalize w5.heap.size = gg at hS ⊢
  refine (HR.out _ hS.mh.ms).mono ?_
  rintro e w7 ⟨rfl, hb7⟩
  replace hS := hS.below hb7
  clear z1 z2 hb7
  obtain ⟨z1, z2⟩ := hS.mh.c
  go_wp2_with fail
  refine (HK.out _ hS.mh.ms).mono ?_
  rintro e w8 ⟨rfl, hb8⟩
  replace hS := hS.below hb8
  clear z1 z2 hb8
  go_wp2_with fail
  refine (check_none _).mono ?_
  rintro e w9 ⟨rfl, hb9⟩
  replace hS := hS.below hb9
  clear hb9 HF HC HG HR HK
  obtain ⟨z1, z2⟩ := hS.mh.c
  go_upto_region 9 with fail
  go_cut [93] (fun v wc => v = .bool (argB m.os i n) ∧ w9 = wc)
  case first =>
    by_cases h1 : i < 0
    · go_wp2_with fail
      go_meet
      case rel => exact ⟨by simp [argB, h1], rfl⟩
    by_cases h2 : (m.os.length : Int) ≤ i
    · have g1 : decide (i < 0) = false := by simp; omega
      go_wp2_with fail
      go_meet
      case rel => exact ⟨by simp [argB, h2], rfl⟩
    by_cases h3 : n < 0
    · have g1 : decide (i < 0) = false := by simp; omega
      have g2 : decide ((m.os.length : Int) ≤ i) = false := by simp; omega
      go_wp2_with fail
      go_meet
      case rel => exact ⟨by simp [argB, h3], rfl⟩
    have g1 : decide (i < 0) = false := by simp; omega
    have g2 : decide ((m.os.length : Int) ≤ i) = false := by simp; omega
    have g3 : decide (n < 0) = false := by simp; omega
    by_cases h4 : 3 < n
    · go_wp2_with fail
      go_meet
      case rel => exact ⟨by simp [argB, h4], rfl⟩
    · go_wp2_with fail
      go_meet
      case rel => exact ⟨by rw [argB, g1, g2, g3]; simp [h4], rfl⟩
  case rest =>
    obtain ⟨rfl, rfl⟩ := hcut
    clear z1 z2
    go_upto_if 93 with fail
    go_cut [16] (fun _ wc => SA w g m gc c gg v wc)
    case first =>
      cases hB : argB m.os i n with
      | true =>
        have hrg : rg = (([], []), 1) := by rw [HRG.out]; exact giveV_arg HC0.out (argB_yes hB)
        subst hrg
        dsimp only
        have HSV := hideP (fun (W : World) (h : MS W v) => same_none v W h HV1.out HV2.out)
        clear hB HRG HV1 HV2
        obtain ⟨y1, y2⟩ := hS.mg.c
        go_wp2_with fail
        refine (HSV.out _ hS.mg.ms).mono ?_
        rintro e w10 ⟨rfl, hb10⟩
        have hS1 := hS.below hb10
        dsimp only
        go_wp2_with fail
        go_meet
        case rel => exact hS1
      | false =>
        obtain ⟨hna, hi0, hil, hn0, hn3⟩ := argB_no hB
        have hrg : rg = ((m.cs, m.os.set i.toNat n), 0) := by rw [HRG.out]; exact giveV_ok HC0.out hna
        subst hrg
        dsimp only
        clear hB HRG hna
        obtain ⟨k, rfl⟩ : ∃ k : Nat, i = (k : Int) := ⟨i.toNat, by omega⟩
        have hk : k < m.os.length := by omega
        rw [Int.toNat_natCast] at HV1 HV2
        have hlo := hm.lo
        have hl13 : m.os.length ≤ 13 := by have := HLEN.out; omega
        have u1 := fun w => slice_uptoI m.O m.os.length m.co k (by omega) hm.no w
        obtain ⟨bO, oO, eO, hx1, hx2⟩ := hm.own 0 (m.os[0]'(by omega)) (by simp [show 0 < m.os.length by omega])
        have u2 := fun w => slice_some bO oO m.os.length m.co (k + 1) (by omega) hlo w
        have pk : IntKind.i64.wrap ((k : Int) + 1) = (k : Int) + 1 := by simp only [IntKind.wrap_i64]; omega
        rw [eO] at u1
        rw [show ((k + 1 : Nat) : Int) = (k : Int) + 1 by omega] at u2
        obtain ⟨O2, hO2⟩ : ∃ O2, O2 = (if m.co = k + 1 then some (⟨bO, oO, none⟩ : Addr) else some ⟨bO, oO + (k + 1), none⟩) := ⟨_, rfl⟩
        rw [← hO2] at u2
        have HP := hideP (fun (W : World) (h : SA w g m gc c gg v W) (o q : Nat) (ho : o < W.heap.size) (hq : q < W.heap.size) (c0 : W.cell? ⟨o, 0, none⟩ = some (.slice (some ⟨bO, oO, none⟩) k m.co)) (c1 : W.cell? ⟨o, 1, none⟩ = some (.slice (some ⟨q, 0, none⟩) 1 1)) (c2 : W.cell? ⟨o, 2, none⟩ = some (.slice O2 (m.os.length - (k + 1)) (m.co - (k + 1)))) (ck : W.cell? ⟨q, 0, none⟩ = some (.int .i64 n)) =>
          show Calls Tryd.prog 12 #[.slice (some ⟨o, 0, none⟩) 3 3] W fun e w' => ∃ A c', e = .returned (.slice A m.os.length c') ∧ OR w' w.heap.size 3 A c' ((m.os.set k n).map (Value.int .i64)) ∧ SA w g m gc c gg v w' ∧ Below W.heap.size W w' from by
            have := iconcat3 W o (some ⟨bO, oO, none⟩) (some ⟨q, 0, none⟩) O2 m.co 1 (m.co - (k + 1)) (m.os.take k) [n] (m.os.drop (k + 1)) ho (by rw [List.length_take, Nat.min_eq_left (by omega)]; exact c0) c1 (by rw [List.length_drop]; exact c2)
              (by rw [List.map_take, ← eO]; exact h.mh.ms.own.vs.take_ _) (fun i v hv => by
                match i with
                | 0 => simp at hv; subst hv; exact ⟨q, 0, rfl, hq, ck⟩
                | i + 1 => simp at hv) (by
                rw [hO2]
                by_cases e : m.co = k + 1
                · rw [List.drop_of_length_le (by omega)]; exact VS.nil
                · rw [if_neg e]
                  have hI := h.mh.ms.own
                  rw [eO] at hI
                  exact (hI.drop_ _).vs) (by rw [List.length_take, List.length_drop, List.length_singleton]; omega)
            rw [give_cat hk, List.length_set] at this
            exact this.mono fun e w' ⟨A, c', h1, h2, h3⟩ => ⟨A, c', h1, h2.mono h.mh.be.size, h.below h3, h3⟩)
        have HS := hideP (fun (W : World) (h : SA w g m gc c gg v W) => show W.cell? ⟨g, 1, none⟩ = some (.slice (some ⟨bO, oO, none⟩) m.os.length m.co) from by rw [← eO]; exact h.mh.c.2)
        have HEO := hideP eO
        clear hx1 hx2 hO2 eO
        go_wp2_with fail
        go_region_held3 (fun w' => w'.cell? ⟨g, 1, none⟩ = some (.slice (some ⟨bO, oO, none⟩) m.os.length m.co)) (first | (refine HS.out _ ?_; (repeat first | with_reducible exact hS2 | with_reducible exact hS1 | with_reducible exact hS | with_reducible apply SA.alloc | with_reducible apply SA.drew))) (first
          | (go_at_call 12
             refine (HP.out _ (by (repeat first | with_reducible exact hS2 | with_reducible exact hS1 | with_reducible exact hS | with_reducible apply SA.alloc | with_reducible apply SA.drew)) _ w9.heap.size (by simp <;> omega) (by simp <;> omega) (by first | exact cell_dr (cell_nw (by simp) rfl) | exact cell_dr (cell_ol (by simp <;> omega) (cell_nw (by simp) rfl)) | exact cell_dr (cell_ol (by simp <;> omega) (cell_ol (by simp <;> omega) (cell_nw (by simp) rfl))) | exact cell_nw (by simp) rfl) (by first | exact cell_dr (cell_nw (by simp) rfl) | exact cell_dr (cell_ol (by simp <;> omega) (cell_nw (by simp) rfl)) | exact cell_dr (cell_ol (by simp <;> omega) (cell_ol (by simp <;> omega) (cell_nw (by simp) rfl))) | exact cell_nw (by simp) rfl) (by first | exact cell_dr (cell_nw (by simp) rfl) | exact cell_dr (cell_ol (by simp <;> omega) (cell_nw (by simp) rfl)) | exact cell_dr (cell_ol (by simp <;> omega) (cell_ol (by simp <;> omega) (cell_nw (by simp) rfl))) | exact cell_nw (by simp) rfl) (by first | exact cell_dr (cell_nw (by simp) rfl) | exact cell_dr (cell_ol (by simp <;> omega) (cell_nw (by simp) rfl)) | exact cell_dr (cell_ol (by simp <;> omega) (cell_ol (by simp <;> omega) (cell_nw (by simp) rfl))) | exact cell_nw (by simp) rfl)).mono ?_
             rintro e w10 ⟨A', c', rfl, hA, hS1, hb10⟩
             dsimp only))
        have hb : MS w10 ⟨m.A, m.ca, m.cs, A', c', m.os.set k n⟩ := by
          obtain ⟨k1, k2, k3, _⟩ := hA.caps
          rw [List.length_map] at k1
          exact ⟨hS1.mh.ms.cuts, hA.vs.is_int, hm.lc, k1, hm.mc, k2, hm.nc, k3⟩
        have HSE := hideP (same_eq v ⟨m.A, m.ca, m.cs, A', c', m.os.set k n⟩ w10 hS1.mg.ms hb HV1.out HV2.out)
        simp only [List.length_set] at HSE
        obtain ⟨y1, y2⟩ := hS1.mg.c
        obtain ⟨z1, z2⟩ := hS1.mh.c
        clear HV1 HV2 HP HS hb hA u1 u2
        go_wp2_with fail
        refine HSE.out.mono ?_
        rintro e w11 ⟨rfl, hb11⟩
        have hS2 := hS1.below hb11
        dsimp only
        go_wp2_with fail
        go_meet
        case rel => exact hS2
    case rest =>
      have hS := hcut
      clear HV1 HV2 HRG
      go_wp2_with fail
      refine (rkeyR_any key _).mono ?_
      rintro e w10 ⟨rfl, hb10⟩
      dsimp only
      replace hS := hS.below hb10
      clear hb10 hcut
      cases hk : keyB key with
      | false => exact absurd HK0.out (by rw [hk]; simp)
      | true =>
        have hrf : rf = (whV m.cs m.os key, 0) := by rw [HRF.out]; exact findV_ok HC0.out hk
        subst hrf
        dsimp only
        have HW := hideP (fun (W : World) (h : MS W m) => rwhose_any m key W h HOK.out)
        generalize whV m.cs m.os key = x at HW
        clear HRF
        have dx : (x != x) = false := by simp
        obtain ⟨z1, z2⟩ := hS.mh.c
        go_wp2_with fail
        refine (HW.out _ hS.mh.ms).mono ?_
        rintro e w11 ⟨rfl, hb11⟩
        dsimp only
        replace hS := hS.below hb11
        clear hb11 z1 z2 HW
        obtain ⟨z1, z2⟩ := hS.mh.c
        go_wp2_with fail
        refine (scontains_any m.A m.ca m.cs key _ hS.mh.ms.cuts (by omega)).mono ?_
        rintro e w12 ⟨rfl, rfl⟩
        dsimp only
        cases hin : inB key m.cs with
        | true => exact absurd HI0.out (by rw [hin]; simp)
        | false =>
          by_cases h12 : m.cs.length = 12
          · exact absurd h12 H12.out
          · have hrc : rc = ((cutC m.cs key, cutO m.cs m.os key), 0) := by rw [HRC.out]; exact cutV_ok HC0.out hk hin (by omega)
            subst hrc
            dsimp only
            dsimp only at HC1 HC2
            have e12 : ((m.cs.length : Int) == 12) = false := by simp; omega
            have HNI := hideP (show ∀ q (hq : q < m.cs.length), m.cs[q] ≠ key from fun q hq e => by
              have : key ∈ m.cs := by rw [← e]; exact List.getElem_mem hq
              rw [inB_iff.2 this] at hin; cases hin)
            clear hin HRC hk h12
            go_wp2_with fail
            go_loopw [17] (fun i wr => ∃ j : Nat, j ≤ m.cs.length ∧ i = .int .i64 j ∧ (∀ q (hq : q < m.cs.length), q < j → leB m.cs[q] key = true) ∧ w11 = wr) (fun i _ => m.cs.length - (intOf i).toNat)
            case atStart => exact ⟨0, Nat.zero_le _, rfl, fun q hq h => by omega, rfl⟩
            case round =>
              obtain ⟨j, hj, rfl, hall, rfl⟩ := hrel
              have HALL := hideP hall
              clear hall
              obtain ⟨wr, rfl⟩ : ∃ wr, wr = w11 := ⟨_, rfl⟩
              by_cases hjl : j < m.cs.length
              · obtain ⟨b1, o1, e1, hx0, q1⟩ := hS.mh.ms.cuts j (.string m.cs[j]) (by simp [hjl])
                have HAT := hideP (fun (h : ltB m.cs[j] key = false) => show atC m.cs key = j from atC_of hj HALL.out (fun _ => by
                  cases h2 : ltB key m.cs[j] with
                  | true => exact leB_no.2 h2
                  | false => exact absurd (ltB_total h h2) (HNI.out j hjl)))
                have HNX := hideP (fun (h : ltB m.cs[j] key = true) => show ∀ q (hq : q < m.cs.length), q < j + 1 → leB m.cs[q] key = true from fun q hq hlt => by
                  rcases Nat.lt_or_eq_of_le (Nat.le_of_lt_succ hlt) with hl | rfl
                  · exact HALL.out q hq hl
                  · exact leB_iff.2 (ltB_asymm h))
                have z1' := z1
                rw [e1] at z1'
                have HE1 := hideP e1
                clear e1 hx0
                generalize m.cs[j] = cj at q1 HAT HNX
                have g3 : (0 : Int) ≤ (j : Int) := by omega
                have g4 : (j : Int) < (m.cs.length : Int) := by omega
                cases hc : ltB cj key
                · exact absurd (HAT.out hc) (by have := HA0.out; omega)
                · have d1 : Op.bytesLess cj.toList key.toList = true := hc
                  have HX := hideP (HNX.out hc)
                  clear hc HAT HNX z1
                  go_wp2_with fail
                  go_roundw
                  case rel => exact ⟨j + 1, by omega, by go_num, HX.out, trivial⟩
                  case measure => simp [intOf]; omega
              · have hat : atC m.cs key = j := atC_of hj HALL.out (fun h => absurd h hjl)
                have g4 : decide ((j : Int) < (m.cs.length : Int)) = false := by simp; omega
                clear HNI HALL
                have hl := HLEN.out
                have hlc := hm.lc
                have hlo := hm.lo
                have u1 := fun w => slice_uptoS m.A m.cs.length m.ca j (by omega) hm.nc w
                obtain ⟨A2, u2, hx3, v2⟩ := slice_fromS (m := j) hm.cuts hj hlc hm.nc
                have u3 := fun w => slice_uptoI m.O m.os.length m.co (j + 1) (by omega) hm.no w
                obtain ⟨bO, oO, eO, hx1, hx2⟩ := hm.own 0 (m.os[0]'(by omega)) (by simp [show 0 < m.os.length by omega])
                have u4 := fun w => slice_some bO oO m.os.length m.co j (by omega) hlo w
                have pk : IntKind.i64.wrap ((j : Int) + 1) = (j : Int) + 1 := by simp only [IntKind.wrap_i64]; omega
                rw [eO, show ((j + 1 : Nat) : Int) = (j : Int) + 1 by omega] at u3
                obtain ⟨O2, hO2⟩ : ∃ O2, O2 = (if m.co = j then some (⟨bO, oO, none⟩ : Addr) else some ⟨bO, oO + j, none⟩) := ⟨_, rfl⟩
                rw [← hO2] at u4
                have HP1 := hideP (fun (W : World) (h : SA w g m gc c gg v W) (o q : Nat) (ho : o < W.heap.size) (hq : q < W.heap.size) (c0 : W.cell? ⟨o, 0, none⟩ = some (.slice m.A j m.ca)) (c1 : W.cell? ⟨o, 1, none⟩ = some (.slice (some ⟨q, 0, none⟩) 1 1)) (c2 : W.cell? ⟨o, 2, none⟩ = some (.slice A2 (m.cs.length - j) (m.ca - j))) (ck : W.cell? ⟨q, 0, none⟩ = some (.string key)) =>
                  show Calls Tryd.prog 16 #[.slice (some ⟨o, 0, none⟩) 3 3] W fun e w' => ∃ A c', e = .returned (.slice A (m.cs.length + 1) c') ∧ OR w' w.heap.size 9 A c' ((cutC m.cs key).map Value.string) ∧ SA w g m gc c gg v w' ∧ Below W.heap.size W w' from by
                    have := sconcat3 W o m.A (some ⟨q, 0, none⟩) A2 m.ca 1 (m.ca - j) (m.cs.take j) [key] (m.cs.drop j) ho (by rw [List.length_take, Nat.min_eq_left hj]; exact c0) c1 (by rw [List.length_drop]; exact c2)
                      (by rw [List.map_take]; exact h.mh.ms.cuts.take_ _) (fun i v hv => by
                        match i with
                        | 0 => simp at hv; subst hv; exact ⟨q, 0, rfl, hq, ck⟩
                        | i + 1 => simp at hv) (v2 W h.mh.ms.cuts) (by rw [List.length_take, List.length_drop, List.length_singleton]; omega)
                    have el : m.cs.take j ++ ([key] ++ m.cs.drop j) = cutC m.cs key := by unfold cutC; rw [hat]
                    rw [el, cutC_len] at this
                    exact this.mono fun e w' ⟨A, c', h1, h2, h3⟩ => ⟨A, c', h1, h2.mono h.mh.be.size, h.below h3, h3⟩)
                have HP2 := hideP (fun (W : World) (h : SA w g m gc c gg v W) (o : Nat) (ho : o < W.heap.size) (c0 : W.cell? ⟨o, 0, none⟩ = some (.slice (some ⟨bO, oO, none⟩) (j + 1) m.co)) (c1 : W.cell? ⟨o, 1, none⟩ = some (.slice O2 (m.os.length - j) (m.co - j))) =>
                  show Calls Tryd.prog 12 #[.slice (some ⟨o, 0, none⟩) 2 2] W fun e w' => ∃ A c', e = .returned (.slice A (m.os.length + 1) c') ∧ OR w' w.heap.size 3 A c' ((cutO m.cs m.os key).map (Value.int .i64)) ∧ SA w g m gc c gg v w' ∧ Below W.heap.size W w' from by
                    have := iconcat2_at W o (some ⟨bO, oO, none⟩) O2 m.co (m.co - j) (m.os.take (j + 1)) (m.os.drop j) ho (by rw [List.length_take, Nat.min_eq_left (by omega)]; exact c0) (by rw [List.length_drop]; exact c1)
                      (by rw [List.map_take, ← eO]; exact h.mh.ms.own.vs.take_ _) (by
                        rw [hO2]
                        by_cases e : m.co = j
                        · rw [List.drop_of_length_le (by omega)]; exact VS.nil
                        · rw [if_neg e]
                          have hI := h.mh.ms.own
                          rw [eO] at hI
                          exact (hI.drop_ _).vs) (by rw [List.length_take, List.length_drop]; omega)
                    have el : m.os.take (j + 1) ++ m.os.drop j = cutO m.cs m.os key := by unfold cutO; rw [hat]
                    rw [el, cutO_len HLEN.out] at this
                    exact this.mono fun e w' ⟨A, c', h1, h2, h3⟩ => ⟨A, c', h1, h2.mono h.mh.be.size, h.below h3, h3⟩)
                have HS := hideP (fun (W : World) (h : SA w g m gc c gg v W) => show W.cell? ⟨gc, 0, none⟩ = some (.slice c.A c.cs.length c.ca) ∧ W.cell? ⟨gc, 1, none⟩ = some (.slice c.O c.os.length c.co) ∧ W.cell? ⟨g, 0, none⟩ = some (.slice m.A m.cs.length m.ca) ∧ W.cell? ⟨g, 1, none⟩ = some (.slice (some ⟨bO, oO, none⟩) m.os.length m.co) from by rw [← eO]; exact ⟨h.mc.c.1, h.mc.c.2, h.mh.c.1, h.mh.c.2⟩)
                have HSM := hideP (fun (W : World) (h : SA w g m gc c gg v W) (A O : Option Addr) (ca co : Nat) (hA : OR W w.heap.size 9 A ca ((cutC m.cs key).map Value.string)) (hO : OR W w.heap.size 3 O co ((cutO m.cs m.os key).map (Value.int .i64))) =>
                  show Calls Tryd.prog 11 #[.agg #[.slice c.A c.cs.length c.ca, .slice c.O c.os.length c.co], .agg #[.slice A (m.cs.length + 1) ca, .slice O (m.os.length + 1) co]] W fun e w' => e = .returned (.bool true) ∧ Below W.heap.size W w' from by
                    have := same_eq c ⟨A, ca, cutC m.cs key, O, co, cutO m.cs m.os key⟩ W h.mc.ms (MO.ms (B := w.heap.size) ⟨hA, hO⟩) HC1.out HC2.out
                    simp only [cutC_len, cutO_len HLEN.out] at this
                    exact this)
                clear hx1 hx2 hx3 hl hlc hlo v2 eO hO2 hat
                generalize cutC m.cs key = cl at HP1 HSM
                generalize cutO m.cs m.os key = ol at HP2 HSM
                go_wp2_with fail
                go_region_held3 (fun w' => w'.cell? ⟨gc, 0, none⟩ = some (.slice c.A c.cs.length c.ca) ∧ w'.cell? ⟨gc, 1, none⟩ = some (.slice c.O c.os.length c.co) ∧ w'.cell? ⟨g, 0, none⟩ = some (.slice m.A m.cs.length m.ca) ∧ w'.cell? ⟨g, 1, none⟩ = some (.slice (some ⟨bO, oO, none⟩) m.os.length m.co)) (first | (refine HS.out _ ?_; (repeat first | with_reducible exact hS3 | with_reducible exact hS2 | with_reducible exact hS1 | with_reducible exact hS | with_reducible apply SA.alloc | with_reducible apply SA.drew))) (first
                  | (go_at_call 16
                     first
                       | (refine (HP1.out _ (by (repeat first | with_reducible exact hS3 | with_reducible exact hS2 | with_reducible exact hS1 | with_reducible exact hS | with_reducible apply SA.alloc | with_reducible apply SA.drew)) _ wr.heap.size (by simp <;> omega) (by simp <;> omega) (by first | exact cell_dr (cell_nw (by simp) rfl) | exact cell_dr (cell_ol (by simp <;> omega) (cell_nw (by simp) rfl)) | exact cell_dr (cell_ol (by simp <;> omega) (cell_ol (by simp <;> omega) (cell_nw (by simp) rfl))) | exact cell_nw (by simp) rfl) (by first | exact cell_dr (cell_nw (by simp) rfl) | exact cell_dr (cell_ol (by simp <;> omega) (cell_nw (by simp) rfl)) | exact cell_dr (cell_ol (by simp <;> omega) (cell_ol (by simp <;> omega) (cell_nw (by simp) rfl))) | exact cell_nw (by simp) rfl) (by first | exact cell_dr (cell_nw (by simp) rfl) | exact cell_dr (cell_ol (by simp <;> omega) (cell_nw (by simp) rfl)) | exact cell_dr (cell_ol (by simp <;> omega) (cell_ol (by simp <;> omega) (cell_nw (by simp) rfl))) | exact cell_nw (by simp) rfl) (by first | exact cell_dr (cell_nw (by simp) rfl) | exact cell_dr (cell_ol (by simp <;> omega) (cell_nw (by simp) rfl)) | exact cell_dr (cell_ol (by simp <;> omega) (cell_ol (by simp <;> omega) (cell_nw (by simp) rfl))) | exact cell_nw (by simp) rfl)).mono ?_)
                       | (refine (HP1.out _ (by (repeat first | with_reducible exact hS3 | with_reducible exact hS2 | with_reducible exact hS1 | with_reducible exact hS | with_reducible apply SA.alloc | with_reducible apply SA.drew)) _ (wr.heap.size + 1) (by simp <;> omega) (by simp <;> omega) (by first | exact cell_dr (cell_nw (by simp) rfl) | exact cell_dr (cell_ol (by simp <;> omega) (cell_nw (by simp) rfl)) | exact cell_dr (cell_ol (by simp <;> omega) (cell_ol (by simp <;> omega) (cell_nw (by simp) rfl))) | exact cell_nw (by simp) rfl) (by first | exact cell_dr (cell_nw (by simp) rfl) | exact cell_dr (cell_ol (by simp <;> omega) (cell_nw (by simp) rfl)) | exact cell_dr (cell_ol (by simp <;> omega) (cell_ol (by simp <;> omega) (cell_nw (by simp) rfl))) | exact cell_nw (by simp) rfl) (by first | exact cell_dr (cell_nw (by simp) rfl) | exact cell_dr (cell_ol (by simp <;> omega) (cell_nw (by simp) rfl)) | exact cell_dr (cell_ol (by simp <;> omega) (cell_ol (by simp <;> omega) (cell_nw (by simp) rfl))) | exact cell_nw (by simp) rfl) (by first | exact cell_dr (cell_nw (by simp) rfl) | exact cell_dr (cell_ol (by simp <;> omega) (cell_nw (by simp) rfl)) | exact cell_dr (cell_ol (by simp <;> omega) (cell_ol (by simp <;> omega) (cell_nw (by simp) rfl))) | exact cell_nw (by simp) rfl)).mono ?_)
                     rintro e w4 ⟨A', ca', rfl, hA, hS1, hb4⟩
                     dsimp only)
                  | (go_at_call 12
                     first
                       | (refine (HP2.out _ (by (repeat first | with_reducible exact hS3 | with_reducible exact hS2 | with_reducible exact hS1 | with_reducible exact hS | with_reducible apply SA.alloc | with_reducible apply SA.drew)) _ (by simp <;> omega) (by first | exact cell_dr (cell_nw (by simp) rfl) | exact cell_dr (cell_ol (by simp <;> omega) (cell_nw (by simp) rfl)) | exact cell_dr (cell_ol (by simp <;> omega) (cell_ol (by simp <;> omega) (cell_nw (by simp) rfl))) | exact cell_nw (by simp) rfl) (by first | exact cell_dr (cell_nw (by simp) rfl) | exact cell_dr (cell_ol (by simp <;> omega) (cell_nw (by simp) rfl)) | exact cell_dr (cell_ol (by simp <;> omega) (cell_ol (by simp <;> omega) (cell_nw (by simp) rfl))) | exact cell_nw (by simp) rfl)).mono ?_)
                       | (refine (HP2.out _ hS1 _ ?_ ((hb4.cell (by simp <;> omega)).trans (by first | exact cell_dr (cell_nw (by simp) rfl) | exact cell_dr (cell_ol (by simp <;> omega) (cell_nw (by simp) rfl)) | exact cell_dr (cell_ol (by simp <;> omega) (cell_ol (by simp <;> omega) (cell_nw (by simp) rfl))) | exact cell_nw (by simp) rfl)) ((hb4.cell (by simp <;> omega)).trans (by first | exact cell_dr (cell_nw (by simp) rfl) | exact cell_dr (cell_ol (by simp <;> omega) (cell_nw (by simp) rfl)) | exact cell_dr (cell_ol (by simp <;> omega) (cell_ol (by simp <;> omega) (cell_nw (by simp) rfl))) | exact cell_nw (by simp) rfl))).mono ?_
                          · refine Nat.lt_of_lt_of_le ?_ hb4.size; (simp <;> omega))
                     rintro e w5 ⟨O', co', rfl, hO, hS2, hb5⟩
                     have hA2 : OR w5 w.heap.size 9 A' ca' (cl.map Value.string) := by first | exact hA.below hb5 | exact (hA.below ((Below.refl _ _).alloc (Nat.le_refl _) _)).below hb5
                     dsimp only)
                  | (go_at_call 11
                     refine (HSM.out _ hS2 A' O' ca' co' hA2 hO).mono ?_
                     rintro e w6 ⟨rfl, hb6⟩
                     have hS3 := hS2.below hb6
                     dsimp only))
                all_goals
                  have hbe := hS3.mh.be
                  go_wp2_with fail
                  go_ret
                  exact ⟨rfl, hbe⟩
end Go.Proofs.YtoelnhnbefkfoaaDoor
