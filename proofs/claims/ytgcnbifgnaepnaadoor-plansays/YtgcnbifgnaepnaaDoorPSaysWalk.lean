/-
  rolaw.PlanSays: the law answers true.
-/
import Derived.Test.YtgcnbifgnaepnaaDoorPRounds
import Derived.Test.YtgcnbifgnaepnaaDoorPOrder
import Derived.Test.YtgcnbifgnaepnaaDoorRDs
import Derived.Test.YtgcnbifgnaepnaaDoorRRounds
import Derived.Test.YtgcnbifgnaepnaaDoorROrd
import Derived.Test.YtgcnbifgnaepnaaDoorIEq
set_option linter.unusedVariables false
set_option linter.unusedSimpArgs false
namespace Go.Proofs.YtgcnbifgnaepnaaDoor
open Go.RowKit Go.WideMaps Go.Maps

theorem DS.nil (w : World) (A : Option Addr) : DS w A [] := ⟨VS.nil, by simp⟩
def PSInv (w : World) (n : Nat) (zs : List Int) (i : Value) (wr : World) : Prop := ∃ k : Nat, k ≤ zs.length ∧ i = .int .i64 k ∧ chkOe n [] zs = chkOe n (zs.take k) (zs.drop k) ∧ w = wr
set_option maxHeartbeats 2000000 in
set_option maxRecDepth 100000 in
theorem psays_any (D O : Option Addr) (cd co : Nat) (ds : List Dl) (zs : List Int) (w : World) (hD : DS w D ds) (hld : ds.length ≤ 9223372036854775807) (hO : IS w O zs) (hl : zs.length ≤ co) (hco : co ≤ 9223372036854775807) (h0 : O = none → co = 0) :
    Calls Tryd.prog 4 #[.slice D ds.length cd, .slice O zs.length co] w fun e w' => e = .returned (.bool true) ∧ Below w.heap.size w w' := by
  have HNIL := hideP (fun (w' : World) => porder_any none none 0 0 [] [] w' (DS.nil w' none) (by decide +kernel) IS.nil (Nat.le_refl _) (by omega) (fun _ => rfl))
  rw [show orV (ddOf []) [] = (true, 0) by decide +kernel] at HNIL
  have HRDS := hideP (fun (w' : World) hD => show Calls Tryd.prog 20 #[.slice D ds.length cd] w' fun e w'' => e = .returned (.int .i64 (chkP (ddOf ds))) ∧ Below w'.heap.size w' w'' from rdeeds_any D cd ds w' hD)
  by_cases hcp : chkP (ddOf ds) = 0
  · obtain ⟨hn, hchk⟩ := chkP_zero.1 hcp
    rw [ddOf_len] at hn
    have HR := hideP (rounds_ok D cd ds w hD hcp)
    have HO := hideP (fun (w' : World) hD hO => porder_any D O cd co ds zs w' hD hcp hO hl hco h0)
    have HRR := hideP (fun (w' : World) hD => rrounds_any D cd ds w' hD hcp)
    have HRO := hideP (fun (w' : World) hD hO hch => rordered_any D O cd co ds zs w' hD hcp hO hch)
    rw [hcp] at HRDS
    obtain ⟨iv, fv, hv⟩ : ∃ iv fv, orV (ddOf ds) zs = (iv, fv) := ⟨_, _, rfl⟩
    rw [hv] at HO
    have HV := hideP hv
    clear hcp hchk hv
    go_enter Tryd.func4, Tryd.ntmps4
    go_wp2_with fail
    refine HR.out.mono ?_
    rintro e w1 ⟨gb, c1, he, hor1, hb1⟩
    rw [ddOf_len] at he hor1
    subst he
    have hD1 := hD.below hb1
    have hO1 := hO.below hb1
    clear HR
    go_wp2_with fail
    refine (HO.out _ hD1 hO1).mono ?_
    rintro e w2 ⟨rfl, hb2⟩
    have hb3 := hb1.trans (hb2.mono hb1.size)
    clear HO
    go_wp2_with fail
    refine (HNIL.out _).mono ?_
    rintro e w3 ⟨rfl, hb4⟩
    have hb5 := hb3.trans (hb4.mono hb3.size)
    have hD3 := hD.below hb5
    clear HNIL
    go_wp2_with fail
    refine (HRDS.out _ hD3).mono ?_
    rintro e w4 ⟨rfl, hb6⟩
    have hb7 := hb5.trans (hb6.mono hb5.size)
    have hD4 := hD.below hb7
    clear HRDS hD3
    go_wp2_with fail
    refine (HRR.out _ hD4).mono ?_
    rintro e w5 ⟨A5, c5, he, hor5, hb8⟩
    rw [lvL_len] at he
    subst he
    have hb9 := hb7.trans (hb8.mono hb7.size)
    have hor15 := (((hor1.below hb2).below hb4).below hb6).below hb8
    have HQ := hideP (iequal_same (some ⟨gb, 0, none⟩) A5 c1 c5 (lvL (ddOf ds) ds.length) w5 hor15.vs hor5.vs (by rw [lvL_len]; omega))
    rw [lvL_len] at HQ
    clear HRR hD4 hor1 hor5 hor15 hb2 hb4 hb6 hb8 hb1 hb3 hb5 hb7 hD1 hO1
    go_wp2_with fail
    refine HQ.out.mono ?_
    rintro e w6 ⟨rfl, hb10⟩
    have hb11 := hb9.trans (hb10.mono hb9.size)
    have hD6 := hD.below hb11
    have hO6 := hO.below hb11
    clear HQ hb9 hb10 hD hO
    by_cases hz : zs.length = ds.length
    · have d1 : ((zs.length : Int) != (ds.length : Int)) = false := by simp [hz]
      have HCR := hideP (show chkOr ds.length zs = chkOe ds.length [] zs by unfold chkOr; rw [if_pos hz])
      have hz1 : zs.length ≤ 60 := by omega
      clear hz
      go_wp2_with fail
      go_loopw [78] (PSInv w6 ds.length zs) (fun i _ => zs.length - (intOf i).toNat)
      case atStart => exact ⟨0, Nat.zero_le _, rfl, rfl, rfl⟩
      case round =>
        obtain ⟨k, hk, rfl, hchk, rfl⟩ := hrel
        by_cases hkl : k < zs.length
        · rw [chkOe_next _ hkl] at hchk
          have HK := hideP hchk
          clear hchk
          have hsl := slice_upto O zs.length co k (by omega) h0
          have htk := hO6.take_ k
          have htl : (zs.take k).length = k := by rw [List.length_take]; omega
          obtain ⟨b, o, rfl, hbl, q1⟩ := hO6 k zs[k] (List.getElem?_eq_getElem hkl)
          have HCN := hideP (icontains_any (some ⟨b, o, none⟩) co (zs.take k) zs[k] w6 htk (by omega))
          rw [htl] at HCN
          clear hO6 hD6 htk htl h0 HRO
          generalize zs[k] = z at HK q1 HCN
          have g1 : (0 : Int) ≤ (k : Int) := by omega
          have g2 : (k : Int) < (zs.length : Int) := by omega
          by_cases hz0 : z < 0 ∨ (ds.length : Int) ≤ z
          · have hF : chkOr ds.length zs = 1 := by rw [HCR.out, HK.out, if_pos hz0]
            have hov : orV (ddOf ds) zs = (false, 1) := by unfold orV; rw [ddOf_len, hF, if_neg (by decide)]
            have hvv := HV.out
            rw [hov] at hvv
            injection hvv with e1 e2
            subst e1; subst e2
            clear hF hov HK HV HCR HCN hsl
            by_cases hz1 : z < 0
            · clear hz0
              go_wp2_with fail
              go_ret
              exact ⟨rfl, hb11⟩
            · have hz2 : (ds.length : Int) ≤ z := by omega
              clear hz0
              go_wp2_with fail
              go_ret
              exact ⟨rfl, hb11⟩
          · have hz1 : ¬ z < 0 := by omega
            have hz2 : ¬ (ds.length : Int) ≤ z := by omega
            have HG := hideP (show chkOe ds.length [] zs = if inI z (zs.take k) = true then 5 else chkOe ds.length (zs.take (k + 1)) (zs.drop (k + 1)) by rw [HK.out, if_neg hz0])
            clear HK hz0
            go_wp2_with fail
            refine HCN.out.mono ?_
            rintro e w7 ⟨rfl, rfl⟩
            clear HCN
            cases hin : inI z (zs.take k)
            · rw [hin] at HG
              clear hin hsl
              go_wp2_with fail
              go_roundw
              case rel => exact ⟨k + 1, by omega, by go_num, by rw [HG.out]; rfl, rfl⟩
              case measure => simp [intOf] <;> omega
            · rw [hin] at HG
              have hF : chkOr ds.length zs = 5 := by rw [HCR.out, HG.out]; rfl
              have hov : orV (ddOf ds) zs = (false, 5) := by unfold orV; rw [ddOf_len, hF, if_neg (by decide)]
              have hvv := HV.out
              rw [hov] at hvv
              injection hvv with e1 e2
              subst e1; subst e2
              clear hF hov HV HCR hsl hin HG
              go_wp2_with fail
              go_ret
              exact ⟨rfl, hb11⟩
        · have hzk : zs.drop k = [] := List.drop_of_length_le (by omega)
          rw [hzk] at hchk
          have hF : chkOr ds.length zs = 0 := by rw [HCR.out, hchk]; rfl
          have hov : orV (ddOf ds) zs = (ordB (ddOf ds) zs, 0) := by unfold orV; rw [ddOf_len, hF, if_pos rfl]
          have hvv := HV.out
          rw [hov] at hvv
          injection hvv with e1 e2
          subst e2
          have HRO' := hideP (HRO.out _ hD6 hO6 hF)
          rw [e1] at HRO'
          have di : (iv == iv) = true := by simp
          clear hF hov HV HCR hchk hzk HRO e1 h0 hD6 hO6
          go_wp2_with fail
          refine HRO'.out.mono ?_
          rintro e w7 ⟨rfl, hb12⟩
          have hb13 := hb11.trans (hb12.mono hb11.size)
          go_wp2_with fail
          go_ret
          exact ⟨rfl, hb13⟩
    · have d1 : ((zs.length : Int) != (ds.length : Int)) = true := by simp; omega
      have hov : orV (ddOf ds) zs = (false, 3) := by
        have hF : chkOr ds.length zs = 3 := by unfold chkOr; rw [if_neg hz]
        unfold orV; rw [ddOf_len, hF, if_neg (by decide)]
      have hvv := HV.out
      rw [hov] at hvv
      injection hvv with e1 e2
      subst e1; subst e2
      clear hov HV HRO hz h0 hD6 hO6
      go_wp2_with fail
      go_ret
      exact ⟨rfl, hb11⟩
  · have HR := hideP (rounds_bad D cd ds w hD hld hcp)
    have HO := hideP (fun (w' : World) hD => porder_bad D O cd co ds zs w' hD hld hcp)
    have d1 : (chkP (ddOf ds) != 0) = true := by simp [hcp]
    have d2 : (chkP (ddOf ds) == chkP (ddOf ds)) = true := by simp
    clear hcp h0
    generalize chkP (ddOf ds) = q at HR HO HRDS d1 d2
    go_enter Tryd.func4, Tryd.ntmps4
    go_wp2_with fail
    refine HR.out.mono ?_
    rintro e w1 ⟨rfl, hb1⟩
    have hD1 := hD.below hb1
    clear HR
    go_wp2_with fail
    refine (HO.out _ hD1).mono ?_
    rintro e w2 ⟨rfl, hb2⟩
    have hb3 := hb1.trans (hb2.mono hb1.size)
    clear HO
    go_wp2_with fail
    refine (HNIL.out _).mono ?_
    rintro e w3 ⟨rfl, hb4⟩
    have hb5 := hb3.trans (hb4.mono hb3.size)
    have hD3 := hD.below hb5
    clear HNIL
    go_wp2_with fail
    refine (HRDS.out _ hD3).mono ?_
    rintro e w4 ⟨rfl, hb6⟩
    have hb7 := hb5.trans (hb6.mono hb5.size)
    clear HRDS hD3 hD1 hD hO
    go_wp2_with fail
    go_ret
    exact ⟨rfl, hb7⟩
end Go.Proofs.YtgcnbifgnaepnaaDoor
