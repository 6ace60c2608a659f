/-
  slices.Index and slices.Contains at ints; plan.checkOrder and plan.Order.
  slices.Equal at pairs: two that read the same are equal.
-/
import Derived.Test.YtefdipjhjgmokaaGreatBv53
import Derived.Test.YtefdipjhjgmokaaGreatBv50
import Derived.Test.YtefdipjhjgmokaaGreatBv2
import Derived.Test.YtefdipjhjgmokaaGreatBv51
import Derived.Deep.RegionHeld3
import Derived.Deep.QuietTactic
import Derived.BigQuiet
import Derived.Test.YtefdipjhjgmokaaGreatBv11
import Derived.WalkKit
import Derived.WalkSpells
import Derived.WalkLawsBesides
import Derived.Laws.StructEq
set_option linter.unusedVariables false
set_option linter.unusedSimpArgs false
namespace Go.Proofs.YtefdipjhjgmokaaGreat
open Go.RowKit

set_option maxHeartbeats 1000000 in
set_option maxRecDepth 100000 in
theorem checkOrder_any (O : Option Addr) (co n : Nat) (zs : List Int) (w : World) (hO : IS w O zs) (hl : zs.length ≤ co) (hco : co ≤ 9223372036854775807) (h0 : O = none → co = 0) (hn : n ≤ 60) :
    Calls Tryz.prog 35 #[.slice O zs.length co, .int .i64 (n : Int)] w fun e w' => e = .returned (.int .i64 (chkOr n zs)) ∧ w = w' := by
  by_cases hz : zs.length = n
  · have HC := hideP (show chkOr n zs = chkOe n [] zs by unfold chkOr; rw [if_pos hz])
    have d0 : ((zs.length : Int) != (n : Int)) = false := by simp [hz]
    have hz1 : zs.length ≤ n := by omega
    have hz2 : n ≤ zs.length := by omega
    clear hz
    go_enter Tryz.func35, Tryz.ntmps35
    go_wp2_with fail
    go_loop [13] (fun i => ∃ k : Nat, k ≤ zs.length ∧ i = .int .i64 k ∧ chkOe n [] zs = chkOe n (zs.take k) (zs.drop k)) (fun i => zs.length - (intOf i).toNat)
    case atStart => exact ⟨0, Nat.zero_le _, rfl, rfl⟩
    case round =>
      obtain ⟨k, hk, rfl, hchk⟩ := hrel
      by_cases hlt : k < zs.length
      · rw [chkOe_next n hlt] at hchk
        have HK := hideP hchk
        clear hchk
        have hsl := slice_upto O zs.length co k (by omega) h0
        have htk := hO.take_ k
        have htl : (zs.take k).length = k := by rw [List.length_take]; omega
        obtain ⟨b, o, rfl, hbl, q1⟩ := hO k zs[k] (List.getElem?_eq_getElem hlt)
        have HCN := hideP (icontains_any (some ⟨b, o, none⟩) co (zs.take k) zs[k] w htk (by omega))
        rw [htl] at HCN
        clear hO htk htl h0
        generalize zs[k] = z at HK q1 HCN
        have g1 : (0 : Int) ≤ (k : Int) := by omega
        have g2 : (k : Int) < (zs.length : Int) := by omega
        by_cases hz0 : z < 0
        · have HF := hideP (show chkOe n [] zs = 1 by rw [HK.out, if_pos (.inl hz0)])
          clear HK
          go_wp2_with fail
          go_ret
          exact ⟨ret_int (by rw [HC.out, HF.out]), rfl⟩
        · by_cases hzn : (n : Int) ≤ z
          · have HF := hideP (show chkOe n [] zs = 1 by rw [HK.out, if_pos (.inr hzn)])
            clear HK
            go_wp2_with fail
            go_ret
            exact ⟨ret_int (by rw [HC.out, HF.out]), rfl⟩
          · have HG := hideP (show chkOe n [] zs = if inI z (zs.take k) = true then 5 else chkOe n (zs.take (k + 1)) (zs.drop (k + 1)) by rw [HK.out, if_neg (by omega)])
            clear HK
            go_wp2_with fail
            refine HCN.out.mono ?_
            rintro e w3 ⟨rfl, rfl⟩
            clear HCN
            cases hin : inI z (zs.take k)
            · rw [hin] at HG
              clear hin hsl
              go_wp2_with fail
              go_round
              case rel => exact ⟨k + 1, by omega, by go_num, by rw [HG.out]; rfl⟩
              case measure => simp [intOf]; omega
            · rw [hin] at HG
              clear hin hsl
              go_wp2_with fail
              go_ret
              exact ⟨ret_int (by rw [HC.out, HG.out]; rfl), rfl⟩
      · go_wp2_with fail
        go_ret
        exact ⟨ret_int (by rw [HC.out, hchk, List.drop_of_length_le (by omega)]; rfl), rfl⟩
  · have HC := hideP (show chkOr n zs = 3 by unfold chkOr; rw [if_neg hz])
    have d0 : ((zs.length : Int) != (n : Int)) = true := by simp; omega
    go_enter Tryz.func35, Tryz.ntmps35
    go_wp2_with fail
    go_ret
    exact ⟨ret_int HC.out.symm, rfl⟩

set_option maxHeartbeats 1000000 in
set_option maxRecDepth 100000 in
theorem porder_bad (D O : Option Addr) (cd co : Nat) (ds : List Dl) (zs : List Int) (w : World) (hD : DS w D ds) (hl : ds.length ≤ 9223372036854775807) (hc : chkP (ddOf ds) ≠ 0) :
    Calls Tryz.prog 10 #[.slice D ds.length cd, .slice O zs.length co] w fun e w' => e = .returned (.tuple #[.bool false, .int .i64 (chkP (ddOf ds))]) ∧ Below w.heap.size w w' := by
  have HP := hideP (pcheck_any D cd ds w hD hl)
  have d0 : (chkP (ddOf ds) != 0) = true := by simp [hc]
  clear hc hD
  generalize chkP (ddOf ds) = q at HP d0 ⊢
  go_enter Tryz.func10, Tryz.ntmps10
  go_wp2_with fail
  refine HP.out.mono ?_
  rintro e w1 ⟨rfl, hb1⟩
  go_wp2_with fail
  go_ret2
  exact ⟨rfl, hb1⟩

def OrInv (w : World) (dd : List (List Opr)) (zs : List Int) (i : Value) (wr : World) : Prop := ∃ k : Nat, k ≤ zs.length ∧ i = .int .i64 k ∧ ordB dd zs = ordB dd (zs.drop k) ∧ Below w.heap.size w wr
def OrIn (w : World) (dd : List (List Opr)) (s : Int) (r : List Int) (i : Value) (wr : World) : Prop := ∃ k : Nat, k ≤ r.length ∧ i = .int .i64 k ∧ invB dd s r = invB dd s (r.drop k) ∧ Below w.heap.size w wr

set_option maxHeartbeats 2000000 in
set_option maxRecDepth 100000 in
theorem porder_any (D O : Option Addr) (cd co : Nat) (ds : List Dl) (zs : List Int) (w : World) (hD : DS w D ds) (hc : chkP (ddOf ds) = 0) (hO : IS w O zs) (hl : zs.length ≤ co) (hco : co ≤ 9223372036854775807) (h0 : O = none → co = 0) :
    Calls Tryz.prog 10 #[.slice D ds.length cd, .slice O zs.length co] w fun e w' => e = .returned (.tuple #[.bool (orV (ddOf ds) zs).1, .int .i64 (orV (ddOf ds) zs).2]) ∧ Below w.heap.size w w' := by
  obtain ⟨hn, hchk⟩ := chkP_zero.1 hc
  rw [ddOf_len] at hn
  have HP := hideP (pcheck_any D cd ds w hD (by omega))
  rw [hc] at HP
  clear hc
  by_cases hch : chkOr ds.length zs = 0
  · obtain ⟨hz, hrng, _⟩ := chkOr_zero.1 hch
    have HV := hideP (show orV (ddOf ds) zs = (ordB (ddOf ds) zs, 0) by unfold orV; rw [ddOf_len, if_pos hch])
    have HCO := hideP (fun w' hO => checkOrder_any O co ds.length zs w' hO hl hco h0 hn)
    rw [hch] at HCO
    have hz1 : zs.length ≤ ds.length := by omega
    have HRG := hideP hrng
    have HCK := hideP hchk
    clear hch hz hrng hchk h0
    go_enter Tryz.func10, Tryz.ntmps10
    go_wp2_with fail
    refine HP.out.mono ?_
    rintro e w1 ⟨rfl, hb1⟩
    have hO1 := hO.below hb1
    clear HP
    go_wp2_with fail
    refine (HCO.out _ hO1).mono ?_
    rintro e w2 ⟨rfl, rfl⟩
    clear HCO hO1
    go_wp2_with fail
    go_loopw [26] (OrInv w (ddOf ds) zs) (fun i _ => zs.length - (intOf i).toNat)
    case atStart => exact ⟨0, Nat.zero_le _, rfl, rfl, hb1⟩
    case round =>
      clear hb1
      obtain ⟨k, hk, rfl, hord, hbw⟩ := hrel
      by_cases hkl : k < zs.length
      · rw [ordB_next _ hkl] at hord
        have HO := hideP hord
        clear hord
        have hOr := hO.below hbw
        obtain ⟨T', hsl, hT'⟩ := slice_from (m := k + 1) hOr (by omega) (by omega) hl
        rw [show ((k + 1 : Nat) : Int) = (k : Int) + 1 by omega, show zs.length - (k + 1) = (zs.drop (k + 1)).length by simp] at hsl
        obtain ⟨b, o, rfl, hbl, q1⟩ := hOr k zs[k] (List.getElem?_eq_getElem hkl)
        obtain ⟨hs0, hsn⟩ := HRG.out _ (List.getElem_mem hkl)
        have hrr : ∀ x ∈ zs.drop (k + 1), 0 ≤ x ∧ x < (ds.length : Int) := fun x hx => HRG.out x (List.mem_of_mem_drop hx)
        have HRR := hideP hrr
        have hrl : (zs.drop (k + 1)).length ≤ 60 := by simp; omega
        clear hrr hOr
        generalize hrg : zs.drop (k + 1) = r at hsl hT' HO HRR hrl
        have HRE := hideP hrg
        clear hrg
        generalize zs[k] = s at q1 HO hs0 hsn
        obtain ⟨sn, rfl⟩ : ∃ n : Nat, s = n := ⟨s.toNat, by omega⟩
        have g1 : (0 : Int) ≤ (k : Int) := by omega
        have g2 : (k : Int) < (zs.length : Int) := by omega
        have HJ := hideP (show OrIn wr (ddOf ds) (sn : Int) r (.int .i64 0) wr from ⟨0, Nat.zero_le _, rfl, rfl, Below.refl _ _⟩)
        have hDr := hD.below hbw
        go_wp2_with fail
        go_loopw [36] (OrIn wr (ddOf ds) (sn : Int) r) (fun i _ => r.length - (intOf i).toNat)
        case atStart => exact HJ.out
        case round =>
          clear HJ hsl
          obtain ⟨j, hj, rfl, hinv, hbi⟩ := hrel
          have hbwi := hbw.trans (hbi.mono hbw.size)
          by_cases hjl : j < r.length
          · rw [invB_next _ _ hjl] at hinv
            have HI := hideP hinv
            clear hinv
            obtain ⟨b3, o3, rfl, hbl3, q3⟩ := hT'.below hbi j r[j] (List.getElem?_eq_getElem hjl)
            obtain ⟨hx0, hxn⟩ := HRR.out _ (List.getElem_mem hjl)
            generalize r[j] = x at q3 hx0 hxn HI
            obtain ⟨xn, rfl⟩ : ∃ n : Nat, x = n := ⟨x.toNat, by omega⟩
            rw [Int.toNat_natCast, Int.toNat_natCast] at HI
            have g3 : (0 : Int) ≤ (j : Int) := by omega
            have g4 : (j : Int) < (r.length : Int) := by omega
            by_cases hlt : xn < sn
            · have hxl : xn < ds.length := by omega
              have hsl' : sn < ds.length := by omega
              obtain ⟨⟨b1, o1, eA1, hbl1, y1⟩, hos1⟩ := (hDr.below hbi).at_ hxl
              obtain ⟨⟨b2, o2, eA2, hbl2, y2⟩, hos2⟩ := (hDr.below hbi).at_ hsl'
              rw [eA1] at eA2
              injection eA2 with eA2
              injection eA2 with e1 e2 _
              subst e1; subst e2
              have hc1 := HCK.out _ (show ds[xn].d ∈ ddOf ds from List.mem_map.2 ⟨_, List.getElem_mem hxl, rfl⟩)
              have hc2 := HCK.out _ (show ds[sn].d ∈ ddOf ds from List.mem_map.2 ⟨_, List.getElem_mem hsl', rfl⟩)
              rw [ddOf_get hxl, ddOf_get hsl'] at HI
              generalize ds[xn] = x at y1 hos1 hc1 HI
              generalize ds[sn] = y at y2 hos2 hc2 HI
              obtain ⟨Dx, cx, dx⟩ := x
              obtain ⟨Dy, cy, dy⟩ := y
              simp only [dlV] at y1 hos1 hc1 y2 hos2 hc2 HI
              rw [eA1]
              have g5 : (xn : Int) < (sn : Int) := by omega
              have gd : decide (xn < sn) = true := by simp [hlt]
              have g6 : (0 : Int) ≤ (xn : Int) := by omega
              have g7 : (0 : Int) ≤ (sn : Int) := by omega
              have hbd : Below wr.heap.size wr wr.drew := (Below.refl _ _).drew
              have HC := hideP (pclash_ok Dx Dy cx cy dx dy wr.drew (hos1.go hbd) (hos2.go hbd) hc1 hc2)
              have k1 : wr.drew.cell? ⟨b1, o1 + xn, none⟩ = some (.slice Dx dx.length cx) ∧ wr.drew.cell? ⟨b1, o1 + sn, none⟩ = some (.slice Dy dy.length cy) := ⟨y1, y2⟩
              have hlb : b1 < wr.drew.heap.size := hbl1
              have hbid := hbi.drew
              have hbwd := hbwi.drew
              clear hos1 hos2 hbd y1 y2 hc1 hc2 hbi hbwi hD hDr hO hT'
              go_wp2_with fail
              go_region_held3 (fun w' => w'.cell? ⟨b1, o1 + xn, none⟩ = some (.slice Dx dx.length cx) ∧ w'.cell? ⟨b1, o1 + sn, none⟩ = some (.slice Dy dy.length cy)) (with_reducible first | exact k1 | exact k2) (first
                | (go_at_call 36; refine HC.out.mono ?_; rintro e2 w8 ⟨rfl, hb8⟩; have k2 := And.intro ((hb8.cell (p := ⟨b1, o1 + xn, none⟩) hlb).trans k1.1) ((hb8.cell (p := ⟨b1, o1 + sn, none⟩) hlb).trans k1.2)))
              all_goals
                have hb9 := hbid.trans (hb8.mono hbid.size)
                have hb10 := hbwd.trans (hb8.mono hbwd.size)
                clear HC k1 k2 hb8
                cases hcl : clB dx dy
                · have HI' := hideP (show invB (ddOf ds) (sn : Int) r = invB (ddOf ds) (sn : Int) (r.drop (j + 1)) by rw [HI.out, hcl]; simp)
                  clear hcl HI
                  go_wp2_with fail
                  go_roundw
                  case rel => exact ⟨j + 1, by omega, by go_num, HI'.out, hb9⟩
                  case measure => simp [intOf]; omega
                · have HI' := hideP (show invB (ddOf ds) (sn : Int) r = true by rw [HI.out, hcl]; simp [hlt])
                  clear hcl HI
                  go_wp2_with fail
                  go_ret2
                  exact ⟨by rw [HV.out, HO.out, HI'.out]; rfl, hb10⟩
            · have HI' := hideP (show invB (ddOf ds) (sn : Int) r = invB (ddOf ds) (sn : Int) (r.drop (j + 1)) by rw [HI.out, decide_eq_false (by omega)]; simp)
              have gd : decide (xn < sn) = false := by simp; omega
              have gd2 : decide ((xn : Int) < (sn : Int)) = false := by simp; omega
              clear HI
              go_wp2_with fail
              go_quiet (fail)
              go_wp2_with fail
              go_roundw
              case rel => exact ⟨j + 1, by omega, by go_num, HI'.out, ⟨hbi.os, hbi.tape, hbi.output, hbi.size, hbi.block⟩⟩
              case measure => simp [intOf]; omega
          · have hjr : r.drop j = [] := List.drop_of_length_le (by omega)
            rw [hjr] at hinv
            have HN := hideP (show ordB (ddOf ds) zs = ordB (ddOf ds) (zs.drop (k + 1)) by rw [HO.out, hinv, HRE.out]; simp [invB])
            clear hinv hjr
            go_wp2_with fail
            go_roundw
            case rel => exact ⟨k + 1, by omega, by go_num, HN.out, hbwi⟩
            case measure => simp [intOf]; omega
      · have hzk : zs.drop k = [] := List.drop_of_length_le (by omega)
        rw [hzk] at hord
        have HN := hideP (show ordB (ddOf ds) zs = true by rw [hord]; rfl)
        clear hord hzk
        go_wp2_with fail
        go_ret2
        exact ⟨by rw [HV.out, HN.out]; rfl, hbw⟩
  · have HV := hideP (show orV (ddOf ds) zs = (false, chkOr ds.length zs) by unfold orV; rw [ddOf_len, if_neg hch])
    have HCO := hideP (fun w' hO => checkOrder_any O co ds.length zs w' hO hl hco h0 hn)
    have d0 : (chkOr ds.length zs != 0) = true := by simp [hch]
    clear hch hchk h0
    generalize chkOr ds.length zs = q at HV HCO d0
    go_enter Tryz.func10, Tryz.ntmps10
    go_wp2_with fail
    refine HP.out.mono ?_
    rintro e w1 ⟨rfl, hb1⟩
    have hO1 := hO.below hb1
    clear HP
    go_wp2_with fail
    refine (HCO.out _ hO1).mono ?_
    rintro e w2 ⟨rfl, rfl⟩
    clear HCO hO1
    go_wp2_with fail
    go_ret2
    exact ⟨by rw [HV.out]; rfl, hb1⟩
end Go.Proofs.YtefdipjhjgmokaaGreat

set_option linter.unusedVariables false
set_option linter.unusedSimpArgs false
namespace Go.Proofs.YtefdipjhjgmokaaGreat
open Go.RowKit

theorem run_neq_pair (k : ByteArray) (n : Int) (w : World) : (binOp .neq 53 (.agg #[.string k, .int .i64 n]) (.agg #[.string k, .int .i64 n])).run Tryz.prog w = .ok (.bool false) w := by
  have u3 := Tryz.underlying3
  have u9 := Tryz.underlying9
  have a3 := Tryz.isAgg3
  have z3 := Tryz.sizeOf3
  have a9 := Tryz.isAgg9
  have z9 := Tryz.sizeOf9
  have hS : Tryz.prog.underlying 53 = some (.struct (Tryz.prog.fieldsOf 53)) := by kernel_rfl
  have hp : Tryz.prog.stoodInHeld 53 = false := by kernel_rfl
  rw [run_neq_struct, show (10000 : Nat) = 9999 + 1 from rfl, run_equalIn_agg w 9999 53 _ _ hS hp]
  simp only [Program.fieldsOf, Tryz.underlying53]
  go_simp

theorem guard_pair (x y : Operand) (xs ys : Array Value) (w : World) : (eqGuard .neq 53 x y (.agg xs) (.agg ys)).run Tryz.prog w = .ok () w := run_eqGuard_agg w .neq 53 x y xs ys (by kernel_rfl)

set_option maxHeartbeats 400000 in
set_option maxRecDepth 100000 in
theorem equal_same (A1 A2 : Option Addr) (c1 c2 : Nat) (l : List Pr) (w : World) (h1 : PS w w.heap.size A1 l) (h2 : PS w w.heap.size A2 l) (hl : l.length < 4611686018427387904) :
    Calls Tryz.prog 12 #[.slice A1 l.length c1, .slice A2 l.length c2] w fun e w' => e = .returned (.bool true) ∧ Below w.heap.size w w' := by
  have d0 : ((l.length : Int) != (l.length : Int)) = false := by simp
  go_enter Tryz.func12, Tryz.ntmps12
  go_wp2_with fail
  go_loopw [13] (fun i wr => ∃ k : Nat, k ≤ l.length ∧ i = .int .i64 k ∧ Below w.heap.size w wr) (fun i _ => l.length - (intOf i).toNat)
  case atStart => exact ⟨0, Nat.zero_le _, rfl, Below.refl _ _⟩
  case round =>
    obtain ⟨k, hk, rfl, hb⟩ := hrel
    by_cases hlt : k < l.length
    · obtain ⟨b, o, rfl, hbl, q1, q2⟩ := h1.below hb k _ (List.getElem?_eq_getElem hlt)
      obtain ⟨b', o', rfl, hbl', q3, q4⟩ := h2.below hb k _ (List.getElem?_eq_getElem hlt)
      clear h1 h2
      generalize l[k] = p at q1 q2 q3 q4
      have g1 : (0 : Int) ≤ (k : Int) := by omega
      have g2 : (k : Int) < (l.length : Int) := by omega
      have n1 := run_neq_pair p.1 p.2
      have n2 := guard_pair
      go_wp2_with fail
      go_quiet (fail)
      go_wp2_with fail
      go_roundw
      case rel => exact ⟨k + 1, by omega, by go_num, ⟨hb.os, hb.tape, hb.output, hb.size, hb.block⟩⟩
      case measure => simp [intOf]; omega
    · go_wp2_with fail
      go_ret
      exact ⟨rfl, hb⟩
end Go.Proofs.YtefdipjhjgmokaaGreat
