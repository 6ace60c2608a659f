/-
  roref.Ordered.
-/
import Derived.Test.YtgcnbifgnaepnaaDoorRClash
import Derived.Test.YtgcnbifgnaepnaaDoorPCheck
import Derived.Test.YtgcnbifgnaepnaaDoorIMap
import Derived.Test.YtgcnbifgnaepnaaDoorROrdPl
import Derived.Test.YtgcnbifgnaepnaaDoorInts
import Derived.Deep.RegionHeld3
import Derived.Deep.QuietTactic
import Derived.BigQuiet
set_option linter.unusedVariables false
set_option linter.unusedSimpArgs false
namespace Go.Proofs.YtgcnbifgnaepnaaDoor
open Go.RowKit Go.WideMaps Go.Maps

def ROInv (w : World) (bm : Nat) (dd : List (List Opr)) (zs : List Int) (i : Value) (wr : World) : Prop :=
  ∃ k : Nat, k ≤ zs.length ∧ i = .int .i64 k ∧ ordP dd [] zs = ordP dd (zs.take k) (zs.drop k) ∧ ISt wr w.heap.size bm k (zs.take k) ∧ Below w.heap.size w wr
def ROIn (wr : World) (dd : List (List Opr)) (pre : List Int) (s : Nat) (i : Value) (w' : World) : Prop :=
  ∃ j : Nat, j ≤ s ∧ i = .int .i64 j ∧ wtO dd pre s j = false ∧ Below wr.heap.size wr w'

set_option maxHeartbeats 2000000 in
set_option maxRecDepth 100000 in
theorem rordered_any (D O : Option Addr) (cd co : Nat) (ds : List Dl) (zs : List Int) (w : World) (hD : DS w D ds) (hc : chkP (ddOf ds) = 0) (hO : IS w O zs) (hch : chkOr ds.length zs = 0) :
    Calls Tryd.prog 23 #[.slice D ds.length cd, .slice O zs.length co] w fun e w' => e = .returned (.bool (ordB (ddOf ds) zs)) ∧ Below w.heap.size w w' := by
  obtain ⟨hn, hchk⟩ := chkP_zero.1 hc
  rw [ddOf_len] at hn
  obtain ⟨hz, hrng, _⟩ := chkOr_zero.1 hch
  have HE := hideP (ordP_ok (dd := ddOf ds) (l := zs) (by rw [ddOf_len]; exact hch))
  have hz1 : zs.length ≤ 60 := by omega
  have HRG := hideP hrng
  have HCK := hideP hchk
  clear hc hch hz hrng hchk
  have hb0 := (Below.refl w.heap.size w).alloc (Nat.le_refl _) (.map #[] 0)
  have HI := hideP (show ROInv w w.heap.size (ddOf ds) zs (.int .i64 0) (w.alloc (.map #[] 0)) from ⟨0, Nat.zero_le _, rfl, rfl, ISt.made w _ (Nat.le_refl _), hb0⟩)
  have hmm := @run_makeMap Tryd.prog
  go_enter Tryd.func23, Tryd.ntmps23
  go_wp2_with fail
  generalize w.alloc (.map #[] 0) = w1 at HI ⊢
  obtain ⟨bm, hbm⟩ : ∃ bm, bm = w.heap.size := ⟨_, rfl⟩
  rw [← hbm] at ⊢
  rw [show ROInv w w.heap.size = ROInv w bm by rw [hbm]] at HI
  clear hb0 hbm hmm
  go_loopw [12] (ROInv w bm (ddOf ds) zs) (fun i _ => zs.length - (intOf i).toNat)
  case atStart => exact HI.out
  case round =>
    clear HI
    obtain ⟨k, hk, rfl, hord, hst, hbw⟩ := hrel
    by_cases hkl : k < zs.length
    · rw [ordP_next _ hkl] at hord
      have HO := hideP hord
      clear hord
      have hOr := hO.below hbw
      obtain ⟨b, o, rfl, hbl, q1⟩ := hOr k zs[k] (List.getElem?_eq_getElem hkl)
      obtain ⟨hs0, hsn⟩ := HRG.out _ (List.getElem_mem hkl)
      have HTK := hideP (List.take_succ_eq_append_getElem hkl)
      clear hOr
      generalize zs[k] = s at q1 HO hs0 hsn HTK
      obtain ⟨sn, rfl⟩ : ∃ n : Nat, s = n := ⟨s.toNat, by omega⟩
      rw [Int.toNat_natCast] at HO
      have g1 : (0 : Int) ≤ (k : Int) := by omega
      have g2 : (k : Int) < (zs.length : Int) := by omega
      have hDr := hD.below hbw
      have HJ := hideP (show ROIn wr (ddOf ds) (zs.take k) sn (.int .i64 0) wr from ⟨0, Nat.zero_le _, rfl, rfl, Below.refl _ _⟩)
      go_wp2_with fail
      go_loopw [17] (ROIn wr (ddOf ds) (zs.take k) sn) (fun i _ => sn - (intOf i).toNat)
      case atStart => exact HJ.out
      case round =>
        clear HJ
        obtain ⟨j, hj, rfl, hwt, hbi⟩ := hrel
        have HW := hideP hwt
        clear hwt
        have hbwi := hbw.trans (hbi.mono hbw.size)
        by_cases hjs : j < sn
        · have hjl : j < ds.length := by omega
          have hsl : sn < ds.length := by omega
          have hlk : ∀ n, (Instr.lookup 81 (.map (some bm)) (.int .i64 (j : Int)) false).run Tryd.prog (wr.drewN n) = .ok (.bool (inI (j : Int) (zs.take k))) (wr.drewN n) := fun n =>
            ((hst.below hbi).below (w' := wr.drewN n) (by have h := Below.refl wr.heap.size wr; exact ⟨h.os, h.tape, h.output, h.size, h.block⟩)).look (by omega) (by omega)
          have hlk2 := ((hst.below hbi).below (Below.refl _ _).drew).look (z := (j : Int)) (by omega) (by omega)
          have HN := hideP (show wtO (ddOf ds) (zs.take k) sn (j + 1) = (wtO (ddOf ds) (zs.take k) sn j || (!inI (j : Int) (zs.take k) && clB ((ddOf ds).getD j []) ((ddOf ds).getD sn []))) from rfl)
          rw [HW.out] at HN
          have HMO := hideP (fun h => wtO_more (dd := ddOf ds) (pre := zs.take k) (k := sn) (j := j + 1) (n := sn) h (by omega))
          have g3 : (0 : Int) ≤ (j : Int) := by omega
          have g4 : (j : Int) < (sn : Int) := by omega
          clear HW hst
          generalize inI (j : Int) (zs.take k) = dn at hlk hlk2 HN
          cases dn
          · obtain ⟨⟨b1, o1, eA1, hbl1, y1⟩, hos1⟩ := (hDr.below hbi).at_ hjl
            obtain ⟨⟨b2, o2, eA2, hbl2, y2⟩, hos2⟩ := (hDr.below hbi).at_ hsl
            rw [eA1] at eA2
            injection eA2 with eA2
            injection eA2 with e1 e2 _
            subst e1; subst e2
            have hc1 := HCK.out _ (show ds[j].d ∈ ddOf ds from List.mem_map.2 ⟨_, List.getElem_mem hjl, rfl⟩)
            have hc2 := HCK.out _ (show ds[sn].d ∈ ddOf ds from List.mem_map.2 ⟨_, List.getElem_mem hsl, rfl⟩)
            rw [ddOf_get hjl, ddOf_get hsl] at HN
            generalize ds[j] = x at y1 hos1 hc1 HN
            generalize ds[sn] = y at y2 hos2 hc2 HN
            obtain ⟨Dx, cx, dx⟩ := x
            obtain ⟨Dy, cy, dy⟩ := y
            simp only [dlV] at y1 hos1 hc1 y2 hos2 hc2 HN
            rw [eA1]
            have g5 : (j : Int) < (ds.length : Int) := by omega
            have g6 : (0 : Int) ≤ (sn : Int) := by omega
            have hbd : Below wr.heap.size wr wr.drew := (Below.refl _ _).drew
            have HC := hideP (rclash_any Dx Dy cx cy dx dy wr.drew (hos1.go hbd) (hos2.go hbd) hc1 hc2)
            have k1 : wr.drew.cell? ⟨b1, o1 + j, none⟩ = some (.slice Dx dx.length cx) ∧ wr.drew.cell? ⟨b1, o1 + sn, none⟩ = some (.slice Dy dy.length cy) := ⟨y1, y2⟩
            have hlb : b1 < wr.drew.heap.size := hbl1
            have hbid := hbi.drew
            have hbwd := hbwi.drew
            clear hos1 hos2 hbd y1 y2 hc1 hc2 hbi hbwi hD hDr hO hlk
            generalize hcl : clB dx dy = cl at HN HC
            clear hcl
            go_wp2_with fail
            go_region_held3 (fun w' => w'.cell? ⟨b1, o1 + j, none⟩ = some (.slice Dx dx.length cx) ∧ w'.cell? ⟨b1, o1 + sn, none⟩ = some (.slice Dy dy.length cy)) (with_reducible first | exact k1 | exact k2) (first
              | (go_at_call 35; refine HC.out.mono ?_; rintro e2 w8 ⟨rfl, hb8⟩; have k2 := And.intro ((hb8.cell (p := ⟨b1, o1 + j, none⟩) hlb).trans k1.1) ((hb8.cell (p := ⟨b1, o1 + sn, none⟩) hlb).trans k1.2)))
            all_goals
              have hb9 := hbid.trans (hb8.mono hbid.size)
              have hb10 := hbwd.trans (hb8.mono hbwd.size)
              clear HC k1 k2 hb8 hlk2
              cases cl
              · go_wp2_with fail
                go_roundw
                case rel => exact ⟨j + 1, by omega, by go_num, by rw [HN.out]; rfl, hb9⟩
                case measure => simp [intOf] <;> omega
              · have HF := hideP (show ordP (ddOf ds) [] zs = false by rw [HO.out, HMO.out (by rw [HN.out]; rfl)]; rfl)
                clear HN HMO
                go_wp2_with fail
                go_ret
                exact ⟨ret_bool (by rw [← HE.out, HF.out]), hb10⟩
          · go_wp2_with fail
            go_quiet (fail)
            go_wp2_with fail
            go_roundw
            case rel => exact ⟨j + 1, by omega, by go_num, by rw [HN.out]; rfl, ⟨hbi.os, hbi.tape, hbi.output, hbi.size, hbi.block⟩⟩
            case measure => simp [intOf] <;> omega
        · have hje : j = sn := by omega
          subst hje
          have HO' := hideP (show ordP (ddOf ds) [] zs = ordP (ddOf ds) (zs.take (k + 1)) (zs.drop (k + 1)) by rw [HO.out, HW.out]; rfl)
          obtain ⟨w9, hup, hst9, hg9⟩ := (hst.below hbi).put (z := (j : Int)) (by omega) (by omega) (by omega)
          rw [← HTK.out] at hst9
          have hb9 : Below w.heap.size w w9 := hbwi.grown hg9 hbwi.size (fun b hb => by injection hb with hb; subst hb; exact hst.low)
          clear hst hg9 HO HW
          go_wp2_with fail
          go_roundw
          case rel => exact ⟨k + 1, by omega, by go_num, HO'.out, hst9, hb9⟩
          case measure => simp [intOf] <;> omega
    · have hzk : zs.drop k = [] := List.drop_of_length_le (by omega)
      rw [hzk] at hord
      have HN := hideP (show ordP (ddOf ds) [] zs = true by rw [hord]; rfl)
      clear hord hzk
      go_wp2_with fail
      go_ret
      exact ⟨ret_bool (by rw [← HE.out, HN.out]), hbw⟩
end Go.Proofs.YtgcnbifgnaepnaaDoor
