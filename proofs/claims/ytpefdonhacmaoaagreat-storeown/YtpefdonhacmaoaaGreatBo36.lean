/-
  plan.Rounds.
-/
import Derived.Test.YtpefdonhacmaoaaGreatBo35
import Derived.Test.YtpefdonhacmaoaaGreatBo33
import Derived.Deep.RegionHeld3
set_option linter.unusedVariables false
set_option linter.unusedSimpArgs false
namespace Go.Proofs.YtpefdonhacmaoaaGreat
open Go.RowKit

/-- the levels are handed back -/
def RetLv (w : World) (dd : List (List Opr)) (e : Ending) (w' : World) : Prop :=
  ∃ gb c, e = .returned (.tuple #[.slice (some ⟨gb, 0, none⟩) dd.length c, .int .i64 0]) ∧ OR w' w.heap.size 3 (some ⟨gb, 0, none⟩) c (nV (lvL dd dd.length)) ∧ Below w.heap.size w w'
def LvInv (w : World) (gb n : Nat) (dd : List (List Opr)) (i : Value) (wr : World) : Prop :=
  ∃ k : Nat, k ≤ n ∧ i = .int .i64 k ∧ OR wr w.heap.size 3 (some ⟨gb, 0, none⟩) n (nV (lvM dd n k 0)) ∧ Below w.heap.size w wr
def LvIn (w : World) (gb n i : Nat) (dd : List (List Opr)) (j : Value) (wr : World) : Prop :=
  ∃ k : Nat, k ≤ i ∧ j = .int .i64 k ∧ OR wr w.heap.size 3 (some ⟨gb, 0, none⟩) n (nV (lvM dd n i (lvS dd (lv dd) (dd.getD i []) k))) ∧ Below w.heap.size w wr
theorem nV_get {l : List Nat} {i v : Nat} (h : l[i]? = some v) : (nV l)[i]? = some (.int .i64 (v : Int)) := by simp [nV, h]
theorem nV_set (l : List Nat) (i v : Nat) : nV (l.set i v) = (nV l).set i (.int .i64 (v : Int)) := by simp [nV, List.map_set]
theorem OR.at_ {w : World} {B : Nat} {t : TypeId} {g c : Nat} {xs : List Value} (h : OR w B t (some ⟨g, 0, none⟩) c xs) {i : Nat} {v : Value} (hv : xs[i]? = some v) : w.cell? ⟨g, i, none⟩ = some v := by
  obtain ⟨b, o, e, _, h1⟩ := h.vs i v hv
  injection e with e
  injection e with e1 e2 _
  subst e1; subst e2
  rw [Nat.zero_add] at h1
  exact h1

set_option maxHeartbeats 1000000 in
set_option maxRecDepth 100000 in
theorem rounds_bad (A : Option Addr) (c : Nat) (ds : List Dl) (w : World) (hD : DS w A ds) (hl : ds.length ≤ 9223372036854775807) (hc : chkP (ddOf ds) ≠ 0) :
    Calls Tryz.prog 31 #[.slice A ds.length c] w fun e w' => e = .returned (.tuple #[.slice none 0 0, .int .i64 (chkP (ddOf ds))]) ∧ Below w.heap.size w w' := by
  have HP := hideP (pcheck_any A c ds w hD hl)
  have d0 : (chkP (ddOf ds) != 0) = true := by simp [hc]
  clear hc hD
  generalize chkP (ddOf ds) = q at HP d0 ⊢
  go_enter Tryz.func31, Tryz.ntmps31
  go_wp2_with fail
  refine HP.out.mono ?_
  rintro e w1 ⟨rfl, hb1⟩
  go_wp2_with fail
  go_ret2
  exact ⟨rfl, hb1⟩

set_option maxHeartbeats 2000000 in
set_option maxRecDepth 100000 in
theorem rounds_ok (A : Option Addr) (c : Nat) (ds : List Dl) (w : World) (hD : DS w A ds) (hc : chkP (ddOf ds) = 0) :
    Calls Tryz.prog 31 #[.slice A ds.length c] w (RetLv w (ddOf ds)) := by
  obtain ⟨hn, hchk⟩ := chkP_zero.1 hc
  rw [ddOf_len] at hn
  have HP := hideP (pcheck_any A c ds w hD (by omega))
  rw [hc] at HP
  clear hc
  go_enter Tryz.func31, Tryz.ntmps31
  go_wp2_with fail
  refine HP.out.mono ?_
  rintro e w1 ⟨rfl, hb1⟩
  have hD1 := hD.below hb1
  obtain ⟨i0, hi0, hz0, hz1, hz2⟩ := info_parts intInfo
  obtain ⟨w2, hmk, hown, hg2⟩ := run_make_full (P := Tryz.prog) w1 w1.heap.size 22 3 i0 _ 1 Tryz.underlying22 hi0 hz0 hz1 .i64 .i64 ds.length (by rw [hz2]; omega) (by unfold maxLen; omega) (Nat.le_refl _)
  rw [made_ints, ← lvM_start (ddOf ds)] at hown
  have hor : OR w2 w1.heap.size 3 (some ⟨w1.heap.size, 0, none⟩) ds.length (nV (lvM (ddOf ds) ds.length 0 0)) := by unfold OR; rw [nV_length, lvM_len]; exact hown
  have hb2 : Below w1.heap.size w1 w2 := ⟨hg2.os, hg2.tape, hg2.output, hg2.size, fun k hk => hg2.block k hk (by simp)⟩
  have hb3 := hb1.trans (hb2.mono hb1.size)
  have HI := hideP (show LvInv w w1.heap.size ds.length (ddOf ds) (.int .i64 0) w2 from ⟨0, Nat.zero_le _, rfl, hor.mono hb1.size, hb3⟩)
  clear hown hg2 hor hi0 hz0 hz1 hz2 HP hD1 hb2 hb3
  generalize w1.heap.size = gb at HI hmk
  go_wp2_with fail
  go_loopw [18] (LvInv w gb ds.length (ddOf ds)) (fun i _ => ds.length - (intOf i).toNat)
  case atStart => exact HI.out
  case round =>
    clear HI hmk
    obtain ⟨i, hi, rfl, hor, hbw⟩ := hrel
    by_cases hil : i < ds.length
    · have HJ := hideP (show LvIn w gb ds.length i (ddOf ds) (.int .i64 0) wr from ⟨0, Nat.zero_le _, rfl, hor, hbw⟩)
      clear hor hbw
      have g1 : (i : Int) < (ds.length : Int) := by omega
      go_wp2_with fail
      go_loopw [22] (LvIn w gb ds.length i (ddOf ds)) (fun j _ => i - (intOf j).toNat)
      case atStart => exact HJ.out
      case round =>
        clear HJ
        obtain ⟨j, hj, rfl, hor, hbw⟩ := hrel
        by_cases hji : j < i
        · have hDr := hD.below hbw
          obtain ⟨⟨b1, o1, eA1, hbl1, y1⟩, hos1⟩ := hDr.at_ (show j < ds.length by omega)
          obtain ⟨⟨b2, o2, eA2, hbl2, y2⟩, hos2⟩ := hDr.at_ hil
          rw [eA1] at eA2
          injection eA2 with eA2
          injection eA2 with e1 e2 _
          subst e1; subst e2
          have hjm : ds[j].d ∈ ddOf ds := List.mem_map.2 ⟨_, List.getElem_mem (show j < ds.length by omega), rfl⟩
          have him : ds[i].d ∈ ddOf ds := List.mem_map.2 ⟨_, List.getElem_mem hil, rfl⟩
          have hc1 := hchk _ hjm
          have hc2 := hchk _ him
          have hlj := lv_le (ddOf ds) j
          have hli : lvS (ddOf ds) (lv (ddOf ds)) ((ddOf ds).getD i []) j ≤ j := lvS_le fun x _ => lv_le _ x
          have HS := hideP (show lvS (ddOf ds) (lv (ddOf ds)) ((ddOf ds).getD i []) (j + 1) = if clB ((ddOf ds).getD j []) ((ddOf ds).getD i []) = true then max (lvS (ddOf ds) (lv (ddOf ds)) ((ddOf ds).getD i []) j) (lv (ddOf ds) j + 1) else lvS (ddOf ds) (lv (ddOf ds)) ((ddOf ds).getD i []) j from rfl)
          rw [ddOf_get (show j < ds.length by omega)] at HS
          have hdi : (ddOf ds).getD i [] = ds[i].d := ddOf_get hil
          rw [show (if clB ds[j].d ((ddOf ds).getD i []) = true then max (lvS (ddOf ds) (lv (ddOf ds)) ((ddOf ds).getD i []) j) (lv (ddOf ds) j + 1) else lvS (ddOf ds) (lv (ddOf ds)) ((ddOf ds).getD i []) j) = (if clB ds[j].d ds[i].d = true then max (lvS (ddOf ds) (lv (ddOf ds)) ((ddOf ds).getD i []) j) (lv (ddOf ds) j + 1) else lvS (ddOf ds) (lv (ddOf ds)) ((ddOf ds).getD i []) j) by rw [hdi]] at HS
          clear hdi hjm him hDr
          generalize ds[j] = x at y1 hos1 hc1 HS
          generalize ds[i] = y at y2 hos2 hc2 HS
          obtain ⟨Dx, cx, dx⟩ := x
          obtain ⟨Dy, cy, dy⟩ := y
          simp only [dlV] at y1 hos1 hc1 y2 hos2 hc2 HS
          have z1 := hor.at_ (nV_get (lvM_get (dd := ddOf ds) (i := i) (v := lvS (ddOf ds) (lv (ddOf ds)) ((ddOf ds).getD i []) j) hil))
          have z2 := hor.at_ (nV_get (lvM_get (dd := ddOf ds) (i := i) (v := lvS (ddOf ds) (lv (ddOf ds)) ((ddOf ds).getD i []) j) (show j < ds.length by omega)))
          rw [if_neg (Nat.lt_irrefl _), if_pos rfl] at z1
          rw [if_pos hji] at z2
          have hlg : gb < wr.heap.size := (World.ownsRow.lt hor gb rfl).2
          have hgw : w.heap.size ≤ gb := (World.ownsRow.lt hor gb rfl).1
          rw [eA1]
          have g3 : (0 : Int) ≤ (j : Int) := by omega
          have g4 : (j : Int) < (i : Int) := by omega
          have g5 : (j : Int) < (ds.length : Int) := by omega
          have g6 : (0 : Int) ≤ (i : Int) := by omega
          have hbd : Below wr.heap.size wr wr.drew := (Below.refl _ _).drew
          have HC := hideP (pclash_ok Dx Dy cx cy dx dy wr.drew (hos1.go hbd) (hos2.go hbd) hc1 hc2)
          have k1 : wr.drew.cell? ⟨b1, o1 + j, none⟩ = some (.slice Dx dx.length cx) ∧ wr.drew.cell? ⟨b1, o1 + i, none⟩ = some (.slice Dy dy.length cy) := ⟨y1, y2⟩
          have hlb : b1 < wr.drew.heap.size := hbl1
          have ord : OR wr.drew w.heap.size 3 (some ⟨gb, 0, none⟩) ds.length (nV (lvM (ddOf ds) ds.length i (lvS (ddOf ds) (lv (ddOf ds)) ((ddOf ds).getD i []) j))) := hor.below hbd
          have hbwd := hbw.drew
          clear hos1 hos2 hbd y1 y2 hc1 hc2 hor hbw z1 z2 hD hchk
          have HST := hideP (lvM_set (ddOf ds) ds.length i (lvS (ddOf ds) (lv (ddOf ds)) ((ddOf ds).getD i []) j) (lvS (ddOf ds) (lv (ddOf ds)) ((ddOf ds).getD i []) (j + 1)))
          generalize lvS (ddOf ds) (lv (ddOf ds)) ((ddOf ds).getD i []) j = v0 at HS HST ord hli
          have HE := hideP (fun (w' : World) (hb : Below wr.drew.heap.size wr.drew w') => ord.below hb)
          clear ord
          go_wp2_with fail
          go_region_held3 (fun w' => w'.cell? ⟨b1, o1 + j, none⟩ = some (.slice Dx dx.length cx) ∧ w'.cell? ⟨b1, o1 + i, none⟩ = some (.slice Dy dy.length cy)) (with_reducible first | exact k1 | exact k2) (first
            | (go_at_call 78; refine HC.out.mono ?_; rintro e2 w8 ⟨rfl, hb8⟩; have k2 := And.intro ((hb8.cell (p := ⟨b1, o1 + j, none⟩) hlb).trans k1.1) ((hb8.cell (p := ⟨b1, o1 + i, none⟩) hlb).trans k1.2)))
          all_goals
            have or8 := HE.out _ hb8
            have hb9 := hbwd.trans (hb8.mono (Nat.le_trans hbwd.size (Nat.le_refl _)))
            clear HE HC k1 k2 hb8
            cases hcl : clB dx dy
            · rw [hcl] at HS
              have HS' := hideP (show lvS (ddOf ds) (lv (ddOf ds)) ((ddOf ds).getD i []) (j + 1) = v0 from HS.out)
              clear hcl HS
              go_wp2_with fail
              go_roundw
              case rel => exact ⟨j + 1, by omega, by go_num, by rw [HS'.out]; exact or8, hb9⟩
              case measure => simp [intOf]; omega
            · rw [hcl] at HS
              have HS' := hideP (show lvS (ddOf ds) (lv (ddOf ds)) ((ddOf ds).getD i []) (j + 1) = max v0 (lv (ddOf ds) j + 1) from HS.out)
              have z1 := or8.at_ (nV_get (lvM_get (dd := ddOf ds) (i := i) (v := v0) hil))
              have z2 := or8.at_ (nV_get (lvM_get (dd := ddOf ds) (i := i) (v := v0) (show j < ds.length by omega)))
              rw [if_neg (Nat.lt_irrefl _), if_pos rfl] at z1
              rw [if_pos hji] at z2
              have fz := or8.frozen_ i
              have HO := hideP (or8.set_ (k := i) (by rw [nV_length, lvM_len]; exact hil) (.int .i64 ((max v0 (lv (ddOf ds) j + 1) : Nat) : Int)))
              rw [← nV_set, lvM_set] at HO
              have HB := hideP (hb9.setCell (p := ⟨gb, i, none⟩) hgw (.int .i64 ((max v0 (lv (ddOf ds) j + 1) : Nat) : Int)))
              clear hcl HS HST or8
              generalize lv (ddOf ds) j = v1 at HS' HO HB z2 hlj
              go_wp2_with fail
              go_region
              all_goals
                go_wp2_with fail
                go_roundw
                case rel =>
                  rw [show max (v0 : Int) ((v1 : Int) + 1) = ((max v0 (v1 + 1) : Nat) : Int) by omega]
                  exact ⟨j + 1, by omega, by go_num, by rw [HS'.out]; exact HO.out.below (Below.refl _ _).drew, HB.out.drew⟩
                case measure => simp [intOf]; omega
        · have hje : j = i := by omega
          subst hje
          rw [← lv_eq, lvM_next] at hor
          go_wp2_with fail
          go_roundw
          case rel => exact ⟨j + 1, by omega, by go_num, hor, hbw⟩
          case measure => simp [intOf]; omega
    · have hie : i = ds.length := by omega
      subst hie
      rw [lvM_end] at hor
      have HR := hideP (show RetLv w (ddOf ds) (.returned (.tuple #[.slice (some ⟨gb, 0, none⟩) ds.length ds.length, .int .i64 0])) wr from ⟨_, _, by rw [ddOf_len], by rw [ddOf_len]; exact hor, hbw⟩)
      clear hor
      go_wp2_with fail
      go_ret2
      exact HR.out
end Go.Proofs.YtpefdonhacmaoaaGreat
