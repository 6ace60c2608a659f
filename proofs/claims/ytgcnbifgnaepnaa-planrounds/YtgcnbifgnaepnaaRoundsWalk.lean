/-
  rokeep.PlanRounds: the law answers true.
-/
import Derived.Test.YtgcnbifgnaepnaaPRounds
import Derived.Test.YtgcnbifgnaepnaaPOrder
import Derived.Test.YtgcnbifgnaepnaaLvOrd
import Derived.Test.YtgcnbifgnaepnaaIEq
import Derived.Test.YtgcnbifgnaepnaaLit
import Derived.Test.YtgcnbifgnaepnaaDdsF
import Derived.Deep.QuietTactic
import Derived.BigQuiet
import Derived.IntWalk
set_option linter.unusedVariables false
set_option linter.unusedSimpArgs false
namespace Go.Proofs.Ytgcnbifgnaepnaa
open Go.RowKit

def oB : Opr := ⟨2, ⟨#[97]⟩, ⟨#[]⟩, 0⟩
theorem oB_lv : lvL [[oB], [oB]] 2 = [0, 1] := by decide +kernel
theorem oB_ok : chkP [[oB], [oB]] = 0 := by decide +kernel
theorem VS.lit01 (w : World) (t : TypeId) : VS (w.alloc (.cells #[.int .i64 0, .int .i64 1] t)) (some ⟨w.heap.size, 0, none⟩) (nV [0, 1]) := fun i v hv => by
  rcases i with _ | _ | i
  · simp [nV] at hv; subst hv; exact ⟨w.heap.size, 0, rfl, by simp, by simp⟩
  · simp [nV] at hv; subst hv; exact ⟨w.heap.size, 0, rfl, by simp, by simp⟩
  · simp [nV] at hv
/-- two transactions of one operation each, as a literal -/
theorem DS.lit2 (w : World) (o p : Opr) (t u : TypeId) :
    DS (((w.alloc (.cells #[.int .i64 o.kind, .string o.key, .string o.src, .int .i64 o.n] t)).alloc (.cells #[.int .i64 p.kind, .string p.key, .string p.src, .int .i64 p.n] t)).alloc (.cells #[.slice (some ⟨w.heap.size, 0, none⟩) 1 1, .slice (some ⟨w.heap.size + 1, 0, none⟩) 1 1] u))
      (some ⟨w.heap.size + 1 + 1, 0, none⟩) [⟨some ⟨w.heap.size, 0, none⟩, 1, [o]⟩, ⟨some ⟨w.heap.size + 1, 0, none⟩, 1, [p]⟩] := by
  have b1 := (Below.refl (w.alloc (.cells #[.int .i64 o.kind, .string o.key, .string o.src, .int .i64 o.n] t)).heap.size (w.alloc (.cells #[.int .i64 o.kind, .string o.key, .string o.src, .int .i64 o.n] t))).alloc (Nat.le_refl _) (.cells #[.int .i64 p.kind, .string p.key, .string p.src, .int .i64 p.n] t)
  have h1 := (OS.lit1 w _ o t rfl w.heap.size rfl).go b1
  have h2 := OS.lit1 (w.alloc (.cells #[.int .i64 o.kind, .string o.key, .string o.src, .int .i64 o.n] t)) _ p t rfl (w.heap.size + 1) (by simp)
  generalize hW : (w.alloc (.cells #[.int .i64 o.kind, .string o.key, .string o.src, .int .i64 o.n] t)).alloc (.cells #[.int .i64 p.kind, .string p.key, .string p.src, .int .i64 p.n] t) = W at h1 h2 ⊢
  have hs : W.heap.size = w.heap.size + 1 + 1 := by rw [← hW]; simp
  have b2 := (Below.refl W.heap.size W).alloc (Nat.le_refl _) (.cells #[.slice (some ⟨w.heap.size, 0, none⟩) 1 1, .slice (some ⟨w.heap.size + 1, 0, none⟩) 1 1] u)
  refine ⟨fun i v hv => ?_, fun x hx => ?_⟩
  · rw [← hs]
    rcases i with _ | _ | i
    · simp [dlV] at hv; subst hv; exact ⟨W.heap.size, 0, rfl, by simp, by simp⟩
    · simp [dlV] at hv; subst hv; exact ⟨W.heap.size, 0, rfl, by simp, by simp⟩
    · simp at hv
  · rcases List.mem_cons.1 hx with rfl | hx
    · exact h1.go b2
    · rw [List.mem_singleton.1 hx]; exact h2.go b2
/-- the order while it is collected -/
def CoInv (w5 : World) (dd : List (List Opr)) (n : Nat) (s i : Value) (wr : World) : Prop :=
  ∃ (m : Nat) (A : Option Addr) (c : Nat), m ≤ n ∧ i = .int .i64 m ∧ s = .slice A (ordM dd n m).length c ∧ OR wr w5.heap.size 3 A c (nV (ordM dd n m)) ∧ Below w5.heap.size w5 wr
def CoIn (w5 : World) (dd : List (List Opr)) (n m : Nat) (s i : Value) (wr : World) : Prop :=
  ∃ (k : Nat) (A : Option Addr) (c : Nat), k ≤ n ∧ i = .int .i64 k ∧ s = .slice A (ordM dd n m ++ byLv dd k m).length c ∧ OR wr w5.heap.size 3 A c (nV (ordM dd n m ++ byLv dd k m)) ∧ Below w5.heap.size w5 wr
def AhInv (w6 : World) (n : Nat) (i : Value) (wr : World) : Prop := ∃ k : Nat, k ≤ n ∧ i = .int .i64 k ∧ Below w6.heap.size w6 wr
def AhIn (w6 : World) (dd : List (List Opr)) (i : Nat) (v k : Value) (wr : World) : Prop := ∃ j : Nat, j ≤ i ∧ k = .int .i64 j ∧ v = .bool (ahB dd i j) ∧ Below w6.heap.size w6 wr

set_option maxHeartbeats 2000000 in
set_option maxRecDepth 100000 in
theorem rounds_walk (A : Option Addr) (c : Nat) (cs : List Cl) (w : World) (hA : LS w A cs) (hl : cs.length ≤ c) (hc : c ≤ 9223372036854775807) (hn : A = none → c = 0) :
    Calls Try.prog 3 #[.slice A cs.length c] w fun e w' => e = .returned (.bool true) ∧ Below w.heap.size w w' := by
  go_enter Try.func3, Try.ntmps3
  have hlit := DS.lit2 w oB oB 28 31
  have hb0 := (((Below.refl w.heap.size w).alloc (Nat.le_refl _) (.cells #[.int .i64 oB.kind, .string oB.key, .string oB.src, .int .i64 oB.n] 28)).alloc (by simp) (.cells #[.int .i64 oB.kind, .string oB.key, .string oB.src, .int .i64 oB.n] 28)).alloc (by simp; omega) (.cells #[.slice (some ⟨w.heap.size, 0, none⟩) 1 1, .slice (some ⟨w.heap.size + 1, 0, none⟩) 1 1] 31)
  have HR0 := hideP (show Calls Try.prog 4 _ _ (RetLv _ [[oB], [oB]]) from rounds_ok (some ⟨w.heap.size + 1 + 1, 0, none⟩) 2 _ _ hlit oB_ok)
  clear hlit
  go_wp2_with fail
  refine HR0.out.mono ?_
  rintro e w1 ⟨gb, c1, he, hor1, hb1⟩
  replace he : e = .returned (.tuple #[.slice (some ⟨gb, 0, none⟩) 2 c1, .int .i64 0]) := he
  replace hor1 : OR w1 _ 3 (some ⟨gb, 0, none⟩) c1 (nV (lvL [[oB], [oB]] 2)) := hor1
  rw [oB_lv] at hor1
  subst he
  have hb2 := hb0.trans (hb1.mono hb0.size)
  have hb3 := (Below.refl w1.heap.size w1).alloc (Nat.le_refl _) (.cells #[.int .i64 0, .int .i64 1] 3)
  have hb4 := hb2.trans (hb3.mono hb2.size)
  have HQ := hideP (iequal_same (some ⟨gb, 0, none⟩) (some ⟨w1.heap.size, 0, none⟩) c1 2 [0, 1] _ (hor1.vs.below hb3) (VS.lit01 w1 3) (by simp))
  clear HR0 hor1 hb0 hb1 hb2 hb3
  go_wp2_with fail
  refine HQ.out.mono ?_
  rintro e w2 ⟨rfl, hb5⟩
  have hb6 := hb4.trans (hb5.mono hb4.size)
  have hA2 := hA.below hb6
  clear HQ hA hb4 hb5
  go_wp2_with fail
  refine (deeds_any A c 20 cs _ hA2 hl hc hn (by omega)).mono ?_
  rintro e w3 ⟨A1, c1, ds, rfl, hD1, hlen, hb7⟩
  have hb8 := hb6.trans (hb7.mono hb6.size)
  have hchk := hD1.chk
  have hDS3 := hD1.ds
  have hcp : chkP (ddOf ds) = 0 := chkP_zero.2 ⟨by rw [ddOf_len]; omega, fun d hd => by obtain ⟨x, hx, rfl⟩ := List.mem_map.1 hd; exact hchk x hx⟩
  have HRD := hideP (rounds_ok A1 c1 ds _ hDS3 hcp)
  have HCP := hideP hcp
  have HCK := hideP hchk
  clear hA2 hb6 hb7 hD1 hcp hchk
  go_wp2_with fail
  refine HRD.out.mono ?_
  rintro e w5 ⟨gb, c5, he, hor5, hb9⟩
  rw [ddOf_len] at he hor5
  subst he
  have hb10 := hb8.trans (hb9.mono hb8.size)
  have hDS := hDS3.below hb9
  have d0 : ((ds.length : Int) != (ds.length : Int)) = false := by simp
  clear HRD hDS3 hb8 hb9
  go_wp2_with fail
  go_loopw [8, 54] (CoInv w5 (ddOf ds) ds.length) (fun _ i _ => ds.length - (intOf i).toNat)
  case atStart => exact ⟨0, none, 0, Nat.zero_le _, rfl, rfl, OR.nil _ _ _, Below.refl _ _⟩
  case round =>
    obtain ⟨m, A', c', hm, rfl, rfl, hor, hbw⟩ := hrel
    by_cases hml : m < ds.length
    · have HJ := hideP (show CoIn w5 (ddOf ds) ds.length m (.slice A' (ordM (ddOf ds) ds.length m).length c') (.int .i64 0) wr from ⟨0, A', c', Nat.zero_le _, rfl, by simp [byLv], by simpa [byLv] using hor, hbw⟩)
      clear hor hbw
      go_wp2_with fail
      go_loopw [8, 59] (CoIn w5 (ddOf ds) ds.length m) (fun _ i _ => ds.length - (intOf i).toNat)
      case atStart => exact HJ.out
      case round =>
        clear HJ
        obtain ⟨k, A2, c2, hk, rfl, rfl, hor2, hbw2⟩ := hrel
        by_cases hkl : k < ds.length
        · have z := (hor5.below hbw2).at_ (nV_get (lvL_at (ddOf ds) hkl))
          have HN := hideP (byLv_next (ddOf ds) k m)
          have hll : (ordM (ddOf ds) ds.length m ++ byLv (ddOf ds) k m).length ≤ 100 := by
            have h1 := ordM_le (ddOf ds) ds.length m
            have h2 := byLv_len (ddOf ds) k m
            rw [List.length_append]; omega
          have g1 : (0 : Int) ≤ (k : Int) := by omega
          have g2 : (k : Int) < (ds.length : Int) := by omega
          by_cases hlm : lv (ddOf ds) k = m
          · rw [if_pos hlm] at HN
            have d1 : ((lv (ddOf ds) k : Int) == (m : Int)) = true := by simp [hlm]
            have HX := hideP (show nV (ordM (ddOf ds) ds.length m ++ byLv (ddOf ds) k m) ++ [Value.int .i64 (k : Int)] = nV (ordM (ddOf ds) ds.length m ++ byLv (ddOf ds) (k + 1) m) by rw [HN.out, ← List.append_assoc, nV_append (_ ++ _)]; rfl)
            obtain ⟨A7, c7, w7, hrun, hor7, hbel, hgr, _⟩ := app_row (P := Try.prog) Try.underlying23 intInfo rfl wr w5.heap.size 23 A2 c2 _ hor2 [.int .i64 (k : Int)] (by simp [Value.oneCell']) (by rw [nV_length]; simp only [List.length_singleton]; omega) (by decide) hbw2.size
            have hb7 := hbel w5.heap.size w5 (Nat.le_refl _) hbw2
            rw [HX.out, nV_length, nV_length] at hrun
            rw [HX.out] at hor7
            have HR := hideP hrun
            clear hrun hgr hbel HN hlm HX hor2
            generalize lv (ddOf ds) k = lk at z d1
            go_wp2_with (at_builtin; refine Lib.wpList_append_run _ rfl _ _ _ _ rfl _ _ rfl rfl _ _ HR.out ?_)
            go_roundw
            case rel => exact ⟨k + 1, A7, c7, by omega, by go_num, by rw [List.length_append], hor7, hb7⟩
            case measure => simp [intOf]; omega
          · rw [if_neg hlm, List.append_nil] at HN
            have d1 : ((lv (ddOf ds) k : Int) == (m : Int)) = false := by simp; omega
            rw [← HN.out] at hor2 ⊢
            clear HN hlm
            generalize lv (ddOf ds) k = lk at z d1
            go_wp2_with fail
            go_roundw
            case rel => exact ⟨k + 1, A2, c2, by omega, by go_num, rfl, hor2, hbw2⟩
            case measure => simp [intOf]; omega
        · have hke : k = ds.length := by omega
          subst hke
          rw [← ordM_next] at hor2 ⊢
          go_wp2_with fail
          go_roundw
          case rel => exact ⟨m + 1, A2, c2, by omega, by go_num, rfl, hor2, hbw2⟩
          case measure => simp [intOf]; omega
    · have hme : m = ds.length := by omega
      subst hme
      have hor6 := hor5.below hbw
      have hDS6 := hDS.below hbw
      have hb11 := hb10.trans (hbw.mono hb10.size)
      clear hor5 hDS hb10 hbw
      obtain ⟨w6, rfl⟩ : ∃ w6, w6 = wr := ⟨_, rfl⟩
      go_wp2_with fail
      go_loopw [76] (AhInv w6 ds.length) (fun i _ => ds.length - (intOf i).toNat)
      case atStart => exact ⟨0, Nat.zero_le _, rfl, Below.refl _ _⟩
      case round =>
        obtain ⟨i, hi, rfl, hb12⟩ := hrel
        by_cases hil : i < ds.length
        · have z0 := (hor6.below hb12).at_ (nV_get (lvL_at (ddOf ds) hil))
          obtain ⟨bz, hbz⟩ : ∃ b : Bool, ((lv (ddOf ds) i : Int) == 0) = b := ⟨_, rfl⟩
          have HJ := hideP (show AhIn w6 (ddOf ds) i (.bool bz) (.int .i64 0) wr from ⟨0, Nat.zero_le _, rfl, by rw [← hbz]; congr 1; rw [Bool.eq_iff_iff]; simp [ahB], hb12⟩)
          have g1 : (0 : Int) ≤ (i : Int) := by omega
          have g2 : (i : Int) < (ds.length : Int) := by omega
          clear hor
          go_wp2_with fail
          clear hbz z0
          go_loopw [12, 85] (AhIn w6 (ddOf ds) i) (fun _ j _ => i - (intOf j).toNat)
          case atStart => exact HJ.out
          case round =>
            clear HJ
            obtain ⟨j, hj, rfl, rfl, hbj⟩ := hrel
            by_cases hji : j < i
            · have hDr := hDS6.below hbj
              have hjl : j < ds.length := by omega
              obtain ⟨⟨b1, o1, eA1, hbl1, y1⟩, hos1⟩ := hDr.at_ hjl
              obtain ⟨⟨b2, o2, eA2, hbl2, y2⟩, hos2⟩ := hDr.at_ hil
              rw [eA1] at eA2
              injection eA2 with eA2
              injection eA2 with e1 e2 _
              subst e1; subst e2
              have hc1 := HCK.out _ (List.getElem_mem hjl)
              have hc2 := HCK.out _ (List.getElem_mem hil)
              have HA := hideP (show ahB (ddOf ds) i (j + 1) = (ahB (ddOf ds) i j || (clB ((ddOf ds).getD j []) ((ddOf ds).getD i []) && decide (lv (ddOf ds) j + 1 = lv (ddOf ds) i))) from rfl)
              have HL := hideP (fun h => lv_lt (dd := ddOf ds) hji h)
              rw [ddOf_get hjl, ddOf_get hil] at HA HL
              have hv1 := lv_le (ddOf ds) i
              have z1 := (hor6.below hbj).at_ (nV_get (lvL_at (ddOf ds) hjl))
              have z2 := (hor6.below hbj).at_ (nV_get (lvL_at (ddOf ds) hil))
              have hlg : gb < wr.drew.heap.size := (World.ownsRow.lt (hor6.below hbj) gb rfl).2
              clear hDr
              generalize ds[j] = x at y1 hos1 hc1 HA HL
              generalize ds[i] = y at y2 hos2 hc2 HA HL
              obtain ⟨Dx, cx, dx⟩ := x
              obtain ⟨Dy, cy, dy⟩ := y
              simp only [dlV] at y1 hos1 hc1 y2 hos2 hc2 HA HL
              generalize lv (ddOf ds) i = vi at HA HL hv1 z2
              generalize lv (ddOf ds) j = vj at HA HL z1
              rw [eA1]
              have g3 : (0 : Int) ≤ (j : Int) := by omega
              have g4 : (j : Int) < (i : Int) := by omega
              have g5 : (j : Int) < (ds.length : Int) := by omega
              have hbd : Below wr.heap.size wr wr.drew := (Below.refl _ _).drew
              have HC := hideP (clash_ok Dx Dy cx cy dx dy wr.drew (hos1.go hbd) (hos2.go hbd) hc1 hc2)
              have hbid := hbj.drew
              have k1 : wr.drew.cell? ⟨b1, o1 + j, none⟩ = some (.slice Dx dx.length cx) ∧ wr.drew.cell? ⟨b1, o1 + i, none⟩ = some (.slice Dy dy.length cy) := ⟨y1, y2⟩
              have k3 : wr.drew.cell? ⟨gb, j, none⟩ = some (.int .i64 (vj : Int)) ∧ wr.drew.cell? ⟨gb, i, none⟩ = some (.int .i64 (vi : Int)) := ⟨z1, z2⟩
              have hlb : b1 < wr.drew.heap.size := hbl1
              clear hos1 hos2 hbd y1 y2 z1 z2 hc1 hc2 hor6 hDS6 hbj hb12
              generalize ahB (ddOf ds) i j = ah at HA ⊢
              generalize hcl : clB dx dy = cl at HA HL HC
              clear hcl
              go_wp2_with fail
              go_region_held3 (fun w' => w'.cell? ⟨b1, o1 + j, none⟩ = some (.slice Dx dx.length cx) ∧ w'.cell? ⟨b1, o1 + i, none⟩ = some (.slice Dy dy.length cy)) (with_reducible first | exact k1 | exact k2) (first
                | (go_at_call 7; refine HC.out.mono ?_; rintro e2 w8 ⟨rfl, hb8⟩; have k2 := And.intro ((hb8.cell (p := ⟨b1, o1 + j, none⟩) hlb).trans k1.1) ((hb8.cell (p := ⟨b1, o1 + i, none⟩) hlb).trans k1.2)))
              all_goals
                have z1 := (hb8.cell (p := ⟨gb, j, none⟩) hlg).trans k3.1
                have z2 := (hb8.cell (p := ⟨gb, i, none⟩) hlg).trans k3.2
                have hb9 := hbid.trans (hb8.mono hbid.size)
                clear hb8 HC k1 k2 k3 hbid hlb hlg
                cases cl
                · have HA' := hideP (show ahB (ddOf ds) i (j + 1) = ah by rw [HA.out]; simp)
                  clear HA HL
                  go_wp2_with fail
                  go_quiet (fail)
                  go_wp2_with fail
                  cases ah
                  all_goals
                    go_wp2_with fail
                    go_quiet (fail)
                    go_wp2_with fail
                    go_roundw
                    case rel => exact ⟨j + 1, by omega, by go_num, by rw [HA'.out], ⟨hb9.os, hb9.tape, hb9.output, hb9.size, hb9.block⟩⟩
                    case measure => simp [intOf]; omega
                · have hlt := HL.out rfl
                  have g6 : ¬ ((vi : Int) ≤ (vj : Int)) := by omega
                  have g7 : decide (vi ≤ vj) = false := by simp; omega
                  have hw : IntKind.i64.wrap ((vi : Int) - 1) = (vi : Int) - 1 := IntWalk.i64_in _ (by omega)
                  cases ah
                  · by_cases hv : vj + 1 = vi
                    · have HA' := hideP (show ahB (ddOf ds) i (j + 1) = true by rw [HA.out]; simp [hv])
                      have d1 : ((vj : Int) == (vi : Int) - 1) = true := by simp; omega
                      clear HA HL hv hlt
                      go_wp2_with fail
                      go_quiet (fail)
                      go_wp2_with fail
                      go_quiet (fail)
                      go_wp2_with fail
                      go_roundw
                      case rel => exact ⟨j + 1, by omega, by go_num, by rw [HA'.out], ⟨hb9.os, hb9.tape, hb9.output, hb9.size, hb9.block⟩⟩
                      case measure => simp [intOf]; omega
                    · have HA' := hideP (show ahB (ddOf ds) i (j + 1) = false by rw [HA.out]; simp [hv])
                      have d1 : ((vj : Int) == (vi : Int) - 1) = false := by simp; omega
                      clear HA HL hv hlt
                      go_wp2_with fail
                      go_quiet (fail)
                      go_wp2_with fail
                      go_quiet (fail)
                      go_wp2_with fail
                      go_roundw
                      case rel => exact ⟨j + 1, by omega, by go_num, by rw [HA'.out], ⟨hb9.os, hb9.tape, hb9.output, hb9.size, hb9.block⟩⟩
                      case measure => simp [intOf]; omega
                  · have HA' := hideP (show ahB (ddOf ds) i (j + 1) = true by rw [HA.out]; simp)
                    clear HA HL hlt
                    go_wp2_with fail
                    go_quiet (fail)
                    go_wp2_with fail
                    go_quiet (fail)
                    go_wp2_with fail
                    go_roundw
                    case rel => exact ⟨j + 1, by omega, by go_num, by rw [HA'.out], ⟨hb9.os, hb9.tape, hb9.output, hb9.size, hb9.block⟩⟩
                    case measure => simp [intOf]; omega
            · have hje : j = i := by omega
              subst hje
              have HA := hideP (ahB_all (ddOf ds) j)
              rw [HA.out]
              go_wp2_with fail
              go_roundw
              case rel => exact ⟨j + 1, by omega, by go_num, hbj⟩
              case measure => simp [intOf]; omega
        · obtain ⟨hc1, hc2, hc3, _⟩ := hor.caps
          rw [nV_length] at hc1
          have hb13 := hb11.trans (hb12.mono hb11.size)
          have HO := hideP (porder_any A1 A' c1 c' ds (zI (ordM (ddOf ds) ds.length ds.length)) _ (hDS6.below hb12) HCP.out (hor.below hb12).vs.is_ (by rw [zI_len]; exact hc1) (by unfold maxLen at hc2; omega) hc3)
          have hov : orV (ddOf ds) (zI (ordM (ddOf ds) ds.length ds.length)) = (true, 0) := by have := ordM_ok (ddOf ds); rw [ddOf_len] at this; exact this
          rw [hov, zI_len] at HO
          clear hov hor hor6 hDS6 hc3
          go_wp2_with fail
          refine HO.out.mono ?_
          rintro e w8 ⟨rfl, hb14⟩
          have hb15 := hb13.trans (hb14.mono hb13.size)
          go_wp2_with fail
          go_ret
          exact ⟨rfl, hb15⟩
end Go.Proofs.Ytgcnbifgnaepnaa
