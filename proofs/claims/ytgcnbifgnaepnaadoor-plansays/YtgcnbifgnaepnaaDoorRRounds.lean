/-
  roref.Rounds.
-/
import Derived.Test.YtgcnbifgnaepnaaDoorRClash
import Derived.Test.YtgcnbifgnaepnaaDoorPRounds
import Derived.Test.YtgcnbifgnaepnaaDoorLvOrd
import Derived.Deep.RegionHeld3
import Derived.Deep.QuietTactic
import Derived.BigQuiet
set_option linter.unusedVariables false
set_option linter.unusedSimpArgs false
namespace Go.Proofs.YtgcnbifgnaepnaaDoor
open Go.RowKit Go.WideMaps Go.Maps

/-- while the levels are collected -/
def RLInv (w : World) (dd : List (List Opr)) (n : Nat) (s i : Value) (wr : World) : Prop :=
  ∃ (k : Nat) (A : Option Addr) (c : Nat), k ≤ n ∧ i = .int .i64 k ∧ s = .slice A (lvL dd k).length c ∧ OR wr w.heap.size 3 A c (nV (lvL dd k)) ∧ Below w.heap.size w wr
/-- while those before the i-th are asked, from behind -/
def RLIn (wr : World) (dd : List (List Opr)) (i : Nat) (v k : Value) (w' : World) : Prop :=
  ∃ (j n : Nat), j ≤ i ∧ n ≤ i ∧ k = .int .i64 ((j : Int) - 1) ∧ v = .int .i64 (n : Int) ∧ max n (lvS dd (lv dd) (dd.getD i []) j) = lv dd i ∧ Below wr.heap.size wr w'

set_option maxHeartbeats 2000000 in
set_option maxRecDepth 100000 in
theorem rrounds_any (D : Option Addr) (cd : Nat) (ds : List Dl) (w : World) (hD : DS w D ds) (hc : chkP (ddOf ds) = 0) :
    Calls Tryd.prog 21 #[.slice D ds.length cd] w (RetN w (lvL (ddOf ds) ds.length)) := by
  obtain ⟨hn, hchk⟩ := chkP_zero.1 hc
  rw [ddOf_len] at hn
  have HCK := hideP hchk
  clear hc hchk
  go_enter Tryd.func21, Tryd.ntmps21
  go_wp2_with fail
  go_loopw [3, 10] (RLInv w (ddOf ds) ds.length) (fun _ i _ => ds.length - (intOf i).toNat)
  case atStart => exact ⟨0, none, 0, Nat.zero_le _, rfl, rfl, OR.nil _ _ _, Below.refl _ _⟩
  case round =>
    obtain ⟨i, A, c, hi, rfl, rfl, hor, hbw⟩ := hrel
    by_cases hil : i < ds.length
    · have hDr := hD.below hbw
      obtain ⟨⟨b2, o2, rfl, hbl2, y2⟩, hos2⟩ := hDr.at_ hil
      have hc2 := HCK.out _ (show ds[i].d ∈ ddOf ds from List.mem_map.2 ⟨_, List.getElem_mem hil, rfl⟩)
      have HGI := hideP (ddOf_get hil)
      generalize ds[i] = y at y2 hos2 hc2 HGI
      obtain ⟨Dy, cy, dy⟩ := y
      simp only [dlV] at y2 hos2 hc2 HGI
      have hab := (Below.refl wr.heap.size wr).alloc (Nat.le_refl _) (.cells #[.slice Dy dy.length cy] 36)
      have hD0 := hDr.below hab
      have hor0 := hor.below hab
      have hb0 := hbw.trans (hab.mono hbw.size)
      have hos0 := hos2.go hab
      have hbx : (wr.alloc (.cells #[.slice Dy dy.length cy] 36)).cell? ⟨wr.heap.size, 0, none⟩ = some (.slice Dy dy.length cy) := by simp
      have hgx : wr.heap.size < (wr.alloc (.cells #[.slice Dy dy.length cy] 36)).heap.size := by simp
      have g1 : (0 : Int) ≤ (i : Int) := by omega
      have g2 : (i : Int) < (ds.length : Int) := by omega
      clear hDr hor hbw hos2 hab
      have HI := hideP (show RLIn (wr.alloc (.cells #[.slice Dy dy.length cy] 36)) (ddOf ds) i (.int .i64 0) (.int .i64 ((i : Int) - 1)) (wr.alloc (.cells #[.slice Dy dy.length cy] 36)) from ⟨i, 0, Nat.le_refl _, Nat.zero_le _, rfl, rfl, by rw [Nat.zero_max, ← lv_eq], Below.refl _ _⟩)
      go_wp2_with fail
      generalize wr.alloc (.cells #[.slice Dy dy.length cy] 36) = w0 at hD0 hor0 hb0 hos0 hbx hgx HI ⊢
      generalize wr.heap.size = gx at hbx hgx ⊢
      clear y2
      go_loopw [6, 7] (RLIn w0 (ddOf ds) i) (fun _ k _ => (intOf k + 1).toNat)
      case atStart => exact HI.out
      case round =>
        clear HI
        obtain ⟨j, n, hj, hni, rfl, rfl, hmx, hbj⟩ := hrel
        have HM := hideP hmx
        clear hmx
        rcases j with _ | k
        · have HN := hideP (show n = lv (ddOf ds) i by have := HM.out; simp only [lvS, Nat.max_zero] at this; exact this)
          have HX := hideP (show nV (lvL (ddOf ds) i) ++ [Value.int .i64 (n : Int)] = nV (lvL (ddOf ds) (i + 1)) by rw [lvL_eq, lvL_eq, List.range_succ, List.map_append, nV_append, HN.out]; rfl)
          have horj := hor0.below hbj
          have hbwj := hb0.trans (hbj.mono hb0.size)
          have hll : (lvL (ddOf ds) i).length ≤ 60 := by rw [lvL_len]; omega
          obtain ⟨A7, c7, w7, hrun, hor7, hbel, hgr, _⟩ := app_row (P := Tryd.prog) Tryd.underlying32 intInfo rfl wr w.heap.size 32 A c _ horj [.int .i64 (n : Int)] (by simp [Value.oneCell']) (by rw [nV_length]; simp only [List.length_singleton]; omega) (by decide) hbwj.size
          have hb7 := hbel w.heap.size w (Nat.le_refl _) hbwj
          rw [HX.out, nV_length, nV_length] at hrun
          rw [HX.out] at hor7
          have HR := hideP hrun
          clear hrun hgr hbel HX HN HM hor0 horj hD0
          simp only [Int.ofNat_zero, Int.natCast_zero] at *
          go_wp2_with (at_builtin; refine Lib.wpList_append_run _ rfl _ _ _ _ rfl _ _ rfl rfl _ _ HR.out ?_)
          go_roundw
          case rel => exact ⟨i + 1, A7, c7, by omega, by go_num, rfl, hor7, hb7⟩
          case measure => simp [intOf] <;> omega
        · have hkl : k < ds.length := by omega
          rw [show (((k + 1 : Nat) : Int) - 1) = (k : Int) by omega]
          obtain ⟨⟨b1, o1, eA1, hbl1, y1⟩, hos1⟩ := (hD0.below hbj).at_ hkl
          injection eA1 with eA1
          injection eA1 with e1 e2 _
          subst e1; subst e2
          have hc1 := HCK.out _ (show ds[k].d ∈ ddOf ds from List.mem_map.2 ⟨_, List.getElem_mem hkl, rfl⟩)
          have HS := hideP (show lvS (ddOf ds) (lv (ddOf ds)) ((ddOf ds).getD i []) (k + 1) = if clB ((ddOf ds).getD k []) ((ddOf ds).getD i []) = true then max (lvS (ddOf ds) (lv (ddOf ds)) ((ddOf ds).getD i []) k) (lv (ddOf ds) k + 1) else lvS (ddOf ds) (lv (ddOf ds)) ((ddOf ds).getD i []) k from rfl)
          rw [ddOf_get hkl] at HS
          obtain ⟨bo, oo, eO, hbo, z⟩ := (hor0.below hbj).vs k _ (nV_get (lvL_at (ddOf ds) (show k < i by omega)))
          subst eO
          have hlk := lv_le (ddOf ds) k
          have hos2 := hos0.go hbj
          have x1 := (hbj.cell (p := ⟨gx, 0, none⟩) hgx).trans hbx
          have hgx2 := Nat.lt_of_lt_of_le hgx hbj.size
          have hcl2 : clB ds[k].d ((ddOf ds).getD i []) = clB ds[k].d dy := by rw [HGI.out]
          rw [hcl2] at HS
          have hll : (lvL (ddOf ds) i).length ≤ i := by rw [lvL_len]; exact Nat.le_refl _
          have hll2 : i ≤ (lvL (ddOf ds) i).length := by rw [lvL_len]; exact Nat.le_refl _
          clear hcl2 hbx hgx hor0 hD0 hos0 hD
          generalize ds[k] = x at y1 hos1 hc1 HS
          obtain ⟨Dx, cx, dx⟩ := x
          simp only [dlV] at y1 hos1 hc1 HS
          have g3 : (0 : Int) ≤ (k : Int) := by omega
          have g4 : (k : Int) < (ds.length : Int) := by omega
          have g5 : (k : Int) < ((lvL (ddOf ds) i).length : Int) := by omega
          have hbd : Below wr.heap.size wr wr.drew := (Below.refl _ _).drew
          have HC := hideP (rclash_any Dx Dy cx cy dx dy wr.drew (hos1.go hbd) (hos2.go hbd) hc1 hc2)
          have k1 : wr.drew.cell? ⟨b2, o2 + k, none⟩ = some (.slice Dx dx.length cx) ∧ wr.drew.cell? ⟨gx, 0, none⟩ = some (.slice Dy dy.length cy) ∧ wr.drew.cell? ⟨bo, oo + k, none⟩ = some (.int .i64 (lv (ddOf ds) k : Int)) := ⟨y1, x1, z⟩
          have h1 : b2 < wr.drew.heap.size := hbl1
          have h2 : gx < wr.drew.heap.size := hgx2
          have h3 : bo < wr.drew.heap.size := hbo
          have hbid := hbj.drew
          clear hos1 hos2 hbd y1 x1 z hc1 hbj hbl1 hgx2 hbo hbl2
          generalize lv (ddOf ds) k = vk at HS k1 hlk
          generalize hcl : clB dx dy = cl at HS HC
          clear hcl
          cases cl
          · have HM' := hideP (show max n (lvS (ddOf ds) (lv (ddOf ds)) ((ddOf ds).getD i []) k) = lv (ddOf ds) i by rw [← HM.out, HS.out]; rfl)
            clear HS HM
            obtain ⟨y1, x1, z1⟩ := k1
            clear z1
            go_wp2_with fail
            first
              | (go_region_with ((go_at_call 35; refine HC.out.mono ?_; rintro e2 w8 ⟨rfl, hb8⟩)))
              | fail
            all_goals
              have hb9 := hbid.trans (hb8.mono hbid.size)
              clear hb8 HC
              go_wp2_with fail
              go_roundw
              case rel => exact ⟨k, n, by omega, hni, rfl, rfl, HM'.out, hb9⟩
              case measure => simp [intOf] <;> omega
          · have HS' := hideP (show lvS (ddOf ds) (lv (ddOf ds)) ((ddOf ds).getD i []) (k + 1) = max (lvS (ddOf ds) (lv (ddOf ds)) ((ddOf ds).getD i []) k) (vk + 1) from HS.out)
            clear HS
            by_cases hnv : n ≤ vk
            · have HM' := hideP (show max (vk + 1) (lvS (ddOf ds) (lv (ddOf ds)) ((ddOf ds).getD i []) k) = lv (ddOf ds) i by rw [← HM.out, HS'.out]; omega)
              have gd : decide (n ≤ vk) = true := by simp [hnv]
              have gd2 : (n : Int) ≤ (vk : Int) := by omega
              clear HS' HM
              go_wp2_with fail
              go_region_held3 (fun w' => w'.cell? ⟨b2, o2 + k, none⟩ = some (.slice Dx dx.length cx) ∧ w'.cell? ⟨gx, 0, none⟩ = some (.slice Dy dy.length cy) ∧ w'.cell? ⟨bo, oo + k, none⟩ = some (.int .i64 (vk : Int))) (with_reducible first | exact k1 | exact k2) (first
                | (go_at_call 35; refine HC.out.mono ?_; rintro e2 w8 ⟨rfl, hb8⟩; have k2 := And.intro ((hb8.cell (p := ⟨b2, o2 + k, none⟩) h1).trans k1.1) (And.intro ((hb8.cell (p := ⟨gx, 0, none⟩) h2).trans k1.2.1) ((hb8.cell (p := ⟨bo, oo + k, none⟩) h3).trans k1.2.2))))
              all_goals
                have hb9 := hbid.trans (hb8.mono hbid.size)
                have z8 := k2.2.2
                clear hb8 HC k1 k2
                go_wp2_with fail
                go_roundw
                case rel => exact ⟨k, vk + 1, by omega, by omega, rfl, by go_num, HM'.out, hb9⟩
                case measure => simp [intOf] <;> omega
            · have HM' := hideP (show max n (lvS (ddOf ds) (lv (ddOf ds)) ((ddOf ds).getD i []) k) = lv (ddOf ds) i by rw [← HM.out, HS'.out]; omega)
              have gd : decide (n ≤ vk) = false := by simp; omega
              have gd2 : ¬ (n : Int) ≤ (vk : Int) := by omega
              clear HS' HM
              go_wp2_with fail
              go_region_held3 (fun w' => w'.cell? ⟨b2, o2 + k, none⟩ = some (.slice Dx dx.length cx) ∧ w'.cell? ⟨gx, 0, none⟩ = some (.slice Dy dy.length cy) ∧ w'.cell? ⟨bo, oo + k, none⟩ = some (.int .i64 (vk : Int))) (with_reducible first | exact k1 | exact k2) (first
                | (go_at_call 35; refine HC.out.mono ?_; rintro e2 w8 ⟨rfl, hb8⟩; have k2 := And.intro ((hb8.cell (p := ⟨b2, o2 + k, none⟩) h1).trans k1.1) (And.intro ((hb8.cell (p := ⟨gx, 0, none⟩) h2).trans k1.2.1) ((hb8.cell (p := ⟨bo, oo + k, none⟩) h3).trans k1.2.2))))
              all_goals
                have hb9 := hbid.trans (hb8.mono hbid.size)
                clear hb8 HC k1 k2
                go_wp2_with fail
                go_roundw
                case rel => exact ⟨k, n, by omega, hni, rfl, rfl, HM'.out, hb9⟩
                case measure => simp [intOf] <;> omega
    · have hie : i = ds.length := by omega
      subst hie
      have HR := hideP (show RetN w (lvL (ddOf ds) ds.length) (.returned (.slice A (lvL (ddOf ds) ds.length).length c)) wr from ⟨A, c, rfl, hor, hbw⟩)
      clear hor
      go_wp2_with fail
      go_ret
      exact HR.out
end Go.Proofs.YtgcnbifgnaepnaaDoor
