/-
  roref.Deeds.
-/
import Derived.Test.YtgcnbifgnaepnaaDoorRDeed
import Derived.Test.YtgcnbifgnaepnaaDoorDDs
set_option linter.unusedVariables false
set_option linter.unusedSimpArgs false
namespace Go.Proofs.YtgcnbifgnaepnaaDoor
open Go.RowKit Go.WideMaps Go.Maps

/-- what Deeds answers -/
def chkL (ds : List (List Opr)) : Int := if 60 < ds.length then 2 else chkDs ds
set_option maxRecDepth 100000 in
set_option maxHeartbeats 1000000 in
theorem rdeeds_any (D : Option Addr) (cd : Nat) (ds : List Dl) (w : World) (hD : DS w D ds) :
    Calls Tryd.prog 20 #[.slice D ds.length cd] w fun e w' => e = .returned (.int .i64 (chkL (ds.map (·.d)))) ∧ Below w.heap.size w w' := by
  by_cases h60 : 60 < ds.length
  · have HC := hideP (show chkL (ds.map (·.d)) = 2 by unfold chkL; rw [if_pos (by simpa using h60)])
    have g1 : (60 : Int) < (ds.length : Int) := by omega
    go_enter Tryd.func20, Tryd.ntmps20
    go_wp2_with fail
    go_ret
    exact ⟨ret_int HC.out.symm, Below.refl _ _⟩
  · have HC := hideP (show chkL (ds.map (·.d)) = chkDs (ds.map (·.d)) by unfold chkL; rw [if_neg (by simpa using h60)])
    have g1 : ¬ (60 : Int) < (ds.length : Int) := by omega
    go_enter Tryd.func20, Tryd.ntmps20
    go_wp2_with fail
    go_loopw [11] (fun i wr => ∃ k : Nat, k ≤ ds.length ∧ i = .int .i64 k ∧ chkDs (ds.map (·.d)) = chkDs ((ds.map (·.d)).drop k) ∧ Below w.heap.size w wr) (fun i _ => ds.length - (intOf i).toNat)
    case atStart => exact ⟨0, Nat.zero_le _, rfl, rfl, Below.refl _ _⟩
    case round =>
      obtain ⟨k, hk, rfl, hchk, hb⟩ := hrel
      by_cases hlt : k < ds.length
      · have hnext := chkDs_next (l := ds.map (·.d)) (k := k) (by simpa using hlt)
        obtain ⟨⟨b, o, rfl, hbl, q1⟩, hos⟩ := (hD.below hb).at_ hlt
        rw [List.getElem_map] at hnext
        generalize ds[k] = x at hnext q1 hos
        have HK := hideP hchk
        have HN := hideP hnext
        clear hchk hnext hD
        obtain ⟨Dx, cx, dx⟩ := x
        simp only [dlV] at q1
        simp only at hos
        have hab := (Below.refl wr.heap.size wr).alloc (Nat.le_refl _) (.cells #[.slice Dx dx.length cx] 36)
        have hb0 := hb.alloc hb.size (.cells #[.slice Dx dx.length cx] 36)
        have hos0 := hos.go hab
        go_wp2_with fail
        refine (rdeed_any Dx cx dx _ hos0).mono ?_
        rintro e w1 ⟨rfl, hb1⟩
        have hb2 := hb0.trans (hb1.mono hb0.size)
        clear hab hb0 hb1 hos hos0
        by_cases h0 : chkD dx = 0
        · have HF := hideP (show chkDs (ds.map (·.d)) = chkDs ((ds.map (·.d)).drop (k + 1)) by rw [HK.out, HN.out, if_pos h0])
          rw [h0]
          clear h0
          go_wp2_with fail
          go_roundw
          case rel => exact ⟨k + 1, by omega, by go_num, HF.out, hb2⟩
          case measure => simp [intOf]; omega
        · have HF := hideP (show chkDs (ds.map (·.d)) = chkD dx by rw [HK.out, HN.out, if_neg h0])
          have d0 : (chkD dx != 0) = true := by simp [h0]
          clear h0
          generalize chkD dx = q at d0 HF ⊢
          go_wp2_with fail
          go_ret
          exact ⟨ret_int (by rw [HC.out, HF.out]), hb2⟩
      · go_wp2_with fail
        go_ret
        exact ⟨ret_int (by rw [HC.out, hchk, List.drop_of_length_le (by simp; omega)]; rfl), hb⟩
end Go.Proofs.YtgcnbifgnaepnaaDoor
