/-
  plan.check and plan.clash.
-/
import Derived.Test.YtgcnbifgnaepnaaDoorDCheck
import Derived.Test.YtgcnbifgnaepnaaDoorDClash
import Derived.Test.YtgcnbifgnaepnaaDoorDdPl
set_option linter.unusedVariables false
set_option linter.unusedSimpArgs false
namespace Go.Proofs.YtgcnbifgnaepnaaDoor
open Go.RowKit

/-- the error of a list of transactions -/
def chkP (dd : List (List Opr)) : Int := if 60 < dd.length then 2 else chkDs dd
theorem chkP_zero {dd : List (List Opr)} : chkP dd = 0 ↔ dd.length ≤ 60 ∧ ∀ d ∈ dd, chkD d = 0 := by
  unfold chkP
  by_cases h : 60 < dd.length
  · rw [if_pos h]; exact ⟨fun e => absurd e (by decide), fun e => by omega⟩
  · rw [if_neg h, chkDs_zero]; exact ⟨fun e => ⟨by omega, e⟩, fun e => e.2⟩

set_option maxHeartbeats 400000 in
set_option maxRecDepth 100000 in
theorem pcheck_any (A : Option Addr) (c : Nat) (ds : List Dl) (w : World) (hD : DS w A ds) (hl : ds.length ≤ 9223372036854775807) :
    Calls Tryd.prog 36 #[.slice A ds.length c] w fun e w' => e = .returned (.int .i64 (chkP (ddOf ds))) ∧ Below w.heap.size w w' := by
  by_cases h60 : 60 < ds.length
  · have HC := hideP (show chkP (ddOf ds) = 2 by unfold chkP; rw [ddOf_len, if_pos h60])
    have g1 : (60 : Int) < (ds.length : Int) := by omega
    go_enter Tryd.func36, Tryd.ntmps36
    go_wp2_with fail
    go_ret
    exact ⟨ret_int HC.out.symm, Below.refl _ _⟩
  have HC := hideP (show chkP (ddOf ds) = chkDs (ddOf ds) by unfold chkP; rw [ddOf_len, if_neg h60])
  have g1 : ¬ (60 : Int) < (ds.length : Int) := by omega
  go_enter Tryd.func36, Tryd.ntmps36
  go_wp2_with fail
  go_loopw [11] (fun i wr => ∃ k : Nat, k ≤ ds.length ∧ i = .int .i64 k ∧ chkDs (ddOf ds) = chkDs ((ddOf ds).drop k) ∧ Below w.heap.size w wr) (fun i _ => ds.length - (intOf i).toNat)
  case atStart => exact ⟨0, Nat.zero_le _, rfl, rfl, Below.refl _ _⟩
  case round =>
    obtain ⟨k, hk, rfl, hchk, hb⟩ := hrel
    by_cases hlt : k < ds.length
    · rw [chkDs_next (by rw [ddOf_len]; exact hlt)] at hchk
      obtain ⟨⟨b, o, rfl, hbl, q1⟩, hos⟩ := (hD.below hb).at_ hlt
      have hdk : (ddOf ds)[k]'(by rw [ddOf_len]; exact hlt) = ds[k].d := by simp [ddOf]
      rw [hdk] at hchk
      generalize ds[k] = x at hchk q1 hos
      obtain ⟨Dx, cx, dx⟩ := x
      simp only [dlV] at q1 hos hchk
      have HK := hideP hchk
      have hab := (Below.refl wr.heap.size wr).alloc (Nat.le_refl _) (.cells #[.slice Dx dx.length cx] 36)
      have hb2 := hb.alloc hb.size (.cells #[.slice Dx dx.length cx] 36)
      have hos2 := hos.go hab
      clear hchk hdk hD hos hab
      go_wp2_with fail
      refine (dcheck_any Dx cx dx _ hos2).mono ?_
      rintro e w3 ⟨rfl, hb3⟩
      have hb4 := hb2.trans (hb3.mono hb2.size)
      clear hb hb2 hb3 hos2
      by_cases h0 : chkD dx = 0
      · have H0 := hideP h0
        rw [h0]
        clear h0
        go_wp2_with fail
        go_roundw
        case rel => exact ⟨k + 1, by omega, by go_num, by rw [HK.out, if_pos H0.out], hb4⟩
        case measure => simp [intOf]; omega
      · have H0 := hideP h0
        have d0 : (chkD dx != 0) = true := by simp [h0]
        clear h0
        generalize hq : chkD dx = q at d0
        have HQ := hideP hq
        clear hq
        go_wp2_with fail
        go_ret
        exact ⟨ret_int (by rw [HC.out, HK.out, if_neg H0.out, HQ.out]), hb4⟩
    · go_wp2_with fail
      go_ret
      exact ⟨ret_int (by rw [HC.out, hchk, List.drop_of_length_le (by rw [ddOf_len]; omega)]; rfl), hb⟩

set_option maxHeartbeats 400000 in
set_option maxRecDepth 100000 in
theorem pclash_ok (D1 D2 : Option Addr) (k1 k2 : Nat) (a b : List Opr) (w : World) (ha : OS w w.heap.size D1 a) (hb : OS w w.heap.size D2 b) (ca : chkD a = 0) (cb : chkD b = 0) :
    Calls Tryd.prog 37 #[.agg #[.slice D1 a.length k1], .agg #[.slice D2 b.length k2]] w fun e w' => e = .returned (.bool (clB a b)) ∧ Below w.heap.size w w' := by
  have hb0 := ((Below.refl w.heap.size w).alloc (Nat.le_refl _) (.cells #[.slice D1 a.length k1] 36)).alloc (by simp) (.cells #[.slice D2 b.length k2] 36)
  have ha0 := ha.go hb0
  have hbb0 := hb.go hb0
  clear ha hb
  have HC := hideP (clash_ok D1 D2 k1 k2 a b _ ha0 hbb0 ca cb)
  go_enter Tryd.func37, Tryd.ntmps37
  go_wp2_with fail
  refine HC.out.mono ?_
  rintro e w1 ⟨rfl, hb1⟩
  have hb2 := hb0.trans (hb1.mono hb0.size)
  go_wp2_with fail
  go_ret
  exact ⟨rfl, hb2⟩
end Go.Proofs.YtgcnbifgnaepnaaDoor
