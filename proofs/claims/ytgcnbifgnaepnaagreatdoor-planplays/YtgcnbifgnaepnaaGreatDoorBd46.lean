/-
  roref.Of and roref.List at maps of values.
  roref.Deeds.
  slices.Equal at pairs: two that read the same are equal.
  slices.Equal at bools.
  slices.Equal at ints.
-/
import Derived.Test.YtgcnbifgnaepnaaGreatDoorBd42
import Derived.Test.YtgcnbifgnaepnaaGreatDoorBd36
import Derived.Test.YtgcnbifgnaepnaaGreatDoorBd14
import Derived.Test.YtgcnbifgnaepnaaGreatDoorBd22
import Derived.WalkKit
import Derived.WalkSpells
import Derived.WalkLawsBesides
import Derived.Deep.QuietTactic
import Derived.BigQuiet
import Derived.Laws.StructEq
import Derived.Test.YtgcnbifgnaepnaaGreatDoorBd3
import Derived.Test.YtgcnbifgnaepnaaGreatDoorBd8
set_option linter.unusedVariables false
set_option linter.unusedSimpArgs false
namespace Go.Proofs.YtgcnbifgnaepnaaGreatDoor
open Go.RowKit Go.WideMaps Go.Maps

/-- the list of a map with the values of a valid store is that store -/
theorem lists_eq {D : DataW Unit} {l m : List Pr} (hL : Lists D l) (hm : Ok m) (h : ∀ k, mv D k = valOf m k) : l = m := by
  have hin : ∀ p ∈ l, ∃ q ∈ m, q.1 = p.1 ∧ q.2 = p.2 := fun p hp => by
    have h1 : valOf m p.1 = p.2 := by rw [← h, ← hL.val, valOf_mem hL.srt hp]
    obtain ⟨q, hq, e⟩ := valOf_ne (l := m) (k := p.1) (by rw [h1]; exact hL.nz p hp)
    exact ⟨q, hq, e, by rw [← h1, ← e, valOf_mem hm.srt hq]⟩
  have hl : Ok l := ⟨hL.srt, fun p hp => by obtain ⟨q, hq, e, _⟩ := hin p hp; rw [← e]; exact hm.key q hq, fun p hp => by obtain ⟨q, hq, _, e⟩ := hin p hp; rw [← e]; exact hm.val q hq, hL.nz⟩
  exact hl.ext hm fun k => by rw [hL.val, h]
/-- Of and List, in these words -/
theorem of_mv (A : Option Addr) (c : Nat) (l : List Pr) (w : World) (hA : SV w A c l) (h : Ok l) : Calls Tryz.prog 10 #[.slice A l.length c] w fun e w' => ∃ b, e = .returned (.map (some b)) ∧ MV w' b l.length (valOf l) ∧ Below w.heap.size w w' := by
  refine (of_any A c l w hA.ps (by have := h.small; omega) h.rd).mono ?_
  rintro e w' ⟨b, D, rfl, hown, hIM, hmv, _, hb⟩
  exact ⟨b, rfl, ⟨D, hown, hIM, fun k => by rw [hmv, lastV_eq h.srt]⟩, hb⟩
theorem list_mv (b n : Nat) (f : VF) (m : List Pr) (w : World) (hM : MV w b n f) (hn : n ≤ 1000000000) (hm : Ok m) (hv : valOf m = f) : Calls Tryz.prog 12 #[.map (some b)] w fun e w' => ∃ A c, e = .returned (.slice A m.length c) ∧ SV w' A c m ∧ Below w.heap.size w w' := by
  obtain ⟨D, hown, hIM, hmv⟩ := hM.ex
  have := hown.size_le
  refine (list_any b n D w hown (by omega)).mono ?_
  rintro e w' ⟨A, c, l, rfl, hsv, hli, _, hb⟩
  obtain rfl := lists_eq hli hm (fun k => by rw [hmv, hv])
  exact ⟨A, c, rfl, hsv, hb⟩
end Go.Proofs.YtgcnbifgnaepnaaGreatDoor

set_option linter.unusedVariables false
set_option linter.unusedSimpArgs false
namespace Go.Proofs.YtgcnbifgnaepnaaGreatDoor
open Go.RowKit Go.WideMaps Go.Maps

/-- what Deeds answers -/
def chkL (ds : List (List Opr)) : Int := if 60 < ds.length then 2 else chkDs ds
set_option maxRecDepth 100000 in
set_option maxHeartbeats 1000000 in
theorem rdeeds_any (D : Option Addr) (cd : Nat) (ds : List Dl) (w : World) (hD : DS w D ds) :
    Calls Tryz.prog 8 #[.slice D ds.length cd] w fun e w' => e = .returned (.int .i64 (chkL (ds.map (·.d)))) ∧ Below w.heap.size w w' := by
  by_cases h60 : 60 < ds.length
  · have HC := hideP (show chkL (ds.map (·.d)) = 2 by unfold chkL; rw [if_pos (by simpa using h60)])
    have g1 : (60 : Int) < (ds.length : Int) := by omega
    go_enter Tryz.func8, Tryz.ntmps8
    go_wp2_with fail
    go_ret
    exact ⟨ret_int HC.out.symm, Below.refl _ _⟩
  · have HC := hideP (show chkL (ds.map (·.d)) = chkDs (ds.map (·.d)) by unfold chkL; rw [if_neg (by simpa using h60)])
    have g1 : ¬ (60 : Int) < (ds.length : Int) := by omega
    go_enter Tryz.func8, Tryz.ntmps8
    go_wp2_with fail
    go_loopw [11] (fun i wr => ∃ k : Nat, k ≤ ds.length ∧ i = .int .i64 k ∧ chkDs (ds.map (·.d)) = chkDs ((ds.map (·.d)).drop k) ∧ Below w.heap.size w wr) (fun i _ => ds.length - (intOf i).toNat)
    case atStart => exact ⟨0, Nat.zero_le _, rfl, rfl, Below.refl _ _⟩
    case round =>
      obtain ⟨k, hk, rfl, hchk, hb⟩ := hrel
      by_cases hlt : k < ds.length
      · have hnext := chkDs_next (l := ds.map (·.d)) (k := k) (by simpa using hlt)
        obtain ⟨⟨b, o, rfl, hbl, q1⟩, hos⟩ := (hD.below hb).at_ hlt
        rw [List.getElem_map] at hnext
        generalize ds[k] = x at hnext q1 hos
        have HK := hideP hchk
        have HN := hideP hnext
        clear hchk hnext hD
        obtain ⟨Dx, cx, dx⟩ := x
        simp only [dlV] at q1
        simp only at hos
        have hab := (Below.refl wr.heap.size wr).alloc (Nat.le_refl _) (.cells #[.slice Dx dx.length cx] 33)
        have hb0 := hb.alloc hb.size (.cells #[.slice Dx dx.length cx] 33)
        have hos0 := hos.go hab
        go_wp2_with fail
        refine (rdeed_any Dx cx dx _ hos0).mono ?_
        rintro e w1 ⟨rfl, hb1⟩
        have hb2 := hb0.trans (hb1.mono hb0.size)
        clear hab hb0 hb1 hos hos0
        by_cases h0 : chkD dx = 0
        · have HF := hideP (show chkDs (ds.map (·.d)) = chkDs ((ds.map (·.d)).drop (k + 1)) by rw [HK.out, HN.out, if_pos h0])
          rw [h0]
          clear h0
          go_wp2_with fail
          go_roundw
          case rel => exact ⟨k + 1, by omega, by go_num, HF.out, hb2⟩
          case measure => simp [intOf]; omega
        · have HF := hideP (show chkDs (ds.map (·.d)) = chkD dx by rw [HK.out, HN.out, if_neg h0])
          have d0 : (chkD dx != 0) = true := by simp [h0]
          clear h0
          generalize chkD dx = q at d0 HF ⊢
          go_wp2_with fail
          go_ret
          exact ⟨ret_int (by rw [HC.out, HF.out]), hb2⟩
      · go_wp2_with fail
        go_ret
        exact ⟨ret_int (by rw [HC.out, hchk, List.drop_of_length_le (by simp; omega)]; rfl), hb⟩
end Go.Proofs.YtgcnbifgnaepnaaGreatDoor

set_option linter.unusedVariables false
set_option linter.unusedSimpArgs false
namespace Go.Proofs.YtgcnbifgnaepnaaGreatDoor
open Go.RowKit

theorem run_neq_pair (k : ByteArray) (n : Int) (w : World) : (binOp .neq 45 (.agg #[.string k, .int .i64 n]) (.agg #[.string k, .int .i64 n])).run Tryz.prog w = .ok (.bool false) w := by
  have u3 := Tryz.underlying3
  have u9 := Tryz.underlying9
  have a3 := Tryz.isAgg3
  have z3 := Tryz.sizeOf3
  have a9 := Tryz.isAgg9
  have z9 := Tryz.sizeOf9
  have hS : Tryz.prog.underlying 45 = some (.struct (Tryz.prog.fieldsOf 45)) := by kernel_rfl
  have hp : Tryz.prog.stoodInHeld 45 = false := by kernel_rfl
  rw [run_neq_struct, show (10000 : Nat) = 9999 + 1 from rfl, run_equalIn_agg w 9999 45 _ _ hS hp]
  simp only [Program.fieldsOf, Tryz.underlying45]
  go_simp

theorem guard_pair (x y : Operand) (xs ys : Array Value) (w : World) : (eqGuard .neq 45 x y (.agg xs) (.agg ys)).run Tryz.prog w = .ok () w := run_eqGuard_agg w .neq 45 x y xs ys (by kernel_rfl)

set_option maxHeartbeats 400000 in
set_option maxRecDepth 100000 in
theorem equal_same (A1 A2 : Option Addr) (c1 c2 : Nat) (l : List Pr) (w : World) (h1 : PS w w.heap.size A1 l) (h2 : PS w w.heap.size A2 l) (hl : l.length < 4611686018427387904) :
    Calls Tryz.prog 11 #[.slice A1 l.length c1, .slice A2 l.length c2] w fun e w' => e = .returned (.bool true) ∧ Below w.heap.size w w' := by
  have d0 : ((l.length : Int) != (l.length : Int)) = false := by simp
  go_enter Tryz.func11, Tryz.ntmps11
  go_wp2_with fail
  go_loopw [13] (fun i wr => ∃ k : Nat, k ≤ l.length ∧ i = .int .i64 k ∧ Below w.heap.size w wr) (fun i _ => l.length - (intOf i).toNat)
  case atStart => exact ⟨0, Nat.zero_le _, rfl, Below.refl _ _⟩
  case round =>
    obtain ⟨k, hk, rfl, hb⟩ := hrel
    by_cases hlt : k < l.length
    · obtain ⟨b, o, rfl, hbl, q1, q2⟩ := h1.below hb k _ (List.getElem?_eq_getElem hlt)
      obtain ⟨b', o', rfl, hbl', q3, q4⟩ := h2.below hb k _ (List.getElem?_eq_getElem hlt)
      clear h1 h2
      generalize l[k] = p at q1 q2 q3 q4
      have g1 : (0 : Int) ≤ (k : Int) := by omega
      have g2 : (k : Int) < (l.length : Int) := by omega
      have n1 := run_neq_pair p.1 p.2
      have n2 := guard_pair
      go_wp2_with fail
      go_quiet (fail)
      go_wp2_with fail
      go_roundw
      case rel => exact ⟨k + 1, by omega, by go_num, ⟨hb.os, hb.tape, hb.output, hb.size, hb.block⟩⟩
      case measure => simp [intOf]; omega
    · go_wp2_with fail
      go_ret
      exact ⟨rfl, hb⟩
end Go.Proofs.YtgcnbifgnaepnaaGreatDoor

set_option linter.unusedVariables false
set_option linter.unusedSimpArgs false
namespace Go.Proofs.YtgcnbifgnaepnaaGreatDoor
open Go.RowKit

set_option maxHeartbeats 400000 in
set_option maxRecDepth 100000 in
theorem bequal_same (A1 A2 : Option Addr) (c1 c2 : Nat) (l : List Bool) (w : World) (h1 : VS w A1 (l.map Value.bool)) (h2 : VS w A2 (l.map Value.bool)) (hl : l.length < 4611686018427387904) :
    Calls Tryz.prog 5 #[.slice A1 l.length c1, .slice A2 l.length c2] w fun e w' => e = .returned (.bool true) ∧ Below w.heap.size w w' := by
  have d0 : ((l.length : Int) != (l.length : Int)) = false := by simp
  go_enter Tryz.func5, Tryz.ntmps5
  go_wp2_with fail
  go_loopw [13] (fun i wr => ∃ k : Nat, k ≤ l.length ∧ i = .int .i64 k ∧ Below w.heap.size w wr) (fun i _ => l.length - (intOf i).toNat)
  case atStart => exact ⟨0, Nat.zero_le _, rfl, Below.refl _ _⟩
  case round =>
    obtain ⟨k, hk, rfl, hb⟩ := hrel
    by_cases hlt : k < l.length
    · obtain ⟨b, o, rfl, hbl, q1⟩ := h1.below hb k (.bool l[k]) (by simp [hlt])
      obtain ⟨b', o', rfl, hbl', q2⟩ := h2.below hb k (.bool l[k]) (by simp [hlt])
      clear h1 h2
      generalize l[k] = p at q1 q2
      have g1 : (0 : Int) ≤ (k : Int) := by omega
      have g2 : (k : Int) < (l.length : Int) := by omega
      have dp : (p != p) = false := by simp
      go_wp2_with fail
      go_quiet (fail)
      go_wp2_with fail
      go_roundw
      case rel => exact ⟨k + 1, by omega, by go_num, ⟨hb.os, hb.tape, hb.output, hb.size, hb.block⟩⟩
      case measure => simp [intOf]; omega
    · go_wp2_with fail
      go_ret
      exact ⟨rfl, hb⟩
end Go.Proofs.YtgcnbifgnaepnaaGreatDoor

set_option linter.unusedVariables false
set_option linter.unusedSimpArgs false
namespace Go.Proofs.YtgcnbifgnaepnaaGreatDoor
open Go.RowKit

set_option maxHeartbeats 400000 in
set_option maxRecDepth 100000 in
theorem iequal_same (A1 A2 : Option Addr) (c1 c2 : Nat) (l : List Nat) (w : World) (h1 : VS w A1 (nV l)) (h2 : VS w A2 (nV l)) (hl : l.length < 4611686018427387904) :
    Calls Tryz.prog 6 #[.slice A1 l.length c1, .slice A2 l.length c2] w fun e w' => e = .returned (.bool true) ∧ Below w.heap.size w w' := by
  have d0 : ((l.length : Int) != (l.length : Int)) = false := by simp
  go_enter Tryz.func6, Tryz.ntmps6
  go_wp2_with fail
  go_loopw [13] (fun i wr => ∃ k : Nat, k ≤ l.length ∧ i = .int .i64 k ∧ Below w.heap.size w wr) (fun i _ => l.length - (intOf i).toNat)
  case atStart => exact ⟨0, Nat.zero_le _, rfl, Below.refl _ _⟩
  case round =>
    obtain ⟨k, hk, rfl, hb⟩ := hrel
    by_cases hlt : k < l.length
    · obtain ⟨b, o, rfl, hbl, q1⟩ := h1.below hb k (.int .i64 (l[k] : Int)) (by simp [nV, hlt])
      obtain ⟨b', o', rfl, hbl', q2⟩ := h2.below hb k (.int .i64 (l[k] : Int)) (by simp [nV, hlt])
      clear h1 h2
      generalize (l[k] : Int) = p at q1 q2
      have g1 : (0 : Int) ≤ (k : Int) := by omega
      have g2 : (k : Int) < (l.length : Int) := by omega
      have dp : (p != p) = false := by simp
      go_wp2_with fail
      go_quiet (fail)
      go_wp2_with fail
      go_roundw
      case rel => exact ⟨k + 1, by omega, by go_num, ⟨hb.os, hb.tape, hb.output, hb.size, hb.block⟩⟩
      case measure => simp [intOf]; omega
    · go_wp2_with fail
      go_ret
      exact ⟨rfl, hb⟩
end Go.Proofs.YtgcnbifgnaepnaaGreatDoor
