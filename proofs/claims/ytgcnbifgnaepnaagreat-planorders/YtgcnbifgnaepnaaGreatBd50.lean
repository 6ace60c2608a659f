/-
  slices.Equal at pairs: two that read the same are equal.
  slices.Equal at bools.
  rokeep.PlanSerial: the law answers true.
-/
import Derived.Test.YtgcnbifgnaepnaaGreatBd24
import Derived.WalkKit
import Derived.WalkSpells
import Derived.WalkLawsBesides
import Derived.Deep.QuietTactic
import Derived.BigQuiet
import Derived.Laws.StructEq
import Derived.Test.YtgcnbifgnaepnaaGreatBd5
import Derived.Test.YtgcnbifgnaepnaaGreatBd39
import Derived.Test.YtgcnbifgnaepnaaGreatBd40
import Derived.Test.YtgcnbifgnaepnaaGreatBd43
import Derived.Test.YtgcnbifgnaepnaaGreatBd46
import Derived.Test.YtgcnbifgnaepnaaGreatBd49
set_option linter.unusedVariables false
set_option linter.unusedSimpArgs false
namespace Go.Proofs.YtgcnbifgnaepnaaGreat
open Go.RowKit

theorem run_neq_pair (k : ByteArray) (n : Int) (w : World) : (binOp .neq 37 (.agg #[.string k, .int .i64 n]) (.agg #[.string k, .int .i64 n])).run Tryz.prog w = .ok (.bool false) w := by
  have u3 := Tryz.underlying3
  have u9 := Tryz.underlying9
  have a3 := Tryz.isAgg3
  have z3 := Tryz.sizeOf3
  have a9 := Tryz.isAgg9
  have z9 := Tryz.sizeOf9
  have hS : Tryz.prog.underlying 37 = some (.struct (Tryz.prog.fieldsOf 37)) := by kernel_rfl
  have hp : Tryz.prog.stoodInHeld 37 = false := by kernel_rfl
  rw [run_neq_struct, show (10000 : Nat) = 9999 + 1 from rfl, run_equalIn_agg w 9999 37 _ _ hS hp]
  simp only [Program.fieldsOf, Tryz.underlying37]
  go_simp

theorem guard_pair (x y : Operand) (xs ys : Array Value) (w : World) : (eqGuard .neq 37 x y (.agg xs) (.agg ys)).run Tryz.prog w = .ok () w := run_eqGuard_agg w .neq 37 x y xs ys (by kernel_rfl)

set_option maxHeartbeats 400000 in
set_option maxRecDepth 100000 in
theorem equal_same (A1 A2 : Option Addr) (c1 c2 : Nat) (l : List Pr) (w : World) (h1 : PS w w.heap.size A1 l) (h2 : PS w w.heap.size A2 l) (hl : l.length < 4611686018427387904) :
    Calls Tryz.prog 10 #[.slice A1 l.length c1, .slice A2 l.length c2] w fun e w' => e = .returned (.bool true) ∧ Below w.heap.size w w' := by
  have d0 : ((l.length : Int) != (l.length : Int)) = false := by simp
  go_enter Tryz.func10, Tryz.ntmps10
  go_wp2_with fail
  go_loopw [13] (fun i wr => ∃ k : Nat, k ≤ l.length ∧ i = .int .i64 k ∧ Below w.heap.size w wr) (fun i _ => l.length - (intOf i).toNat)
  case atStart => exact ⟨0, Nat.zero_le _, rfl, Below.refl _ _⟩
  case round =>
    obtain ⟨k, hk, rfl, hb⟩ := hrel
    by_cases hlt : k < l.length
    · obtain ⟨b, o, rfl, hbl, q1, q2⟩ := h1.below hb k _ (List.getElem?_eq_getElem hlt)
      obtain ⟨b', o', rfl, hbl', q3, q4⟩ := h2.below hb k _ (List.getElem?_eq_getElem hlt)
      clear h1 h2
      generalize l[k] = p at q1 q2 q3 q4
      have g1 : (0 : Int) ≤ (k : Int) := by omega
      have g2 : (k : Int) < (l.length : Int) := by omega
      have n1 := run_neq_pair p.1 p.2
      have n2 := guard_pair
      go_wp2_with fail
      go_quiet (fail)
      go_wp2_with fail
      go_roundw
      case rel => exact ⟨k + 1, by omega, by go_num, ⟨hb.os, hb.tape, hb.output, hb.size, hb.block⟩⟩
      case measure => simp [intOf]; omega
    · go_wp2_with fail
      go_ret
      exact ⟨rfl, hb⟩
end Go.Proofs.YtgcnbifgnaepnaaGreat

set_option linter.unusedVariables false
set_option linter.unusedSimpArgs false
namespace Go.Proofs.YtgcnbifgnaepnaaGreat
open Go.RowKit

set_option maxHeartbeats 400000 in
set_option maxRecDepth 100000 in
theorem bequal_same (A1 A2 : Option Addr) (c1 c2 : Nat) (l : List Bool) (w : World) (h1 : VS w A1 (l.map Value.bool)) (h2 : VS w A2 (l.map Value.bool)) (hl : l.length < 4611686018427387904) :
    Calls Tryz.prog 11 #[.slice A1 l.length c1, .slice A2 l.length c2] w fun e w' => e = .returned (.bool true) ∧ Below w.heap.size w w' := by
  have d0 : ((l.length : Int) != (l.length : Int)) = false := by simp
  go_enter Tryz.func11, Tryz.ntmps11
  go_wp2_with fail
  go_loopw [13] (fun i wr => ∃ k : Nat, k ≤ l.length ∧ i = .int .i64 k ∧ Below w.heap.size w wr) (fun i _ => l.length - (intOf i).toNat)
  case atStart => exact ⟨0, Nat.zero_le _, rfl, Below.refl _ _⟩
  case round =>
    obtain ⟨k, hk, rfl, hb⟩ := hrel
    by_cases hlt : k < l.length
    · obtain ⟨b, o, rfl, hbl, q1⟩ := h1.below hb k (.bool l[k]) (by simp [hlt])
      obtain ⟨b', o', rfl, hbl', q2⟩ := h2.below hb k (.bool l[k]) (by simp [hlt])
      clear h1 h2
      generalize l[k] = p at q1 q2
      have g1 : (0 : Int) ≤ (k : Int) := by omega
      have g2 : (k : Int) < (l.length : Int) := by omega
      have dp : (p != p) = false := by simp
      go_wp2_with fail
      go_quiet (fail)
      go_wp2_with fail
      go_roundw
      case rel => exact ⟨k + 1, by omega, by go_num, ⟨hb.os, hb.tape, hb.output, hb.size, hb.block⟩⟩
      case measure => simp [intOf]; omega
    · go_wp2_with fail
      go_ret
      exact ⟨rfl, hb⟩
end Go.Proofs.YtgcnbifgnaepnaaGreat

set_option linter.unusedVariables false
set_option linter.unusedSimpArgs false
namespace Go.Proofs.YtgcnbifgnaepnaaGreat
open Go.RowKit Go.WideMaps Go.Maps

set_option maxHeartbeats 1000000 in
set_option maxRecDepth 100000 in
theorem pbegun_any (w : World) : Calls Tryz.prog 5 #[] w fun e w' => e = .returned (.bool true) ∧ Below w.heap.size w w' := by
  have HP := hideP (play_lit w)
  go_enter Tryz.func5, Tryz.ntmps5
  go_wp2_with fail
  refine HP.out.mono ?_
  rintro e w1 ⟨A, c, gx, A2, c2, rfl, _, _, hb1⟩
  go_wp2_with fail
  go_ret
  exact ⟨rfl, hb1⟩

theorem dds_chkP {w : World} {B : Nat} {A : Option Addr} {c : Nat} {ds : List Dl} (h : Dds w B A c ds) (hl : ds.length ≤ 60) : chkP (ddOf ds) = 0 :=
  chkP_zero.2 ⟨by rw [ddOf_len]; omega, fun d hd => by obtain ⟨x, hx, rfl⟩ := List.mem_map.1 hd; exact h.chk x hx⟩
theorem chkDs_of_chkP {ds : List Dl} (h : chkP (ddOf ds) = 0) : chkDs (ds.map (·.d)) = 0 := chkDs_zero.2 (chkP_zero.1 h).2

set_option maxHeartbeats 2000000 in
set_option maxRecDepth 100000 in
theorem pserial_walk (A D P : Option Addr) (c cd cp : Nat) (zs : List Int) (cs : List Cl) (ps : List Int) (w : World)
    (hA : IS w A zs) (hAl : zs.length ≤ c) (hAc : c ≤ 9223372036854775807) (hAn : A = none → c = 0)
    (hD : LS w D cs) (hDl : cs.length ≤ cd) (hDc : cd ≤ 9223372036854775807) (hDn : D = none → cd = 0)
    (hP : IS w P ps) (hPl : ps.length ≤ cp) (hPc : cp ≤ 9223372036854775807) (hPn : P = none → cp = 0) :
    Calls Tryz.prog 3 #[.slice A zs.length c, .slice D cs.length cd, .slice P ps.length cp] w fun e w' => e = .returned (.bool true) ∧ Below w.heap.size w w' := by
  go_enter Tryz.func3, Tryz.ntmps3
  go_wp2_with fail
  refine (pbegun_any _).mono ?_
  rintro e w1 ⟨rfl, hb1⟩
  have hA1 := hA.below hb1
  go_wp2_with fail
  refine (pairs_any A c zs _ hA1 hAl hAc hAn).mono ?_
  rintro e w2 ⟨A2, c2, l, rfl, hS2, hsm, hb2⟩
  have hb3 := hb1.trans (hb2.mono hb1.size)
  have hD2 := hD.below hb3
  clear hA1 hb1 hb2 hA hAn
  go_wp2_with fail
  refine (deeds_any D cd 20 cs _ hD2 hDl hDc hDn (by omega)).mono ?_
  rintro e w3 ⟨A3, c3, ds, rfl, hDD, hlen, hb4⟩
  have hb5 := hb3.trans (hb4.mono hb3.size)
  have hS3 := hS2.below hb4
  have hP3 := hP.below hb5
  have hok := hsm.ok
  have hcp := dds_chkP hDD (by omega)
  have hDS := hDD.ds
  have HPL := hideP (play_ok A2 A3 P c2 c3 cp l ds ps w3 hS3 hok hDS hcp hP3 (by omega))
  have HCP := hideP hcp
  clear hD2 hS2 hb3 hb4 hD hDn hP hPn hP3 hDD hsm hcp
  go_wp2_with fail
  refine HPL.out.mono ?_
  rintro e w4 ⟨A4, c4, l4, gx, A5, c5, he, hov4, hok4, hv4, hex4, hor4, hb6⟩
  rw [ddOf_len] at he
  subst he
  have hb7 := hb5.trans (hb6.mono hb5.size)
  have hS4 := hS3.below hb6
  have hDS4 := hDS.below hb6
  have HSE := hideP (serial_any A2 A3 c2 c3 l ds w4 hS4 hok hDS4 (by omega))
  have hsr := play_serial (dd := ddOf ds) (ps := ps) (chkP_zero.1 HCP.out).2 (valOf l)
  rw [hsr] at hv4 hex4
  clear HPL hS3 hDS hb5 hb6 hsr
  go_wp2_with fail
  refine HSE.out.mono ?_
  rintro e w5 (⟨_, A6, c6, l6, A7, c7, he, hov6, hok6, hv6, hor6, hb8⟩ | ⟨hne, _⟩)
  case inr => exact absurd (chkDs_of_chkP HCP.out) hne
  have hlen7 : (serV (valOf l) (ds.map (·.d))).2.length = ds.length := by rw [serV_len]; simp
  have hlen8 : (serV (valOf l) (ddOf ds)).2.length = ds.length := hlen7
  rw [hlen7] at he
  subst he
  obtain rfl : l6 = l4 := hok6.ext hok4 (fun k => by rw [hv6, hv4]; rfl)
  have hb9 := hb7.trans (hb8.mono hb7.size)
  have HE1 := hideP (equal_same A4 A6 c4 c6 l6 w5 (hov4.sv.below hb8).ps hov6.sv.ps (by have := hok6.small; omega))
  have HE2 := hideP (fun (w' : World) (hb : Below w5.heap.size w5 w') => bequal_same (some ⟨gx, 0, none⟩) A7 (ddOf ds).length c7 (serV (valOf l) (ddOf ds)).2 w' ((hex4.vs.below hb8).below hb) (hor6.vs.below hb) (by rw [hlen8]; omega))
  rw [hlen8, ddOf_len] at HE2
  have hor5 := hor4.below hb8
  have hDS5 := hDS4.below hb8
  have d0 : ((ds.length : Int) != (ds.length : Int)) = false := by simp
  clear HSE hov4 hok4 hv4 hex4 hor4 hov6 hv6 hor6 hS4 hDS4 hb7 hb8 hlen7 hlen8
  go_wp2_with fail
  refine HE1.out.mono ?_
  rintro e w6 ⟨rfl, hb10⟩
  have HE3 := hideP (HE2.out _ hb10)
  have hb11 := hb9.trans (hb10.mono hb9.size)
  have hor6 := hor5.below hb10
  have hDS6 := hDS5.below hb10
  clear HE1 HE2 hor5 hDS5 hb9 hb10
  go_wp2_with fail
  refine HE3.out.mono ?_
  rintro e w7 ⟨rfl, hb12⟩
  have hb13 := hb11.trans (hb12.mono hb11.size)
  have hor7 := hor6.below hb12
  have hDS7 := hDS6.below hb12
  obtain ⟨q1, q2, q3, _⟩ := hor7.caps
  rw [nV_length, playN_len, ddOf_len] at q1
  have HO := hideP (porder_any A3 A5 c3 c5 ds (zI (playN (ddOf ds) ps (ddOf ds).length)) w7 hDS7 HCP.out hor7.vs.is_ (by rw [zI_len, playN_len, ddOf_len]; exact q1) (by unfold maxLen at q2; omega) q3)
  rw [show orV (ddOf ds) (zI (playN (ddOf ds) ps (ddOf ds).length)) = (true, 0) from (play_kept (ddOf ds) ps).order, zI_len, playN_len, ddOf_len] at HO
  clear HE3 hor6 hDS6 hb11 hb12 hor7 hDS7 q3
  go_wp2_with fail
  refine HO.out.mono ?_
  rintro e w8 ⟨rfl, hb14⟩
  have hb15 := hb13.trans (hb14.mono hb13.size)
  go_wp2_with fail
  go_ret
  exact ⟨rfl, hb15⟩
end Go.Proofs.YtgcnbifgnaepnaaGreat
