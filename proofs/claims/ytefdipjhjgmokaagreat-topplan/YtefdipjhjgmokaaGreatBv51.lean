/-
  plan.fill and plan.choice.
  Rows that make lays, a slice cut short.
-/
import Derived.Test.YtefdipjhjgmokaaGreatBv46
import Derived.Test.YtefdipjhjgmokaaGreatBv49
import Derived.Test.YtefdipjhjgmokaaGreatBv50
import Derived.Test.YtefdipjhjgmokaaGreatBv47
import Derived.Test.YtefdipjhjgmokaaGreatBv2
import Derived.Laws.MakeOwn
import Derived.WalkKit
import Derived.WalkSpells
import Derived.WalkLawsBesides
set_option linter.unusedVariables false
set_option linter.unusedSimpArgs false
namespace Go.Proofs.YtefdipjhjgmokaaGreat
open Go.RowKit Go.WideMaps Go.Maps

/-- a table that holds all -/
def RetFill (w : World) (ds : List Dl) (e : Ending) (w' : World) : Prop :=
  ∃ g left, e = .returned (.pointer (some ⟨g, 0, none⟩)) ∧ TB w' w.heap.size g ds.length left ∧ Lk left (ddOf ds) (fun _ => false) ∧ Below w.heap.size w w'
/-- while they are added -/
def FillInv (w1 : World) (g : Nat) (ds : List Dl) (i : Value) (wr : World) : Prop :=
  ∃ (k : Nat) (left : List En), k ≤ ds.length ∧ i = .int .i64 k ∧ TB wr w1.heap.size g k left ∧ Lk left (ddOf (ds.take k)) (fun _ => false) ∧ Below w1.heap.size w1 wr

set_option maxHeartbeats 1000000 in
set_option maxRecDepth 100000 in
theorem fill_any (A : Option Addr) (c : Nat) (ds : List Dl) (w : World) (hDS : DS w A ds) (hc : chkP (ddOf ds) = 0) :
    Calls Tryz.prog 27 #[.slice A ds.length c] w (RetFill w ds) := by
  obtain ⟨hlen, hchk⟩ := chkP_zero.1 hc
  rw [ddOf_len] at hlen
  have HCK := hideP hchk
  clear hc hchk
  go_enter Tryz.func27, Tryz.ntmps27
  go_wp2_with fail
  refine (new_any _).mono ?_
  rintro e w2 ⟨rfl, hTB2, hb3, hlt3⟩
  have HI := hideP (show FillInv w w.heap.size ds (.int .i64 0) w2 from ⟨0, [], Nat.zero_le _, rfl, hTB2, Lk.nil _, hb3⟩)
  clear hTB2 hb3 hlt3
  go_wp2_with fail
  obtain ⟨g, hg⟩ : ∃ g, g = w.heap.size := ⟨_, rfl⟩
  rw [show FillInv w w.heap.size ds = FillInv w g ds by rw [hg]] at HI
  rw [← hg]
  have HG := hideP hg
  clear hg
  go_loopw [9] (FillInv w g ds) (fun i _ => ds.length - (intOf i).toNat)
  case atStart => exact HI.out
  case round =>
    clear HI
    obtain ⟨k, left, hk, rfl, hTB, hLk, hbw⟩ := hrel
    by_cases hkl : k < ds.length
    · obtain ⟨⟨b, o, rfl, hbl, q1⟩, hos⟩ := (hDS.below hbw).at_ hkl
      have hck := HCK.out _ (show ds[k].d ∈ ddOf ds from List.mem_map.2 ⟨_, List.getElem_mem hkl, rfl⟩)
      have HT := hideP (ddOf_take hkl)
      have hdl : (ddOf (ds.take k)).length = k := by rw [ddOf_len, List.length_take]; omega
      generalize ds[k] = x at q1 hos hck HT
      obtain ⟨Dx, cx, dx⟩ := x
      simp only [dlV] at q1 hos hck HT
      have hb4 := (Below.refl wr.heap.size wr).alloc (Nat.le_refl _) (.cells #[.slice Dx dx.length cx] 32)
      have hTB4 := hTB.below hb4
      have hos4 := hos.go hb4
      have hbw4 := hbw.trans (hb4.mono hbw.size)
      have HL := hideP (fun A c => hLk.add rfl A c dx)
      rw [hdl, ← HT.out] at HL
      have r1 : (wr.alloc (.cells #[.slice Dx dx.length cx] 32)).cell? ⟨wr.heap.size, 0, none⟩ = some (.slice Dx dx.length cx) := by simp
      have hv : addV k dx = (k, 0) := by unfold addV; rw [if_pos hck, if_pos (by omega)]
      have g1 : (0 : Int) ≤ (k : Int) := by omega
      have g2 : (k : Int) < (ds.length : Int) := by omega
      have HV := hideP hv
      clear hTB hLk hos hb4 hDS HT hv
      go_wp2_with fail
      refine (add_any g w.heap.size k left Dx cx dx _ hTB4 hbw4.size hos4).mono ?_
      rintro e w5 ⟨he, hK5, hT5⟩
      rw [HV.out] at he hT5
      subst he
      obtain ⟨A5, c5, hT6⟩ : ∃ A c, TB w5 w.heap.size g (k + 1) (left ++ [⟨k, A, c, dx⟩]) := by
        rcases hT5 with ⟨_, h⟩ | ⟨h, _⟩
        · exact h
        · exact absurd rfl h
      have hb6 := hbw4.trans hK5.bel
      have hL6 := HL.out A5 c5
      clear hT5 hK5 hTB4 hos4 r1 HV HL
      go_wp2_with fail
      go_roundw
      case rel => exact ⟨k + 1, _, by omega, by go_num, hT6, hL6, hb6⟩
      case measure => simp [intOf] <;> omega
    · have hkk : k = ds.length := by omega
      subst hkk
      rw [List.take_length] at hLk
      have HR := hideP (show RetFill w ds (.returned (.pointer (some ⟨g, 0, none⟩))) wr from ⟨g, left, rfl, hTB, hLk, hbw⟩)
      clear hTB hLk
      go_wp2_with fail
      go_ret
      exact HR.out

set_option maxHeartbeats 400000 in
set_option maxRecDepth 100000 in
theorem choice_any (P : Option Addr) (c : Nat) (ps : List Int) (s k : Nat) (w : World) (hP : IS w P ps) (hl : ps.length ≤ 9223372036854775807) (h1 : 1 ≤ k) (h2 : k ≤ 60) (hs : s ≤ 60) :
    Calls Tryz.prog 30 #[.slice P ps.length c, .int .i64 (s : Int), .int .i64 (k : Int)] w fun e w' => e = .returned (.int .i64 (chV ps s k : Int)) ∧ w = w' := by
  by_cases h : s < ps.length
  · have HC := hideP (show chV ps s k = wi ps[s] k by unfold chV; rw [if_pos h, List.getD_eq_getElem?_getD, List.getElem?_eq_getElem h]; rfl)
    obtain ⟨b, o, rfl, hbl, q1⟩ := hP s _ (List.getElem?_eq_getElem h)
    generalize ps[s] = z at q1 HC
    have HW := hideP (wi_eq z k h1 (by omega))
    have g1 : (0 : Int) ≤ (s : Int) := by omega
    have g2 : (s : Int) < (ps.length : Int) := by omega
    have g3 : (1 : Int) ≤ (k : Int) := by omega
    go_enter Tryz.func30, Tryz.ntmps30
    go_wp2_with fail
    go_ret
    exact ⟨ret_int (by rw [HC.out]; exact HW.out), rfl⟩
  · have HC := hideP (show chV ps s k = 0 by unfold chV; rw [if_neg h])
    have g1 : (ps.length : Int) ≤ (s : Int) := by omega
    go_enter Tryz.func30, Tryz.ntmps30
    go_wp2_with fail
    go_ret
    exact ⟨ret_int (by rw [HC.out]; rfl), rfl⟩
end Go.Proofs.YtefdipjhjgmokaaGreat

set_option linter.unusedVariables false
set_option linter.unusedSimpArgs false
namespace Go.Proofs.YtefdipjhjgmokaaGreat
open Go.RowKit

theorem made_bools (n : Nat) : (madeCells (Value.bool false).cells (n * 1)).toList = (List.replicate n false).map Value.bool := by
  rw [Nat.mul_one, madeCells, Array.toList_map]
  apply List.ext_getElem?
  intro i
  simp [Value.cells, Nat.mod_one]
  by_cases h : i < n <;> simp [h, List.getElem?_replicate]
theorem rep_false (n i : Nat) : (List.replicate n false).getD i false = false := by
  rw [List.getD_eq_getElem?_getD, List.getElem?_replicate]; split <;> rfl
theorem slice_upto (T : Option Addr) (n ct m : Nat) (hm : m ≤ ct) (hn : T = none → ct = 0) (w : World) : (Instr.slice 22 (.slice T n ct) none (some (.int .i64 (m : Int))) none).run Tryz.prog w = .ok (.slice T m ct) w := by
  have g1 : (0 : Int) ≤ (m : Int) := by omega
  have g2 : (m : Int) ≤ (ct : Int) := by omega
  cases T with
  | none =>
    obtain rfl := hn rfl
    obtain rfl : m = 0 := by omega
    clear hn hm
    go_simp
  | some a =>
    clear hn hm
    go_simp
theorem made_ints (n : Nat) : (madeCells (Value.int .i64 0).cells (n * 1)).toList = nV (List.replicate n 0) := by
  rw [Nat.mul_one, madeCells, Array.toList_map]
  apply List.ext_getElem?
  intro i
  simp [Value.cells, Nat.mod_one, nV]
  by_cases h : i < n <;> simp [h, List.getElem?_replicate]
end Go.Proofs.YtefdipjhjgmokaaGreat
