/-
  slices.Equal at pairs: two that read the same are equal.
  Is a number in a list (no program in it).
  slices.Index and slices.Contains at ints.
  slices.IsSorted at ints.
-/
import Derived.Test.YtpefdonhacmaoaaGreatBd7
import Derived.WalkKit
import Derived.WalkSpells
import Derived.WalkLawsBesides
import Derived.Deep.QuietTactic
import Derived.BigQuiet
import Derived.Laws.StructEq
import Derived.Test.YtpefdonhacmaoaaGreatBd1
import Derived.Test.YtpefdonhacmaoaaGreatBd3
import Derived.Deep.RegionHeld3
set_option linter.unusedVariables false
set_option linter.unusedSimpArgs false
namespace Go.Proofs.YtpefdonhacmaoaaGreat
open Go.RowKit

theorem run_neq_pair (k : ByteArray) (n : Int) (w : World) : (binOp .neq 51 (.agg #[.string k, .int .i64 n]) (.agg #[.string k, .int .i64 n])).run Tryz.prog w = .ok (.bool false) w := by
  have u3 := Tryz.underlying3
  have u9 := Tryz.underlying9
  have a3 := Tryz.isAgg3
  have z3 := Tryz.sizeOf3
  have a9 := Tryz.isAgg9
  have z9 := Tryz.sizeOf9
  have hS : Tryz.prog.underlying 51 = some (.struct (Tryz.prog.fieldsOf 51)) := by kernel_rfl
  have hp : Tryz.prog.stoodInHeld 51 = false := by kernel_rfl
  rw [run_neq_struct, show (10000 : Nat) = 9999 + 1 from rfl, run_equalIn_agg w 9999 51 _ _ hS hp]
  simp only [Program.fieldsOf, Tryz.underlying51]
  go_simp

theorem guard_pair (x y : Operand) (xs ys : Array Value) (w : World) : (eqGuard .neq 51 x y (.agg xs) (.agg ys)).run Tryz.prog w = .ok () w := run_eqGuard_agg w .neq 51 x y xs ys (by kernel_rfl)

set_option maxHeartbeats 400000 in
set_option maxRecDepth 100000 in
theorem equal_same (A1 A2 : Option Addr) (c1 c2 : Nat) (l : List Pr) (w : World) (h1 : PS w w.heap.size A1 l) (h2 : PS w w.heap.size A2 l) (hl : l.length < 4611686018427387904) :
    Calls Tryz.prog 15 #[.slice A1 l.length c1, .slice A2 l.length c2] w fun e w' => e = .returned (.bool true) ∧ Below w.heap.size w w' := by
  have d0 : ((l.length : Int) != (l.length : Int)) = false := by simp
  go_enter Tryz.func15, Tryz.ntmps15
  go_wp2_with fail
  go_loopw [13] (fun i wr => ∃ k : Nat, k ≤ l.length ∧ i = .int .i64 k ∧ Below w.heap.size w wr) (fun i _ => l.length - (intOf i).toNat)
  case atStart => exact ⟨0, Nat.zero_le _, rfl, Below.refl _ _⟩
  case round =>
    obtain ⟨k, hk, rfl, hb⟩ := hrel
    by_cases hlt : k < l.length
    · obtain ⟨b, o, rfl, hbl, q1, q2⟩ := h1.below hb k _ (List.getElem?_eq_getElem hlt)
      obtain ⟨b', o', rfl, hbl', q3, q4⟩ := h2.below hb k _ (List.getElem?_eq_getElem hlt)
      clear h1 h2
      generalize l[k] = p at q1 q2 q3 q4
      have g1 : (0 : Int) ≤ (k : Int) := by omega
      have g2 : (k : Int) < (l.length : Int) := by omega
      have n1 := run_neq_pair p.1 p.2
      have n2 := guard_pair
      go_wp2_with fail
      go_quiet (fail)
      go_wp2_with fail
      go_roundw
      case rel => exact ⟨k + 1, by omega, by go_num, ⟨hb.os, hb.tape, hb.output, hb.size, hb.block⟩⟩
      case measure => simp [intOf]; omega
    · go_wp2_with fail
      go_ret
      exact ⟨rfl, hb⟩
end Go.Proofs.YtpefdonhacmaoaaGreat

set_option linter.unusedVariables false
set_option linter.unusedSimpArgs false
namespace Go.Proofs.YtpefdonhacmaoaaGreat

/-- is a number in a list? -/
def inI (z : Int) (l : List Int) : Bool := l.any fun x => decide (x = z)
theorem inI_iff {z : Int} {l : List Int} : inI z l = true ↔ z ∈ l := by simp [inI]
theorem inI_no {z : Int} {l : List Int} : inI z l = false ↔ z ∉ l := by rw [← Bool.not_eq_true, inI_iff]
end Go.Proofs.YtpefdonhacmaoaaGreat

set_option linter.unusedVariables false
set_option linter.unusedSimpArgs false
namespace Go.Proofs.YtpefdonhacmaoaaGreat
open Go.RowKit

set_option maxHeartbeats 400000 in
set_option maxRecDepth 100000 in
theorem iindex_any (A : Option Addr) (c : Nat) (l : List Int) (x : Int) (w : World) (hA : IS w A l) (hl : l.length < 4611686018427387904) :
    Calls Tryz.prog 60 #[.slice A l.length c, .int .i64 x] w fun e w' => ∃ r : Int, e = .returned (.int .i64 r) ∧ decide (0 ≤ r) = inI x l ∧ w = w' := by
  go_enter Tryz.func60, Tryz.ntmps60
  go_wp2_with fail
  go_loop [8] (fun i => ∃ k : Nat, k ≤ l.length ∧ i = .int .i64 k ∧ x ∉ l.take k) (fun i => l.length - (intOf i).toNat)
  case atStart => exact ⟨0, Nat.zero_le _, rfl, by simp⟩
  case round =>
    obtain ⟨k, hk, rfl, hnot⟩ := hrel
    have HN := hideP hnot
    clear hnot
    by_cases hlt : k < l.length
    · obtain ⟨b, o, rfl, hbl, q1⟩ := hA k l[k] (List.getElem?_eq_getElem hlt)
      have hmem := hideP (List.getElem_mem hlt)
      have hnx := hideP (fun (h2 : x ≠ l[k]) => show x ∉ l.take (k + 1) from by
        rw [List.take_succ_eq_append_getElem hlt]
        intro hm
        rcases List.mem_append.1 hm with hm | hm
        · exact HN.out hm
        · exact h2 (by simpa using hm))
      clear hA
      generalize l[k] = s at q1 hmem hnx
      by_cases he : x = s
      · have d1 : (x == s) = true := by simp [he]
        have HE := hideP he
        clear he
        go_wp2_with fail
        go_ret
        exact ⟨k, rfl, by have := hmem.out; rw [← HE.out] at this; rw [inI_iff.2 this]; simp, rfl⟩
      · have d1 : (x == s) = false := by simp [he]
        have HE := hideP he
        clear he
        go_wp2_with fail
        go_round
        case rel => exact ⟨k + 1, by omega, by go_num, hnx.out HE.out⟩
        case measure => simp [intOf]; omega
    · go_wp2_with fail
      go_ret
      exact ⟨-1, rfl, by have := HN.out; rw [List.take_of_length_le (by omega)] at this; rw [inI_no.2 this]; rfl, rfl⟩

set_option maxHeartbeats 400000 in
set_option maxRecDepth 100000 in
theorem icontains_any (A : Option Addr) (c : Nat) (l : List Int) (x : Int) (w : World) (hA : IS w A l) (hl : l.length < 4611686018427387904) :
    Calls Tryz.prog 14 #[.slice A l.length c, .int .i64 x] w fun e w' => e = .returned (.bool (inI x l)) ∧ w = w' := by
  go_enter Tryz.func14, Tryz.ntmps14
  go_wp2_with fail
  refine (iindex_any A c l x _ hA hl).mono ?_
  rintro e w' ⟨r, rfl, hr, rfl⟩
  have HR := hideP hr
  clear hr
  go_wp2_with fail
  go_ret
  exact ⟨ret_bool HR.out, rfl⟩

end Go.Proofs.YtpefdonhacmaoaaGreat

set_option linter.unusedVariables false
set_option linter.unusedSimpArgs false
namespace Go.Proofs.YtpefdonhacmaoaaGreat
open Go.RowKit

set_option maxHeartbeats 400000 in
set_option maxRecDepth 100000 in
theorem isnan_any (x : Int) (w : World) : Calls Tryz.prog 87 #[.int .i64 x] w fun e w' => e = .returned (.bool false) ∧ w = w' := by
  have d : (x != x) = false := by simp
  go_enter Tryz.func87, Tryz.ntmps87
  go_wp2_with fail
  go_ret
  exact ⟨rfl, rfl⟩
set_option maxHeartbeats 400000 in
set_option maxRecDepth 100000 in
theorem iless_any (x y : Int) (w : World) : Calls Tryz.prog 57 #[.int .i64 x, .int .i64 y] w fun e w' => e = .returned (.bool (decide (x < y))) ∧ w = w' := by
  go_enter Tryz.func57, Tryz.ntmps57
  go_wp2_with fail
  refine (isnan_any x _).mono ?_
  rintro e w1 ⟨rfl, rfl⟩
  go_wp2_with fail
  go_ret
  exact ⟨rfl, rfl⟩
set_option maxHeartbeats 1000000 in
set_option maxRecDepth 100000 in
theorem issorted_any (A : Option Addr) (c : Nat) (l : List Int) (w : World) (hA : IS w A l) (hl : l.length < 1000) (hs : l.Pairwise (fun a b => a < b)) :
    Calls Tryz.prog 11 #[.slice A l.length c] w fun e w' => e = .returned (.bool true) ∧ Below w.heap.size w w' := by
  have w1 : IntKind.i64.wrap ((l.length : Int) - 1) = (l.length : Int) - 1 := by simp only [IntKind.wrap_i64]; omega
  go_enter Tryz.func11, Tryz.ntmps11
  go_wp2_with fail
  clear w1
  go_loopw [3] (fun i wr => ∃ k : Int, -1 ≤ k ∧ k < l.length ∧ i = .int .i64 k ∧ Below w.heap.size w wr) (fun i _ => ((intOf i) + 1).toNat)
  case atStart => exact ⟨(l.length : Int) - 1, by omega, by omega, rfl, Below.refl _ _⟩
  case round =>
    obtain ⟨k, hk0, hk, rfl, hb⟩ := hrel
    by_cases hk1 : 0 < k
    · obtain ⟨j, rfl⟩ : ∃ j : Nat, k = (j : Int) + 1 := ⟨(k - 1).toNat, by omega⟩
      have hj : j + 1 < l.length := by omega
      obtain ⟨b, o, e1, hbl, q1⟩ := (hA.below hb) (j + 1) l[j + 1] (List.getElem?_eq_getElem hj)
      obtain ⟨b2, o2, e2, hbl2, q2⟩ := (hA.below hb) j l[j] (List.getElem?_eq_getElem (by omega))
      rw [e1] at e2
      injection e2 with e2
      injection e2 with e3 e4
      subst e1; subst e3; subst e4
      have hlt := List.pairwise_iff_getElem.1 hs j (j + 1) (by omega) hj (by omega)
      generalize l[j + 1] = y at q1 hlt
      generalize l[j] = x at q2 hlt
      have d : decide (y < x) = false := by simp; omega
      have w1 : IntKind.i64.wrap ((j : Int) + 1 - 1) = (j : Int) := by simp only [IntKind.wrap_i64]; omega
      have w2 : IntKind.i64.wrap (j : Int) = (j : Int) := by simp only [IntKind.wrap_i64]; omega
      have g1 : (0 : Int) ≤ (j : Int) + 1 := by omega
      have g2 : (j : Int) + 1 < (l.length : Int) := by omega
      have g3 : (0 : Int) ≤ (j : Int) := by omega
      have g4 : (j : Int) < (l.length : Int) := by omega
      have n1 : ((j : Int) + 1).toNat = j + 1 := by omega
      clear hA hs
      go_wp2_with fail
      replace hb := hb.drew
      have hbl' : b < wr.drew.heap.size := hbl
      go_region_held3 (fun W => W.cell? ⟨b, o + (j + 1), none⟩ = some (.int .i64 y) ∧ W.cell? ⟨b, o + j, none⟩ = some (.int .i64 x)) (first | with_reducible exact ⟨q1, q2⟩ | exact ⟨q1, q2⟩) (first
        | (go_at_call 57; refine (iless_any y x _).mono ?_; rintro e w3 ⟨rfl, rfl⟩))
      all_goals
        go_wp2_with fail
        go_roundw
        case rel => exact ⟨(j : Int), by omega, by omega, rfl, hb⟩
        case measure => simp [intOf]; omega
    · have hk2 : ¬ (0 < k) := hk1
      go_wp2_with fail
      go_ret
      exact ⟨rfl, hb⟩
end Go.Proofs.YtpefdonhacmaoaaGreat
