/-
  slices.Index and slices.Contains at strings.
-/
import Derived.Test.YtoelnhnbefkfoaaDoorRow
import Derived.Test.YtoelnhnbefkfoaaDoorDPl
import Derived.Test.YtoelnhnbefkfoaaDoorInB
import Derived.WalkKit
import Derived.WalkSpells
import Derived.WalkLawsBesides
set_option linter.unusedVariables false
set_option linter.unusedSimpArgs false
namespace Go.Proofs.YtoelnhnbefkfoaaDoor
open Go.RowKit

set_option maxHeartbeats 400000 in
set_option maxRecDepth 100000 in
theorem sindex_any (A : Option Addr) (c : Nat) (l : List ByteArray) (x : ByteArray) (w : World) (hA : VS w A (l.map Value.string)) (hl : l.length < 4611686018427387904) :
    Calls Tryd.prog 40 #[.slice A l.length c, .string x] w fun e w' => ∃ r : Int, e = .returned (.int .i64 r) ∧ decide (0 ≤ r) = inB x l ∧ w = w' := by
  go_enter Tryd.func40, Tryd.ntmps40
  go_wp2_with fail
  go_loop [8] (fun i => ∃ k : Nat, k ≤ l.length ∧ i = .int .i64 k ∧ x ∉ l.take k) (fun i => l.length - (intOf i).toNat)
  case atStart => exact ⟨0, Nat.zero_le _, rfl, by simp⟩
  case round =>
    obtain ⟨k, hk, rfl, hnot⟩ := hrel
    have HN := hideP hnot
    clear hnot
    by_cases hlt : k < l.length
    · obtain ⟨b, o, rfl, hbl, q1⟩ := hA k (.string l[k]) (by simp [hlt])
      have hmem := hideP (List.getElem_mem hlt)
      have hnx := hideP (fun (h2 : x ≠ l[k]) => mem_take_next hlt HN.out h2)
      clear hA
      generalize l[k] = s at q1 hmem hnx
      by_cases he : x = s
      · have d1 := bytes_eq he
        have HE := hideP he
        clear he
        go_wp2_with fail
        go_ret
        exact ⟨k, rfl, by have := hmem.out; rw [← HE.out] at this; rw [inB_iff.2 this]; simp, rfl⟩
      · have d1 := bytes_ne he
        have HE := hideP he
        clear he
        go_wp2_with fail
        go_round
        case rel => exact ⟨k + 1, by omega, by go_num, hnx.out HE.out⟩
        case measure => simp [intOf]; omega
    · go_wp2_with fail
      go_ret
      exact ⟨-1, rfl, by have := HN.out; rw [List.take_of_length_le (by omega)] at this; rw [inB_no this]; rfl, rfl⟩

set_option maxHeartbeats 400000 in
set_option maxRecDepth 100000 in
theorem scontains_any (A : Option Addr) (c : Nat) (l : List ByteArray) (x : ByteArray) (w : World) (hA : VS w A (l.map Value.string)) (hl : l.length < 4611686018427387904) :
    Calls Tryd.prog 15 #[.slice A l.length c, .string x] w fun e w' => e = .returned (.bool (inB x l)) ∧ w = w' := by
  go_enter Tryd.func15, Tryd.ntmps15
  go_wp2_with fail
  refine (sindex_any A c l x _ hA hl).mono ?_
  rintro e w' ⟨r, rfl, hr, rfl⟩
  have HR := hideP hr
  clear hr
  go_wp2_with fail
  go_ret
  exact ⟨ret_bool HR.out, rfl⟩
end Go.Proofs.YtoelnhnbefkfoaaDoor
