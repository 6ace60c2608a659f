/-
  slices.Index and slices.Contains at strings.
-/
import Derived.Test.YtkikhananegclaaDoorRow
import Derived.Test.YtkikhananegclaaDoorDPl
import Derived.Test.YtkikhananegclaaDoorOrd
import Derived.WalkKit
import Derived.WalkSpells
import Derived.WalkLawsBesides
set_option linter.unusedVariables false
set_option linter.unusedSimpArgs false
namespace Go.Proofs.YtkikhananegclaaDoor
open Go.RowKit

/-- is a key in a list? -/
def inB (x : ByteArray) (l : List ByteArray) : Bool := l.any fun k => by8 k == by8 x
theorem inB_iff {x : ByteArray} {l : List ByteArray} : inB x l = true ↔ x ∈ l := by
  unfold inB
  rw [List.any_eq_true]
  constructor
  · rintro ⟨k, hk, he⟩
    have := by8_inj (by simpa using he)
    rw [← this]; exact hk
  · exact fun h => ⟨x, h, by simp⟩
theorem inB_no {x : ByteArray} {l : List ByteArray} (h : x ∉ l) : inB x l = false := by
  cases e : inB x l
  · rfl
  · exact absurd (inB_iff.1 e) h
theorem bytes_eq {a b : ByteArray} (h : a = b) : (a.toList == b.toList) = true := by simp [h]
theorem mem_take_next {l : List ByteArray} {k : Nat} (h : k < l.length) {x : ByteArray} (h1 : x ∉ l.take k) (h2 : x ≠ l[k]) : x ∉ l.take (k + 1) := by
  rw [List.take_succ_eq_append_getElem h]
  intro hm
  rcases List.mem_append.1 hm with hm | hm
  · exact h1 hm
  · exact h2 (by simpa using hm)

set_option maxHeartbeats 400000 in
set_option maxRecDepth 100000 in
theorem sindex_any (A : Option Addr) (c : Nat) (l : List ByteArray) (x : ByteArray) (w : World) (hA : VS w A (l.map Value.string)) (hl : l.length < 4611686018427387904) :
    Calls Tryd.prog 41 #[.slice A l.length c, .string x] w fun e w' => ∃ r : Int, e = .returned (.int .i64 r) ∧ decide (0 ≤ r) = inB x l ∧ w = w' := by
  go_enter Tryd.func41, Tryd.ntmps41
  go_wp2_with fail
  go_loop [8] (fun i => ∃ k : Nat, k ≤ l.length ∧ i = .int .i64 k ∧ x ∉ l.take k) (fun i => l.length - (intOf i).toNat)
  case atStart => exact ⟨0, Nat.zero_le _, rfl, by simp⟩
  case round =>
    obtain ⟨k, hk, rfl, hnot⟩ := hrel
    have HN := hideP hnot
    clear hnot
    by_cases hlt : k < l.length
    · obtain ⟨b, o, rfl, hbl, q1⟩ := hA k (.string l[k]) (by simp [hlt])
      have hmem := hideP (List.getElem_mem hlt)
      have hnx := hideP (fun (h2 : x ≠ l[k]) => mem_take_next hlt HN.out h2)
      clear hA
      generalize l[k] = s at q1 hmem hnx
      by_cases he : x = s
      · have d1 := bytes_eq he
        have HE := hideP he
        clear he
        go_wp2_with fail
        go_ret
        exact ⟨k, rfl, by have := hmem.out; rw [← HE.out] at this; rw [inB_iff.2 this]; simp, rfl⟩
      · have d1 := bytes_ne he
        have HE := hideP he
        clear he
        go_wp2_with fail
        go_round
        case rel => exact ⟨k + 1, by omega, by go_num, hnx.out HE.out⟩
        case measure => simp [intOf]; omega
    · go_wp2_with fail
      go_ret
      exact ⟨-1, rfl, by have := HN.out; rw [List.take_of_length_le (by omega)] at this; rw [inB_no this]; rfl, rfl⟩

set_option maxHeartbeats 400000 in
set_option maxRecDepth 100000 in
theorem scontains_any (A : Option Addr) (c : Nat) (l : List ByteArray) (x : ByteArray) (w : World) (hA : VS w A (l.map Value.string)) (hl : l.length < 4611686018427387904) :
    Calls Tryd.prog 27 #[.slice A l.length c, .string x] w fun e w' => e = .returned (.bool (inB x l)) ∧ w = w' := by
  go_enter Tryd.func27, Tryd.ntmps27
  go_wp2_with fail
  refine (sindex_any A c l x _ hA hl).mono ?_
  rintro e w' ⟨r, rfl, hr, rfl⟩
  have HR := hideP hr
  clear hr
  go_wp2_with fail
  go_ret
  exact ⟨ret_bool HR.out, rfl⟩
end Go.Proofs.YtkikhananegclaaDoor
