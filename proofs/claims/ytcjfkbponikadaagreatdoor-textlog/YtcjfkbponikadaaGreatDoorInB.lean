/-
  Is a key in a list? (no program in it)
-/
import Derived.Test.YtcjfkbponikadaaGreatDoorDPl
import Derived.Test.YtcjfkbponikadaaGreatDoorOrd
set_option linter.unusedVariables false
set_option linter.unusedSimpArgs false
namespace Go.Proofs.YtcjfkbponikadaaGreatDoor

/-- is a key in a list? -/
def inB (x : ByteArray) (l : List ByteArray) : Bool := l.any fun k => by8 k == by8 x
theorem inB_iff {x : ByteArray} {l : List ByteArray} : inB x l = true ↔ x ∈ l := by
  unfold inB
  rw [List.any_eq_true]
  constructor
  · rintro ⟨k, hk, he⟩
    have := by8_inj (by simpa using he)
    rw [← this]; exact hk
  · exact fun h => ⟨x, h, by simp⟩
theorem inB_no {x : ByteArray} {l : List ByteArray} (h : x ∉ l) : inB x l = false := by
  cases e : inB x l
  · rfl
  · exact absurd (inB_iff.1 e) h
theorem bytes_eq {a b : ByteArray} (h : a = b) : (a.toList == b.toList) = true := by simp [h]
theorem mem_take_next {l : List ByteArray} {k : Nat} (h : k < l.length) {x : ByteArray} (h1 : x ∉ l.take k) (h2 : x ≠ l[k]) : x ∉ l.take (k + 1) := by
  rw [List.take_succ_eq_append_getElem h]
  intro hm
  rcases List.mem_append.1 hm with hm | hm
  · exact h1 hm
  · exact h2 (by simpa using hm)

end Go.Proofs.YtcjfkbponikadaaGreatDoor
