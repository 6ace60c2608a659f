/-
  The byte order of keys, and lists of pairs that are sorted by it (no program in it).
-/
import Derived.Test.YtcjfkbponikadaaGreatDoorPl
import Derived.Lib.Bytealg
set_option linter.unusedVariables false
set_option linter.unusedSimpArgs false
namespace Go.Proofs.YtcjfkbponikadaaGreatDoor
open Go.RowKit

theorem bLess : ∀ (x y : List UInt8), Op.bytesLess x y = decide (x < y)
  | [], [] => by simp [Op.bytesLess]
  | _ :: _, [] => by simp [Op.bytesLess]
  | [], _ :: _ => by simp [Op.bytesLess]
  | a :: x, b :: y => by
    rw [Op.bytesLess, bLess x y]
    simp only [List.cons_lt_cons_iff]
    by_cases h1 : a < b <;> by_cases h2 : a = b <;> by_cases h3 : x < y <;> simp [h1, h2, h3]

/-- bytes of a key -/
abbrev by8 (a : ByteArray) : List UInt8 := a.data.toList
theorem by8_inj {a b : ByteArray} (h : by8 a = by8 b) : a = b := by
  cases a; cases b; simp [by8, Array.toList_inj] at h; simp [h]
theorem ltB_iff {a b : ByteArray} : ltB a b = true ↔ by8 a < by8 b := by unfold ltB; rw [bLess, ByteArray.toList_eq, ByteArray.toList_eq]; simp
theorem ltB_no {a b : ByteArray} : ltB a b = false ↔ ¬ by8 a < by8 b := by rw [← ltB_iff]; simp
theorem ltB_irrefl (a : ByteArray) : ltB a a = false := by rw [ltB_no]; exact List.lt_irrefl _
theorem ltB_trans {a b c : ByteArray} (h : ltB a b = true) (k : ltB b c = true) : ltB a c = true := by
  rw [ltB_iff] at *; exact List.lt_trans h k
theorem ltB_asymm {a b : ByteArray} (h : ltB a b = true) : ltB b a = false := by
  rw [ltB_iff] at h; rw [ltB_no]; exact List.lt_asymm h
theorem ltB_ne {a b : ByteArray} (h : ltB a b = true) : a ≠ b := fun e => by rw [e, ltB_irrefl] at h; cases h
theorem ltB_total {a b : ByteArray} (h : ltB a b = false) (k : ltB b a = false) : a = b := by
  rw [ltB_no] at *
  exact by8_inj (List.le_antisymm (List.not_lt.1 k) (List.not_lt.1 h))
theorem leB_iff {a b : ByteArray} : leB a b = true ↔ ltB b a = false := by
  unfold leB; rw [ByteArray.toList_eq, ByteArray.toList_eq, bLess]
  constructor
  · intro h
    simp only [Bool.or_eq_true, decide_eq_true_eq, beq_iff_eq] at h
    rcases h with h | h
    · exact ltB_asymm (ltB_iff.2 h)
    · rw [by8_inj h]; exact ltB_irrefl _
  · intro h
    cases k : ltB a b
    · have := ltB_total k h; subst this; simp
    · rw [ltB_iff] at k; simp [k]
theorem leB_no {a b : ByteArray} : leB a b = false ↔ ltB b a = true := by
  have := @leB_iff a b
  cases h : leB a b <;> cases k : ltB b a <;> simp_all

theorem cmp_neg : ∀ (x y : List UInt8), Lib.compareBytes x y < 0 ↔ x < y
  | [], [] => by simp [Lib.compareBytes]
  | _ :: _, [] => by simp [Lib.compareBytes]
  | [], _ :: _ => by simp [Lib.compareBytes]
  | a :: x, b :: y => by
    simp only [Lib.compareBytes, List.cons_lt_cons_iff]
    by_cases h1 : a < b
    · simp [h1]
    · by_cases h2 : b < a
      · have : a ≠ b := fun e => by subst e; exact h1 h2
        simp [h1, h2, this]
      · have : a = b := UInt8.le_antisymm (UInt8.not_lt.1 h2) (UInt8.not_lt.1 h1)
        subst this
        simp [cmp_neg x y]
theorem cmp_zero : ∀ (x y : List UInt8), Lib.compareBytes x y = 0 ↔ x = y
  | [], [] => by simp [Lib.compareBytes]
  | _ :: _, [] => by simp [Lib.compareBytes]
  | [], _ :: _ => by simp [Lib.compareBytes]
  | a :: x, b :: y => by
    simp only [Lib.compareBytes, List.cons.injEq]
    by_cases h1 : a < b
    · have : a ≠ b := fun e => by subst e; exact UInt8.lt_irrefl a h1
      simp [h1, this]
    · by_cases h2 : b < a
      · have : a ≠ b := fun e => by subst e; exact h1 h2
        simp [h1, h2, this]
      · have : a = b := UInt8.le_antisymm (UInt8.not_lt.1 h2) (UInt8.not_lt.1 h1)
        subst this
        simp [cmp_zero x y]

/-- what strings.Compare answers -/
def cmpB (a b : ByteArray) : Int := Lib.compareBytes a.data.toList b.data.toList
theorem cmpB_neg {a b : ByteArray} : cmpB a b < 0 ↔ ltB a b = true := by rw [ltB_iff]; exact cmp_neg _ _
theorem cmpB_zero {a b : ByteArray} : cmpB a b = 0 ↔ a = b := ⟨fun h => by8_inj ((cmp_zero _ _).1 h), fun h => by subst h; exact (cmp_zero _ _).2 rfl⟩

/-- i is the place of a key in a list: what lies ahead is less, what lies behind isn't -/
structure At (l : List Pr) (key : ByteArray) (i : Nat) : Prop where
  le : i ≤ l.length
  lo : ∀ j (h : j < l.length), j < i → ltB (l[j]).1 key = true
  hi : ∀ j (h : j < l.length), i ≤ j → ltB (l[j]).1 key = false
/-- is it there? -/
def fnd (l : List Pr) (key : ByteArray) (i : Nat) : Bool := match l[i]? with
  | some p => cmpB p.1 key == 0
  | none => false
end Go.Proofs.YtcjfkbponikadaaGreatDoor
