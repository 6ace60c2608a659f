/-
  Operations and transactions as lists, and their cells in memory (no program in it).
-/
import Derived.Test.YtmepmiokpcddbabGreatDoorBz2
set_option linter.unusedVariables false
set_option linter.unusedSimpArgs false
namespace Go.Proofs.YtmepmiokpcddbabGreatDoor
open Go.RowKit

/-- an operation -/
structure Opr where
  kind : Int
  key : ByteArray
  src : ByteArray
  n : Int
/-- its value -/
def opV (o : Opr) : Value := .agg #[.int .i64 o.kind, .string o.key, .string o.src, .int .i64 o.n]
/-- what the check of an operation answers -/
def chkO (o : Opr) : Int :=
  if o.kind < 1 then 3 else if 5 < o.kind then 3 else if keyB o.key = false then 3
  else if (o.kind = 3 ∨ o.kind = 5) ∧ keyB o.src = false then 3
  else if (o.kind = 3 ∨ o.kind = 5) ∧ o.src = o.key then 3
  else if o.kind ≠ 3 ∧ valB o.n = false then 1 else if o.kind = 5 ∧ o.n < 0 then 1 else 0
/-- the first error of a list of operations -/
def chkOs : List Opr → Int
  | [] => 0
  | o :: r => if chkO o = 0 then chkOs r else chkO o
/-- what Check answers -/
def chkD (l : List Opr) : Int := if l.length < 1 then 2 else if 8 < l.length then 2 else chkOs l
/-- a slice's cells read as a list of operations; they lie below block B -/
def OS (w : World) (B : Nat) (A : Option Addr) (l : List Opr) : Prop :=
  ∀ i p, l[i]? = some p → ∃ b o, A = some ⟨b, o, none⟩ ∧ b < B ∧ w.cell? ⟨b, o + i * 4, none⟩ = some (.int .i64 p.kind) ∧ w.cell? ⟨b, o + i * 4 + 1, none⟩ = some (.string p.key) ∧
    w.cell? ⟨b, o + i * 4 + 2, none⟩ = some (.string p.src) ∧ w.cell? ⟨b, o + i * 4 + 3, none⟩ = some (.int .i64 p.n)
theorem OS.below {w w' : World} {B : Nat} {A : Option Addr} {l : List Opr} (h : OS w B A l) (hb : Below B w w') : OS w' B A l := fun i p hp => by
  obtain ⟨b, o, e, hlt, h1, h2, h3, h4⟩ := h i p hp
  exact ⟨b, o, e, hlt, (hb.cell hlt).trans h1, (hb.cell hlt).trans h2, (hb.cell hlt).trans h3, (hb.cell hlt).trans h4⟩
theorem OS.more {w : World} {B B' : Nat} {A : Option Addr} {l : List Opr} (h : OS w B A l) (hB : B ≤ B') : OS w B' A l := fun i p hp => by
  obtain ⟨b, o, e, hlt, h1⟩ := h i p hp
  exact ⟨b, o, e, by omega, h1⟩
theorem OS.go {w w' : World} {A : Option Addr} {l : List Opr} (h : OS w w.heap.size A l) (hb : Below w.heap.size w w') : OS w' w'.heap.size A l := (h.below hb).more hb.size
theorem OS.nil {w : World} {B : Nat} {A : Option Addr} : OS w B A [] := fun i p hp => by simp at hp
theorem chkOs_next {l : List Opr} {k : Nat} (h : k < l.length) : chkOs (l.drop k) = if chkO l[k] = 0 then chkOs (l.drop (k + 1)) else chkO l[k] := by
  rw [List.drop_eq_getElem_cons h]; rfl
theorem chkOs_zero {l : List Opr} : chkOs l = 0 ↔ ∀ o ∈ l, chkO o = 0 := by
  induction l with
  | nil => simp [chkOs]
  | cons o r ih =>
    by_cases h : chkO o = 0
    · simp [chkOs, h, ih]
    · simp [chkOs, h]
theorem chkD_zero {l : List Opr} : chkD l = 0 ↔ 1 ≤ l.length ∧ l.length ≤ 8 ∧ ∀ o ∈ l, chkO o = 0 := by
  unfold chkD
  by_cases h1 : l.length < 1
  · rw [if_pos h1]; exact ⟨fun h => absurd h (by decide), fun h => by omega⟩
  rw [if_neg h1]
  by_cases h2 : 8 < l.length
  · rw [if_pos h2]; exact ⟨fun h => absurd h (by decide), fun h => by omega⟩
  rw [if_neg h2, chkOs_zero]
  exact ⟨fun h => ⟨by omega, by omega, h⟩, fun h => h.2.2⟩
/-- what a valid operation is -/
theorem chkO_zero {o : Opr} : chkO o = 0 ↔ 1 ≤ o.kind ∧ o.kind ≤ 5 ∧ keyB o.key = true ∧ (o.kind = 3 ∨ o.kind = 5 → keyB o.src = true ∧ o.src ≠ o.key) ∧ (o.kind ≠ 3 → valB o.n = true) ∧ (o.kind = 5 → 0 ≤ o.n) := by
  unfold chkO
  by_cases h1 : o.kind < 1
  · rw [if_pos h1]; exact ⟨fun h => absurd h (by decide), fun h => by omega⟩
  rw [if_neg h1]
  by_cases h2 : 5 < o.kind
  · rw [if_pos h2]; exact ⟨fun h => absurd h (by decide), fun h => by omega⟩
  rw [if_neg h2]
  by_cases h3 : keyB o.key = false
  · rw [if_pos h3]; exact ⟨fun h => absurd h (by decide), fun h => by rw [h.2.2.1] at h3; cases h3⟩
  rw [if_neg h3]
  by_cases h4 : (o.kind = 3 ∨ o.kind = 5) ∧ keyB o.src = false
  · rw [if_pos h4]; exact ⟨fun h => absurd h (by decide), fun h => by have := h4.2; rw [(h.2.2.2.1 h4.1).1] at this; cases this⟩
  rw [if_neg h4]
  by_cases h5 : (o.kind = 3 ∨ o.kind = 5) ∧ o.src = o.key
  · rw [if_pos h5]; exact ⟨fun h => absurd h (by decide), fun h => absurd h5.2 (h.2.2.2.1 h5.1).2⟩
  rw [if_neg h5]
  by_cases h6 : o.kind ≠ 3 ∧ valB o.n = false
  · rw [if_pos h6]; exact ⟨fun h => absurd h (by decide), fun h => by have := h6.2; rw [h.2.2.2.2.1 h6.1] at this; cases this⟩
  rw [if_neg h6]
  by_cases h7 : o.kind = 5 ∧ o.n < 0
  · rw [if_pos h7]; exact ⟨fun h => absurd h (by decide), fun h => by have := h.2.2.2.2.2 h7.1; omega⟩
  rw [if_neg h7]
  refine ⟨fun _ => ⟨by omega, by omega, by simpa using h3, fun hk => ⟨?_, ?_⟩, fun hk => ?_, fun hk => ?_⟩, fun _ => rfl⟩
  · cases hs : keyB o.src
    · exact absurd ⟨hk, hs⟩ h4
    · rfl
  · exact fun e => h5 ⟨hk, e⟩
  · cases hs : valB o.n
    · exact absurd ⟨hk, hs⟩ h6
    · rfl
  · exact Int.not_lt.1 fun e => h7 ⟨hk, e⟩
theorem bytes_ne {a b : ByteArray} (h : a ≠ b) : (a.toList == b.toList) = false := by
  rw [beq_eq_false_iff_ne]; intro e; rw [ByteArray.toList_eq, ByteArray.toList_eq] at e
  refine h ?_
  cases a with | mk a => cases b with | mk b => simp at e; rw [e]
end Go.Proofs.YtmepmiokpcddbabGreatDoor
