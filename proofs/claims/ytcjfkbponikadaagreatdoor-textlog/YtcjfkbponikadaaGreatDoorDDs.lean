/-
  Transactions in memory: a slice of them, their first error (no body of the program in it).
-/
import Derived.Test.YtcjfkbponikadaaGreatDoorDPl
import Derived.Test.YtcjfkbponikadaaGreatDoorRow
set_option linter.unusedVariables false
set_option linter.unusedSimpArgs false
namespace Go.Proofs.YtcjfkbponikadaaGreatDoor
open Go.RowKit

/-- a transaction in memory: where its operations lie, their capacity, what they are -/
structure Dl where
  D : Option Addr
  c : Nat
  d : List Opr
def dlV (x : Dl) : Value := .slice x.D x.d.length x.c
/-- a slice of transactions -/
structure DS (w : World) (A : Option Addr) (ds : List Dl) : Prop where
  vs : VS w A (ds.map dlV)
  os : ∀ x ∈ ds, OS w w.heap.size x.D x.d
theorem DS.below {w w' : World} {A : Option Addr} {ds : List Dl} (h : DS w A ds) (hb : Below w.heap.size w w') : DS w' A ds := ⟨h.vs.below hb, fun x hx => (h.os x hx).go hb⟩
theorem DS.at_ {w : World} {A : Option Addr} {ds : List Dl} (h : DS w A ds) {k : Nat} (hk : k < ds.length) : (∃ b o, A = some ⟨b, o, none⟩ ∧ b < w.heap.size ∧ w.cell? ⟨b, o + k, none⟩ = some (dlV ds[k])) ∧ OS w w.heap.size (ds[k]).D (ds[k]).d :=
  ⟨h.vs k _ (by simp [hk]), h.os _ (List.getElem_mem hk)⟩
/-- the first error of a list of transactions -/
def chkDs : List (List Opr) → Int
  | [] => 0
  | d :: r => if chkD d = 0 then chkDs r else chkD d
theorem chkDs_next {l : List (List Opr)} {k : Nat} (h : k < l.length) : chkDs (l.drop k) = if chkD l[k] = 0 then chkDs (l.drop (k + 1)) else chkD l[k] := by
  rw [List.drop_eq_getElem_cons h]; rfl
theorem chkDs_zero {l : List (List Opr)} : chkDs l = 0 ↔ ∀ d ∈ l, chkD d = 0 := by
  induction l with
  | nil => simp [chkDs]
  | cons o r ih =>
    by_cases h : chkD o = 0
    · simp [chkDs, h, ih]
    · simp [chkDs, h]
end Go.Proofs.YtcjfkbponikadaaGreatDoor
