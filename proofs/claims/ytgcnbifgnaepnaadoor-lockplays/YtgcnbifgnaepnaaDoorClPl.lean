/-
  Conflicts of transactions, plainly (no program in it).
-/
import Derived.Test.YtgcnbifgnaepnaaDoorDKeysPl
import Derived.Test.YtgcnbifgnaepnaaDoorInB
set_option linter.unusedVariables false
set_option linter.unusedSimpArgs false
namespace Go.Proofs.YtgcnbifgnaepnaaDoor

/-- have two lists a common key? -/
def comB (xs ys : List ByteArray) : Bool := xs.any fun k => inB k ys
theorem comB_keysOf (xs ys : List ByteArray) : comB (keysOf xs) (keysOf ys) = comB xs ys := by
  rw [Bool.eq_iff_iff]; simp [comB, keysOf_mem, inB_iff]
theorem comB_iff {xs ys : List ByteArray} : comB xs ys = true ↔ ∃ k, k ∈ xs ∧ k ∈ ys := by simp [comB, inB_iff]
/-- what Clash answers of valid transactions -/
def clB (a b : List Opr) : Bool := comB (wrL a) (wrL b) || comB (wrL a) (rdL b) || comB (rdL a) (wrL b)
end Go.Proofs.YtgcnbifgnaepnaaDoor
