/-
  slices.Concat of three slices of ints.
-/
import Derived.Test.YtoelnhnbefkfoaaDoorShCat
set_option linter.unusedVariables false
set_option linter.unusedSimpArgs false
namespace Go.Proofs.YtoelnhnbefkfoaaDoor
open Go.RowKit

/-- three slices of ints that lie in a slice -/
theorem iconcat3 (w : World) (g : Nat) (A1 A2 A3 : Option Addr) (c1 c2 c3 : Nat) (l1 l2 l3 : List Int) (hlt : g < w.heap.size)
    (k1 : w.cell? ⟨g, 0, none⟩ = some (.slice A1 l1.length c1)) (k2 : w.cell? ⟨g, 1, none⟩ = some (.slice A2 l2.length c2)) (k3 : w.cell? ⟨g, 2, none⟩ = some (.slice A3 l3.length c3))
    (p1 : VS w A1 (l1.map (Value.int .i64))) (p2 : VS w A2 (l2.map (Value.int .i64))) (p3 : VS w A3 (l3.map (Value.int .i64))) (hn : l1.length + (l2.length + l3.length) ≤ 1000000) :
    Calls Tryd.prog 12 #[.slice (some ⟨g, 0, none⟩) 3 3] w fun e w' => ∃ A c, e = .returned (.slice A (l1 ++ (l2 ++ l3)).length c) ∧ OR w' w.heap.size 3 A c ((l1 ++ (l2 ++ l3)).map (Value.int .i64)) ∧ Below w.heap.size w w' := by
  have h := iconcat_any g 0 3 [⟨A1, c1, l1⟩, ⟨A2, c2, l2⟩, ⟨A3, c3, l3⟩] w
    ⟨hlt, fun j s hj => by
      match j with
      | 0 => simp at hj; subst hj; exact k1
      | 1 => simp at hj; subst hj; exact k2
      | 2 => simp at hj; subst hj; exact k3
      | j + 3 => simp at hj, fun s hs => by
      simp at hs
      rcases hs with rfl | rfl | rfl
      · exact p1
      · exact p2
      · exact p3⟩ (by simp [catI]; omega) (by simp)
  have e : catI [⟨A1, c1, l1⟩, ⟨A2, c2, l2⟩, ⟨A3, c3, l3⟩] = l1 ++ (l2 ++ l3) := by simp [catI]
  rw [e] at h
  exact h
end Go.Proofs.YtoelnhnbefkfoaaDoor
