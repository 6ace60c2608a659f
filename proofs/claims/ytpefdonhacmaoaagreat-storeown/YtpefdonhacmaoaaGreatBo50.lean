/-
  rokeep.Map in other words; rokeep.Key.
-/
import Derived.Test.YtpefdonhacmaoaaGreatBo45
import Derived.Test.YtpefdonhacmaoaaGreatBo49
set_option linter.unusedVariables false
set_option linter.unusedSimpArgs false
namespace Go.Proofs.YtpefdonhacmaoaaGreat
open Go.RowKit

/-- a map is handed back, a valid one with few cuts -/
def RetMk (w : World) (e : Ending) (w' : World) : Prop := ∃ m : Mp, e = .returned (.agg #[.slice m.A m.cs.length m.ca, .slice m.O m.os.length m.co]) ∧ OkM m.cs m.os ∧ m.cs.length ≤ 6 ∧ MO w' w.heap.size m ∧ Below w.heap.size w w'
theorem kmap_mk (P : Option Addr) (cp : Nat) (zs : List Int) (w : World) (hP : IS w P zs) (hl : zs.length ≤ 9223372036854775807) :
    Calls Tryz.prog 7 #[.slice P zs.length cp] w (RetMk w) := by
  refine (kmap_any P cp zs w hP hl).mono ?_
  rintro e w' ⟨A, ca, O, co, rfl, h1, h2, hb⟩
  refine ⟨⟨A, ca, (mapR zs 6).1, O, co, (mapR zs 6).2.map fun (k : Nat) => (k : Int)⟩, by simp only [List.length_map], mapR_ok zs, mapR_few zs 6, ⟨h1, ?_⟩, hb⟩
  have e : ((mapR zs 6).2.map fun (k : Nat) => (k : Int)).map (Value.int .i64) = nV (mapR zs 6).2 := by simp [nV]
  show OR w' w.heap.size 3 O co (((mapR zs 6).2.map fun (k : Nat) => (k : Int)).map (Value.int .i64))
  rw [e]; exact h2
theorem rkey_be (k : Int) (w : World) : Calls Tryz.prog 22 #[.int .i64 k] w fun e w' => e = .returned (.string (keyN (wi k 8))) ∧ Below w.heap.size w w' := by
  refine (rkey_any k w).mono ?_
  rintro e w' ⟨rfl, rfl⟩
  exact ⟨rfl, (Below.refl _ _).alloc (Nat.le_refl _) _⟩
end Go.Proofs.YtpefdonhacmaoaaGreat
