/-
  Slices of entries that came in, opened.
-/
import Derived.Test.YtcjfkbponikadaaDoorBp31
import Derived.Test.YtcjfkbponikadaaDoorBp4
import Derived.Deep.SlicePairs
set_option linter.unusedVariables false
set_option linter.unusedSimpArgs false
namespace Go.Proofs.YtcjfkbponikadaaDoor
open Go.RowKit Go.ChangeShapes Go.WideShapes Go.Deep

section
variable {H : Type} {enc : TypeId × Value → H} {W : World}
set_option maxRecDepth 100000 in
theorem open_ents {A : Option Addr} {len cap : Nat} {d : DataW H} {p : List MemPlace} (h : DataW.Trod enc Tryd.prog W 0 (fun _ => true) true 23 (.slice A len cap) d p) :
    ∃ xs : List Em, len = xs.length ∧ EL W A xs ∧ len ≤ 9223372036854775807 := by
  obtain ⟨fuel, hf⟩ := h
  rcases open_slice Tryd.underlying23 hf with ⟨hcs, hx⟩ | ⟨a, len', cap', m, n, D, Pl, hcs, _, hl, hm, hmm, _, hx⟩
  · simp [Value.cells] at hcs
    obtain ⟨rfl, rfl, rfl⟩ := hcs
    exact ⟨[], rfl, EL.nil, by omega⟩
  · simp [Value.cells] at hcs
    obtain ⟨rfl, rfl, rfl⟩ := hcs
    simp only [if_true] at hmm
    subst hmm
    have each : ∀ i, i < m → ∃ x : Em, (W.cell? (a.add (i * 4)) = some (.slice x.D x.d.length x.c) ∧ W.cell? (a.add (i * 4 + 1)) = some (.bool x.isM) ∧ W.cell? (a.add (i * 4 + 2)) = some (.slice x.m.A x.m.cs.length x.m.ca) ∧ W.cell? (a.add (i * 4 + 3)) = some (.slice x.m.O x.m.os.length x.m.co)) ∧ ES W x := fun i hi => by
      obtain ⟨cs', h1, h2⟩ := hx i hi
      rw [cells_ent] at h1
      obtain ⟨_, hlen, hcell⟩ := World.cells?_some h1
      obtain ⟨x, rfl, hes⟩ := open_ent_cells h2
      have c0 := hcell 0 (by omega)
      have c1 := hcell 1 (by omega)
      have c2 := hcell 2 (by omega)
      have c3 := hcell 3 (by omega)
      rw [add_add] at c0 c1 c2 c3
      exact ⟨x, ⟨by simpa using c0, by simpa using c1, by simpa using c2, by simpa using c3⟩, hes⟩
    have : Inhabited Em := ⟨em0⟩
    obtain ⟨q, hq⟩ := choose_lt each
    refine ⟨(List.range len).map q, by simp, ⟨fun i p hp => ?_, fun p hp => ?_⟩, by unfold maxLen at hm; omega⟩
    · have hi : i < len := by
        rcases Nat.lt_or_ge i len with h | h
        · exact h
        · simp [h] at hp
      obtain ⟨b, o, rfl⟩ := lit0_of_cellu (by simpa using (hq 0 (by omega)).1.1)
      obtain ⟨⟨c0, c1, c2, c3⟩, _⟩ := hq i (by omega)
      rw [Addr.add_lit] at c0 c1 c2 c3
      simp [hi] at hp
      subst hp
      exact ⟨b, o, rfl, cell_lt c0, c0, by rw [Nat.add_assoc]; exact c1, by rw [Nat.add_assoc]; exact c2, by rw [Nat.add_assoc]; exact c3⟩
    · obtain ⟨i, hi, rfl⟩ := List.mem_map.1 hp
      exact (hq i (by have := List.mem_range.1 hi; omega)).2
end
end Go.Proofs.YtcjfkbponikadaaDoor
