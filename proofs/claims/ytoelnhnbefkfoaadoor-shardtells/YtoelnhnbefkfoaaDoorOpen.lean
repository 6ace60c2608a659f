/-
  A slice of pairs that came in, opened.
-/
import Derived.Test.YtoelnhnbefkfoaaDoorRef
import Derived.ProofKit
import Derived.OpenShut
import Derived.Deep.SlicePairs
import Derived.SizedLaws
set_option linter.unusedVariables false
set_option linter.unusedSimpArgs false
namespace Go.Proofs.YtoelnhnbefkfoaaDoor
open Go.RowKit Go.ChangeShapes Go.WideShapes Go.Deep

def strOf : Value → ByteArray | .string s => s | _ => ByteArray.empty
theorem pairU : ∃ f0 f1, Tryd.prog.underlying 50 = some (.struct #[f0, f1]) ∧ f0.offset = 0 ∧ f1.offset = 1 ∧ f0.type = 9 ∧ f1.type = 3 := ⟨_, _, Tryd.underlying50, rfl, rfl, rfl, rfl⟩
theorem open_pairs {H : Type} {enc : TypeId × Value → H} {W : World} {A : Option Addr} {len cap : Nat} {d : DataW H} {p : List MemPlace} (h : DataW.Trod enc Tryd.prog W 0 (fun _ => true) true 40 (.slice A len cap) d p) :
    ∃ l : List Pr, l.length = len ∧ SV W A cap l ∧ Rd l ∧ (d = .nil ∧ len = 0 ∨ ∃ es sp, d = .slice es sp ∧ es.length = len) := by
  obtain ⟨fuel, hf⟩ := h
  obtain ⟨f0, f1, hu, o0, o1, t0, t1⟩ := pairU
  rcases open_slice_pairs Tryd.underlying40 hu (by kernel_rfl) o0 o1 (by rw [t0]; kernel_rfl) (by rw [t1]; kernel_rfl) hf with ⟨hcs, hx⟩ | ⟨a, len', cap', m, n, V0, V1, D0, D1, P0, P1, hcs, _, hl, hm, hmm, hx, hc⟩
  · simp [Value.cells] at hcs
    obtain ⟨rfl, rfl, rfl⟩ := hcs
    simp only [Prod.mk.injEq] at hx
    exact ⟨[], rfl, SV.nil W, fun p hp => by simp at hp, .inl ⟨hx.1, rfl⟩⟩
  · simp [Value.cells] at hcs
    obtain ⟨rfl, rfl, rfl⟩ := hcs
    simp only [if_true] at hmm
    subst hmm
    simp only [Prod.mk.injEq] at hx
    have hs : ∀ i, i < m → ∃ s n, V0 i = .string s ∧ V1 i = .int .i64 n ∧ s.size ≤ maxLen ∧ (Lit.int .i64 n).wf = true := fun i hi => by
      obtain ⟨_, _, h3, h4⟩ := hc i hi
      rw [t0] at h3
      rw [t1] at h4
      obtain ⟨s, e1, _, e2⟩ := DataW.trod_string Tryd.underlying9 h3
      obtain ⟨z, e3, _, e4⟩ := DataW.trod_int Tryd.underlying3 h4
      exact ⟨s, z, by simpa using e1, by simpa using e3, e2, e4⟩
    have hlit : ∀ i, i < m → ∃ b o, a = ⟨b, o, none⟩ := fun i hi => by
      have h0 := (hc 0 (by omega)).1
      obtain ⟨b, o, sp⟩ := a
      have hsp : sp = none := by simpa [Addr.add] using World.cell?_spot h0
      subst hsp
      exact ⟨b, o, rfl⟩
    refine ⟨(List.range len).map fun i => (strOf (V0 i), intOf (V1 i)), by simp, ⟨fun i q hq => ?_, by simpa using hl, hm, (fun e => by cases e), fun h0 x hx => ?_⟩, fun q hq => ?_, .inr ⟨_, _, hx.1, by simp⟩⟩
    · have hi : i < len := by
        rcases Nat.lt_or_ge i len with h | h
        · exact h
        · simp [h] at hq
      obtain ⟨b, o, rfl⟩ := hlit i (by omega)
      obtain ⟨s, z, e1, e2, _, _⟩ := hs i (by omega)
      obtain ⟨c1, c2, _, _⟩ := hc i (by omega)
      simp [hi, e1, e2, strOf, intOf] at hq
      subst hq
      rw [Addr.add_lit, e1] at c1
      rw [Addr.add_lit, e2, ← Nat.add_assoc] at c2
      exact ⟨b, o, rfl, cell_lt c1, c1, c2⟩
    · injection hx with hx
      obtain ⟨b, o, rfl⟩ := hlit 0 h0
      exact ⟨b, o, hx.symm⟩
    · simp at hq
      obtain ⟨i, hi, rfl⟩ := hq
      obtain ⟨s, z, e1, e2, e3, e4⟩ := hs i (by omega)
      simp [e1, e2, strOf, intOf]
      exact ⟨e3, e4⟩
theorem pair_bytes : Tryd.prog.bytesOf 50 = 24 := by kernel_rfl
theorem reach : reachBytes = 140737488351232 := by decide
end Go.Proofs.YtoelnhnbefkfoaaDoor
