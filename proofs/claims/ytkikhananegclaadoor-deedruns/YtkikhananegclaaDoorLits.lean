/-
  Literal stores in memory; valid stores with the same pairs are one.
-/
import Derived.Test.YtkikhananegclaaDoorConcat
import Derived.Test.YtkikhananegclaaDoorSpec
set_option linter.unusedVariables false
set_option linter.unusedSimpArgs false
namespace Go.Proofs.YtkikhananegclaaDoor
open Go.RowKit

theorem SV.lit2 (w : World) (k1 k2 : ByteArray) (n1 n2 : Int) (t : TypeId) : SV (w.alloc (.cells #[.string k1, .int .i64 n1, .string k2, .int .i64 n2] t)) (some ⟨w.heap.size, 0, none⟩) 2 [(k1, n1), (k2, n2)] :=
  ⟨fun i p hp => by
    match i with
    | 0 => simp at hp; subst hp; exact ⟨w.heap.size, 0, rfl, by simp, by simp, by simp⟩
    | 1 => simp at hp; subst hp; exact ⟨w.heap.size, 0, rfl, by simp, by simp, by simp⟩
    | i + 2 => simp at hp, by simp, by unfold maxLen; omega, (fun e => by cases e), (fun _ a ha => by injection ha with ha; exact ⟨_, _, ha.symm⟩)⟩
theorem SV.lit1 (w : World) (k1 : ByteArray) (n1 : Int) (t : TypeId) : SV (w.alloc (.cells #[.string k1, .int .i64 n1] t)) (some ⟨w.heap.size, 0, none⟩) 1 [(k1, n1)] :=
  ⟨PS.one w k1 n1 t, by simp, by unfold maxLen; omega, (fun e => by cases e), (fun _ a ha => by injection ha with ha; exact ⟨_, _, ha.symm⟩)⟩

/-- two valid stores with the same pairs are one -/
theorem Ok.same {l m : List Pr} (hl : Ok l) (hm : Ok m) (h : ∀ p, p ∈ l ↔ p ∈ m) : l = m := by
  refine hl.ext hm fun k => ?_
  by_cases hk : ∃ p ∈ l, p.1 = k
  · obtain ⟨p, hp, rfl⟩ := hk
    rw [valOf_mem hl.srt hp, valOf_mem hm.srt ((h p).1 hp)]
  · rw [valOf_none fun p hp e => hk ⟨p, hp, e⟩, valOf_none fun p hp e => hk ⟨p, (h p).2 hp, e⟩]
theorem Ok.sub {l m : List Pr} (hl : Ok l) (h : m.Sublist l) : Ok m := ⟨hl.srt.sublist h, fun p hp => hl.key p (h.subset hp), fun p hp => hl.val p (h.subset hp), fun p hp => hl.nz p (h.subset hp)⟩
end Go.Proofs.YtkikhananegclaaDoor
