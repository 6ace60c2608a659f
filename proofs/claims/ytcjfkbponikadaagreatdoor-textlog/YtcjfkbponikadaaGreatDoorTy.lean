/-
  Rows apart by the types of their blocks (no body of the program in it).
-/
import Derived.Test.YtcjfkbponikadaaGreatDoorBox
import Derived.Test.YtcjfkbponikadaaGreatDoorRow
set_option linter.unusedVariables false
set_option linter.unusedSimpArgs false
namespace Go.Proofs.YtcjfkbponikadaaGreatDoor
open Go.RowKit

/-- is a block of a type? -/
def Ty (w : World) (b : Nat) (t : TypeId) : Prop := ∃ cs fr, w.heap[b]? = some (.cells cs t fr)
theorem Ty.inj {w : World} {b : Nat} {t u : TypeId} (h : Ty w b t) (k : Ty w b u) : t = u := by
  obtain ⟨cs, fr, h⟩ := h
  obtain ⟨cs', fr', k⟩ := k
  rw [h] at k; injection k with k; injection k
theorem Box.ty {w : World} {g : Nat} {t : TypeId} {cs : Array Value} (h : Box w g t cs) : Ty w g t := ⟨_, _, h⟩
theorem own_ty {w : World} {B : Nat} {t : TypeId} {s : Nat} {v : Value} {n : Nat} {xs : List Value} (h : w.ownsRow B t s v n xs) {b : Nat} (hb : v.ownBlock = some b) : Ty w b t := by
  rcases h.2 with ⟨rfl, h0⟩ | ⟨g, cap, cur, rfl, _, hg, _⟩
  · cases hb
  · injection hb with hb; subst hb; exact ⟨_, _, hg⟩
theorem own_ne {w : World} {B : Nat} {t u : TypeId} {s : Nat} {v : Value} {n : Nat} {xs : List Value} (h : w.ownsRow B t s v n xs) {r : Nat} (hr : Ty w r u) (hne : t ≠ u) : v.ownBlock = none ∨ v.ownBlock ≠ some r := by
  cases hb : v.ownBlock with
  | none => exact .inl rfl
  | some b => exact .inr fun e => by injection e with e; subst e; exact hne ((own_ty h hb).inj hr)
theorem own_ne_map {w : World} {B : Nat} {t : TypeId} {s : Nat} {v : Value} {n : Nat} {xs : List Value} (h : w.ownsRow B t s v n xs) {r : Nat} {es : Array MapEntry} {clock : Nat} (hr : w.heap[r]? = some (.map es clock)) : v.ownBlock = none ∨ v.ownBlock ≠ some r := by
  cases hb : v.ownBlock with
  | none => exact .inl rfl
  | some b =>
    refine .inr fun e => ?_
    injection e with e
    subst e
    obtain ⟨cs, fr, h2⟩ := own_ty h hb
    rw [hr] at h2
    cases h2

theorem own_below {w w' : World} {B : Nat} {t : TypeId} {s : Nat} {v : Value} {n : Nat} {xs : List Value} (h : w.ownsRow B t s v n xs) (hb : Below w.heap.size w w') : w'.ownsRow B t s v n xs :=
  h.kept (row := none) ⟨hb.os, hb.tape, hb.output, hb.size, fun k hk _ => hb.block k hk⟩ (by cases v.ownBlock <;> simp)
theorem rows_ne {w : World} {B B' : Nat} {t u : TypeId} {s s' : Nat} {v v' : Value} {n n' : Nat} {xs xs' : List Value} (h : w.ownsRow B t s v n xs) (h' : w.ownsRow B' u s' v' n' xs') (hne : t ≠ u) : v.ownBlock = none ∨ v.ownBlock ≠ v'.ownBlock := by
  cases hb : v'.ownBlock with
  | none => cases v.ownBlock <;> simp
  | some r => exact own_ne h (own_ty h' hb) hne
theorem own_mono {w : World} {B B' : Nat} {t : TypeId} {s : Nat} {v : Value} {n : Nat} {xs : List Value} (h : w.ownsRow B t s v n xs) (hB : B' ≤ B) : w.ownsRow B' t s v n xs :=
  ⟨h.1, h.2.imp id fun ⟨g, cap, cur, h1, h2, h3⟩ => ⟨g, cap, cur, h1, Nat.le_trans hB h2, h3⟩⟩
end Go.Proofs.YtcjfkbponikadaaGreatDoor
