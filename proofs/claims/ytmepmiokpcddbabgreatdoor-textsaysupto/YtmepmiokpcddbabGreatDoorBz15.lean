/-
  Partition maps of the call's own (no body of the program in it).
-/
import Derived.Test.YtmepmiokpcddbabGreatDoorBz13
import Derived.Test.YtmepmiokpcddbabGreatDoorBz6
import Derived.Test.YtmepmiokpcddbabGreatDoorBz5
import Derived.Test.YtmepmiokpcddbabGreatDoorBz14
set_option linter.unusedVariables false
set_option linter.unusedSimpArgs false
namespace Go.Proofs.YtmepmiokpcddbabGreatDoor
open Go.RowKit

/-- a map of the call's own -/
structure MO (w : World) (B : Nat) (m : Mp) : Prop where
  cuts : OR w B 9 m.A m.ca (m.cs.map Value.string)
  own : OR w B 3 m.O m.co (m.os.map (Value.int .i64))
theorem VS.is_int {w : World} {A : Option Addr} {l : List Int} (h : VS w A (l.map (Value.int .i64))) : IS w A l := fun i z hz => h i (.int .i64 z) (by rw [List.getElem?_map, hz]; rfl)
theorem IS.vs {w : World} {A : Option Addr} {l : List Int} (h : IS w A l) : VS w A (l.map (Value.int .i64)) := fun i v hv => by
  rw [List.getElem?_map] at hv
  cases hz : l[i]? with
  | none => rw [hz] at hv; cases hv
  | some z => rw [hz] at hv; injection hv with hv; subst hv; exact h i z hz
theorem MO.ms {w : World} {B : Nat} {m : Mp} (h : MO w B m) : MS w m := by
  obtain ⟨c1, c2, c3, _⟩ := h.cuts.caps
  obtain ⟨d1, d2, d3, _⟩ := h.own.caps
  rw [List.length_map] at c1 d1
  exact ⟨h.cuts.vs, h.own.vs.is_int, c1, d1, c2, d2, c3, d3⟩
theorem MO.below {w w' : World} {B : Nat} {m : Mp} (h : MO w B m) (hb : Below w.heap.size w w') : MO w' B m := ⟨h.cuts.below hb, h.own.below hb⟩
theorem MO.mono {w : World} {B B' : Nat} {m : Mp} (h : MO w B m) (hB : B' ≤ B) : MO w B' m := ⟨h.cuts.mono hB, h.own.mono hB⟩
/-- no map -/
def noM : Mp := ⟨none, 0, [], none, 0, []⟩
theorem noM_mo (w : World) (B : Nat) : MO w B noM := ⟨OR.nil _ _ _, OR.nil _ _ _⟩
theorem grown_set (w : World) (g i : Nat) (v : Value) : w.grownBy (w.setCell ⟨g, i, none⟩ v) (some g) := ⟨rfl, rfl, rfl, by simp [World.setCell], fun j _ hne => Below.heap_setCell w _ _ j (fun e => hne (by rw [e]))⟩
theorem OR.set {w : World} {B g i : Nat} {t u : TypeId} {A : Option Addr} {c : Nat} {xs : List Value} {v : Value} (h : OR w B t A c xs) (ht : Ty w g u) (hne : t ≠ u) : OR (w.setCell ⟨g, i, none⟩ v) B t A c xs := World.ownsRow.kept h (grown_set w g i v) (own_ne h ht hne)
theorem MO.set {w : World} {B g i : Nat} {m : Mp} {v : Value} (h : MO w B m) (ht : Ty w g 28) : MO (w.setCell ⟨g, i, none⟩ v) B m := ⟨h.cuts.set ht (by decide), h.own.set ht (by decide)⟩
theorem below_set {a w : World} {g i : Nat} {v : Value} (h : Below a.heap.size a w) (hg : a.heap.size ≤ g) : Below a.heap.size a (w.setCell ⟨g, i, none⟩ v) := h.grown (grown_set w g i v) h.size (fun b hb => by injection hb with hb; subst hb; exact hg)
/-- the result's box is written -/
theorem res_set {w wr : World} {gr : Nat} {a b : Value} {n : Mp} (hr : Box wr gr 28 #[a, b]) (hl : w.heap.size ≤ gr) (hn : MO wr w.heap.size n) (hb : Below w.heap.size w wr) (x y : Value) :
    MO ((wr.setCell ⟨gr, 0, none⟩ x).setCell ⟨gr, 1, none⟩ y) w.heap.size n ∧ Below w.heap.size w ((wr.setCell ⟨gr, 0, none⟩ x).setCell ⟨gr, 1, none⟩ y) :=
  ⟨(hn.set hr.ty).set (hr.set 0 x).ty, below_set (below_set hb hl) hl⟩
end Go.Proofs.YtmepmiokpcddbabGreatDoor
