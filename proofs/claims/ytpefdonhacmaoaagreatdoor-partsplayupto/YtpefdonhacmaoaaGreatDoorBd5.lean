/-
  Rows apart by the types of their blocks (no body of the program in it).
  Partition maps of the call's own (no body of the program in it).
  Boxes of maps (no body of the program in it).
-/
import Derived.Test.YtpefdonhacmaoaaGreatDoorBd4
import Derived.Test.YtpefdonhacmaoaaGreatDoorBd3
set_option linter.unusedVariables false
set_option linter.unusedSimpArgs false
namespace Go.Proofs.YtpefdonhacmaoaaGreatDoor
open Go.RowKit

/-- is a block of a type? -/
def Ty (w : World) (b : Nat) (t : TypeId) : Prop := ∃ cs fr, w.heap[b]? = some (.cells cs t fr)
theorem Ty.inj {w : World} {b : Nat} {t u : TypeId} (h : Ty w b t) (k : Ty w b u) : t = u := by
  obtain ⟨cs, fr, h⟩ := h
  obtain ⟨cs', fr', k⟩ := k
  rw [h] at k; injection k with k; injection k
theorem Box.ty {w : World} {g : Nat} {t : TypeId} {cs : Array Value} (h : Box w g t cs) : Ty w g t := ⟨_, _, h⟩
theorem own_ty {w : World} {B : Nat} {t : TypeId} {s : Nat} {v : Value} {n : Nat} {xs : List Value} (h : w.ownsRow B t s v n xs) {b : Nat} (hb : v.ownBlock = some b) : Ty w b t := by
  rcases h.2 with ⟨rfl, h0⟩ | ⟨g, cap, cur, rfl, _, hg, _⟩
  · cases hb
  · injection hb with hb; subst hb; exact ⟨_, _, hg⟩
theorem own_ne {w : World} {B : Nat} {t u : TypeId} {s : Nat} {v : Value} {n : Nat} {xs : List Value} (h : w.ownsRow B t s v n xs) {r : Nat} (hr : Ty w r u) (hne : t ≠ u) : v.ownBlock = none ∨ v.ownBlock ≠ some r := by
  cases hb : v.ownBlock with
  | none => exact .inl rfl
  | some b => exact .inr fun e => by injection e with e; subst e; exact hne ((own_ty h hb).inj hr)
theorem own_ne_map {w : World} {B : Nat} {t : TypeId} {s : Nat} {v : Value} {n : Nat} {xs : List Value} (h : w.ownsRow B t s v n xs) {r : Nat} {es : Array MapEntry} {clock : Nat} (hr : w.heap[r]? = some (.map es clock)) : v.ownBlock = none ∨ v.ownBlock ≠ some r := by
  cases hb : v.ownBlock with
  | none => exact .inl rfl
  | some b =>
    refine .inr fun e => ?_
    injection e with e
    subst e
    obtain ⟨cs, fr, h2⟩ := own_ty h hb
    rw [hr] at h2
    cases h2

theorem own_below {w w' : World} {B : Nat} {t : TypeId} {s : Nat} {v : Value} {n : Nat} {xs : List Value} (h : w.ownsRow B t s v n xs) (hb : Below w.heap.size w w') : w'.ownsRow B t s v n xs :=
  h.kept (row := none) ⟨hb.os, hb.tape, hb.output, hb.size, fun k hk _ => hb.block k hk⟩ (by cases v.ownBlock <;> simp)
theorem rows_ne {w : World} {B B' : Nat} {t u : TypeId} {s s' : Nat} {v v' : Value} {n n' : Nat} {xs xs' : List Value} (h : w.ownsRow B t s v n xs) (h' : w.ownsRow B' u s' v' n' xs') (hne : t ≠ u) : v.ownBlock = none ∨ v.ownBlock ≠ v'.ownBlock := by
  cases hb : v'.ownBlock with
  | none => cases v.ownBlock <;> simp
  | some r => exact own_ne h (own_ty h' hb) hne
theorem own_mono {w : World} {B B' : Nat} {t : TypeId} {s : Nat} {v : Value} {n : Nat} {xs : List Value} (h : w.ownsRow B t s v n xs) (hB : B' ≤ B) : w.ownsRow B' t s v n xs :=
  ⟨h.1, h.2.imp id fun ⟨g, cap, cur, h1, h2, h3⟩ => ⟨g, cap, cur, h1, Nat.le_trans hB h2, h3⟩⟩
end Go.Proofs.YtpefdonhacmaoaaGreatDoor

set_option linter.unusedVariables false
set_option linter.unusedSimpArgs false
namespace Go.Proofs.YtpefdonhacmaoaaGreatDoor
open Go.RowKit

/-- a map of the call's own -/
structure MO (w : World) (B : Nat) (m : Mp) : Prop where
  cuts : OR w B 9 m.A m.ca (m.cs.map Value.string)
  own : OR w B 3 m.O m.co (m.os.map (Value.int .i64))
theorem VS.is_int {w : World} {A : Option Addr} {l : List Int} (h : VS w A (l.map (Value.int .i64))) : IS w A l := fun i z hz => h i (.int .i64 z) (by rw [List.getElem?_map, hz]; rfl)
theorem IS.vs {w : World} {A : Option Addr} {l : List Int} (h : IS w A l) : VS w A (l.map (Value.int .i64)) := fun i v hv => by
  rw [List.getElem?_map] at hv
  cases hz : l[i]? with
  | none => rw [hz] at hv; cases hv
  | some z => rw [hz] at hv; injection hv with hv; subst hv; exact h i z hz
theorem MO.ms {w : World} {B : Nat} {m : Mp} (h : MO w B m) : MS w m := by
  obtain ⟨c1, c2, c3, _⟩ := h.cuts.caps
  obtain ⟨d1, d2, d3, _⟩ := h.own.caps
  rw [List.length_map] at c1 d1
  exact ⟨h.cuts.vs, h.own.vs.is_int, c1, d1, c2, d2, c3, d3⟩
theorem MO.below {w w' : World} {B : Nat} {m : Mp} (h : MO w B m) (hb : Below w.heap.size w w') : MO w' B m := ⟨h.cuts.below hb, h.own.below hb⟩
theorem MO.mono {w : World} {B B' : Nat} {m : Mp} (h : MO w B m) (hB : B' ≤ B) : MO w B' m := ⟨h.cuts.mono hB, h.own.mono hB⟩
/-- no map -/
def noM : Mp := ⟨none, 0, [], none, 0, []⟩
theorem noM_mo (w : World) (B : Nat) : MO w B noM := ⟨OR.nil _ _ _, OR.nil _ _ _⟩
theorem grown_set (w : World) (g i : Nat) (v : Value) : w.grownBy (w.setCell ⟨g, i, none⟩ v) (some g) := ⟨rfl, rfl, rfl, by simp [World.setCell], fun j _ hne => Below.heap_setCell w _ _ j (fun e => hne (by rw [e]))⟩
theorem OR.set {w : World} {B g i : Nat} {t u : TypeId} {A : Option Addr} {c : Nat} {xs : List Value} {v : Value} (h : OR w B t A c xs) (ht : Ty w g u) (hne : t ≠ u) : OR (w.setCell ⟨g, i, none⟩ v) B t A c xs := World.ownsRow.kept h (grown_set w g i v) (own_ne h ht hne)
theorem MO.set {w : World} {B g i : Nat} {m : Mp} {v : Value} (h : MO w B m) (ht : Ty w g 25) : MO (w.setCell ⟨g, i, none⟩ v) B m := ⟨h.cuts.set ht (by decide), h.own.set ht (by decide)⟩
theorem below_set {a w : World} {g i : Nat} {v : Value} (h : Below a.heap.size a w) (hg : a.heap.size ≤ g) : Below a.heap.size a (w.setCell ⟨g, i, none⟩ v) := h.grown (grown_set w g i v) h.size (fun b hb => by injection hb with hb; subst hb; exact hg)
/-- the result's box is written -/
theorem res_set {w wr : World} {gr : Nat} {a b : Value} {n : Mp} (hr : Box wr gr 25 #[a, b]) (hl : w.heap.size ≤ gr) (hn : MO wr w.heap.size n) (hb : Below w.heap.size w wr) (x y : Value) :
    MO ((wr.setCell ⟨gr, 0, none⟩ x).setCell ⟨gr, 1, none⟩ y) w.heap.size n ∧ Below w.heap.size w ((wr.setCell ⟨gr, 0, none⟩ x).setCell ⟨gr, 1, none⟩ y) :=
  ⟨(hn.set hr.ty).set (hr.set 0 x).ty, below_set (below_set hb hl) hl⟩
end Go.Proofs.YtpefdonhacmaoaaGreatDoor

set_option linter.unusedVariables false
set_option linter.unusedSimpArgs false
namespace Go.Proofs.YtpefdonhacmaoaaGreatDoor
open Go.RowKit

theorem MH.mk_ {w w2 : World} {m : Mp} (hs : MS w2 m) (hb : Below w.heap.size w w2) : MH w w2.heap.size m (w2.alloc (.cells #[.slice m.A m.cs.length m.ca, .slice m.O m.os.length m.co] 25)) :=
  ⟨Box.new _ _ _, hs.below ((Below.refl _ _).alloc (Nat.le_refl _) _), hb.alloc hb.size _⟩
theorem MH.alloc {w wr : World} {g : Nat} {m : Mp} {o : Obj} (h : MH w g m wr) : MH w g m (wr.alloc o) := h.below ((Below.refl _ _).alloc (Nat.le_refl _) _)
theorem MH.drew {w wr : World} {g : Nat} {m : Mp} (h : MH w g m wr) : MH w g m wr.drew := h.below (Below.refl _ _).drew
/-- a map of the call's own in a box -/
structure MX (w : World) (g : Nat) (m : Mp) (wr : World) : Prop where
  x0 : Box wr g 25 #[.slice m.A m.cs.length m.ca, .slice m.O m.os.length m.co]
  mo : MO wr w.heap.size m
  be : Below w.heap.size w wr
section
variable {w wr w' : World} {g gx : Nat} {m n : Mp}
theorem MX.below (h : MX w g m wr) (hb : Below wr.heap.size wr w') : MX w g m w' := ⟨h.x0.below hb, h.mo.below hb, h.be.trans (hb.mono h.be.size)⟩
theorem MX.alloc {o : Obj} (h : MX w g m wr) : MX w g m (wr.alloc o) := h.below ((Below.refl _ _).alloc (Nat.le_refl _) _)
theorem MX.drew (h : MX w g m wr) : MX w g m wr.drew := h.below (Below.refl _ _).drew
theorem MX.ms (h : MX w g m wr) : MS wr m := h.mo.ms
theorem MX.c (h : MX w g m wr) : wr.cell? ⟨g, 0, none⟩ = some (.slice m.A m.cs.length m.ca) ∧ wr.cell? ⟨g, 1, none⟩ = some (.slice m.O m.os.length m.co) := ⟨h.x0.cell 0 rfl, h.x0.cell 1 rfl⟩
theorem MX.mk_ (hs : MO wr w.heap.size m) (hb : Below w.heap.size w wr) : MX w wr.heap.size m (wr.alloc (.cells #[.slice m.A m.cs.length m.ca, .slice m.O m.os.length m.co] 25)) :=
  ⟨Box.new _ _ _, hs.below ((Below.refl _ _).alloc (Nat.le_refl _) _), hb.alloc hb.size _⟩
/-- a box that was made ahead is filled -/
theorem MX.fill (hn : MO wr w.heap.size n) (hb : Below w.heap.size w wr) {a b : Value} (hx : Box wr gx 25 #[a, b]) (hl : w.heap.size ≤ gx) : MX w gx n ((wr.setCell ⟨gx, 0, none⟩ (.slice n.A n.cs.length n.ca)).setCell ⟨gx, 1, none⟩ (.slice n.O n.os.length n.co)) :=
  have r := res_set hx hl hn hb (.slice n.A n.cs.length n.ca) (.slice n.O n.os.length n.co)
  ⟨by simpa using (hx.set 0 (.slice n.A n.cs.length n.ca)).set 1 (.slice n.O n.os.length n.co), r.1, r.2⟩
theorem MX.other (h : MX w g m wr) {a b : Value} (hx : Box wr gx 25 #[a, b]) (hl : w.heap.size ≤ gx) (hne : gx ≠ g) (x y : Value) : MX w g m ((wr.setCell ⟨gx, 0, none⟩ x).setCell ⟨gx, 1, none⟩ y) :=
  have r := res_set hx hl h.mo h.be x y
  ⟨(h.x0.other (a := ⟨gx, 0, none⟩) hne x).other (a := ⟨gx, 1, none⟩) hne y, r.1, r.2⟩
end
theorem VS.of_box {w : World} {g : Nat} {t : TypeId} {cs : Array Value} (h : Box w g t cs) : VS w (some ⟨g, 0, none⟩) cs.toList := fun i v hv => ⟨g, 0, rfl, h.lt, by rw [Nat.zero_add]; exact h.cell i (by simpa using hv)⟩
theorem OkM.l2 {cs : List ByteArray} {os : List Int} (h : OkM cs os) : os.length ≤ 9223372036854775807 := by have := h.few; have := h.len; omega
end Go.Proofs.YtpefdonhacmaoaaGreatDoor
