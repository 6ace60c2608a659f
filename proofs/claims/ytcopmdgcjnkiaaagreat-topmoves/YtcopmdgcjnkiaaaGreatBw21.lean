/-
  Parts of a store, plainly (no program in it).
  A partitioned store in memory (no body of the program in it).
-/
import Derived.Test.YtcopmdgcjnkiaaaGreatBw20
import Derived.Test.YtcopmdgcjnkiaaaGreatBw5
import Derived.Test.YtcopmdgcjnkiaaaGreatBw12
import Derived.Test.YtcopmdgcjnkiaaaGreatBw3
set_option linter.unusedVariables false
set_option linter.unusedSimpArgs false
namespace Go.Proofs.YtcopmdgcjnkiaaaGreat

/-- the pairs whose keys belong to an owner -/
def ptL (cs : List ByteArray) (os : List Int) (n : Int) (l : List Pr) : List Pr := l.filter fun p => decide (whV cs os p.1 = n)
/-- the pairs whose keys belong to an owner below a number -/
def upL (cs : List ByteArray) (os : List Int) (n : Int) (l : List Pr) : List Pr := l.filter fun p => decide (whV cs os p.1 < n)
theorem Ok.filter {l : List Pr} (h : Ok l) (f : Pr → Bool) : Ok (l.filter f) :=
  ⟨h.srt.sublist List.filter_sublist, fun p hp => h.key p ((List.mem_filter.1 hp).1), fun p hp => h.val p ((List.mem_filter.1 hp).1), fun p hp => h.nz p ((List.mem_filter.1 hp).1)⟩
section
variable {cs : List ByteArray} {os : List Int} {l : List Pr}
theorem ptL_ok (h : Ok l) (n : Int) : Ok (ptL cs os n l) := h.filter _
theorem upL_ok (h : Ok l) (n : Int) : Ok (upL cs os n l) := h.filter _
theorem ptL_snoc (n : Int) (p : Pr) : ptL cs os n (l ++ [p]) = ptL cs os n l ++ (if whV cs os p.1 = n then [p] else []) := by
  unfold ptL
  rw [List.filter_append]
  congr 1
  by_cases e : whV cs os p.1 = n <;> simp [e]
theorem upL_zero (h : OkM cs os) : upL cs os 0 l = [] := by
  unfold upL
  rw [List.filter_eq_nil_iff]
  intro p _
  have := h.own _ (whV_mem h p.1)
  simp; omega
theorem upL_all (h : OkM cs os) : upL cs os 4 l = l := by
  unfold upL
  rw [List.filter_eq_self]
  intro p _
  have := h.own _ (whV_mem h p.1)
  simp; omega
theorem upL_len (n : Int) : (upL cs os (n + 1) l).length = (upL cs os n l).length + (ptL cs os n l).length := by
  unfold upL ptL
  induction l with
  | nil => rfl
  | cons p r ih =>
    simp only [List.filter_cons]
    by_cases h1 : whV cs os p.1 < n
    · rw [if_pos (by simp; omega), if_pos (by simpa using h1), if_neg (by simp; omega)]; simp [ih]; omega
    · by_cases h2 : whV cs os p.1 = n
      · rw [if_pos (by simp; omega), if_neg (by simpa using h1), if_pos (by simpa using h2)]; simp [ih]; omega
      · rw [if_neg (by simp; omega), if_neg (by simpa using h1), if_neg (by simpa using h2)]; exact ih
theorem valOf_filter (hs : l.Pairwise (fun p q => ltB p.1 q.1 = true)) (f : ByteArray → Bool) (k : ByteArray) : valOf (l.filter fun p => f p.1) k = if f k = true then valOf l k else 0 := by
  by_cases hk : f k = true
  · rw [if_pos hk]
    by_cases he : ∃ p ∈ l, p.1 = k
    · obtain ⟨p, hp, rfl⟩ := he
      rw [valOf_mem hs hp, valOf_mem (hs.sublist List.filter_sublist) (List.mem_filter.2 ⟨hp, hk⟩)]
    · rw [valOf_none fun p hp e => he ⟨p, hp, e⟩, valOf_none fun p hp e => he ⟨p, (List.mem_filter.1 hp).1, e⟩]
  · rw [if_neg hk]
    exact valOf_none fun p hp e => hk (e ▸ (List.mem_filter.1 hp).2)
theorem up_apart (n : Int) : ∀ p ∈ upL cs os n l, ∀ q ∈ ptL cs os n l, p.1 ≠ q.1 := fun p hp q hq e => by
  have h1 := (List.mem_filter.1 hp).2
  have h2 := (List.mem_filter.1 hq).2
  rw [e] at h1
  simp at h1 h2
  omega
theorem up_mem (n : Int) (p : Pr) : p ∈ upL cs os (n + 1) l ↔ p ∈ upL cs os n l ∨ p ∈ ptL cs os n l := by
  simp only [upL, ptL, List.mem_filter, decide_eq_true_eq]
  constructor
  · rintro ⟨h1, h2⟩
    by_cases h3 : whV cs os p.1 = n
    · exact .inr ⟨h1, h3⟩
    · exact .inl ⟨h1, by omega⟩
  · rintro (⟨h1, h2⟩ | ⟨h1, h2⟩)
    · exact ⟨h1, by omega⟩
    · exact ⟨h1, by omega⟩
end
/-- two valid stores with the same pairs are one -/
theorem Ok.one_ {l m : List Pr} (hl : Ok l) (hm : Ok m) (h : ∀ p, p ∈ l ↔ p ∈ m) : l = m := by
  refine hl.ext hm fun k => ?_
  by_cases he : ∃ p ∈ l, p.1 = k
  · obtain ⟨p, hp, rfl⟩ := he
    rw [valOf_mem hl.srt hp, valOf_mem hm.srt ((h p).1 hp)]
  · rw [valOf_none fun p hp e => he ⟨p, hp, e⟩, valOf_none fun p hp e => he ⟨p, (h p).2 hp, e⟩]
end Go.Proofs.YtcopmdgcjnkiaaaGreat

set_option linter.unusedVariables false
set_option linter.unusedSimpArgs false
namespace Go.Proofs.YtcopmdgcjnkiaaaGreat
open Go.RowKit

/-- four slices of pairs: where they lie, and their capacities -/
structure Dv where
  A : Nat → Option Addr
  c : Nat → Nat
/-- the slice of an owner -/
def Dv.s (q : Dv) (cs : List ByteArray) (os : List Int) (l : List Pr) (k : Nat) : Value := .slice (q.A k) (ptL cs os (k : Int) l).length (q.c k)
def Dv.ar (q : Dv) (cs : List ByteArray) (os : List Int) (l : List Pr) : Array Value := #[q.s cs os l 0, q.s cs os l 1, q.s cs os l 2, q.s cs os l 3]
/-- while they are made: those of the first owners -/
def Dv.u (q : Dv) (cs : List ByteArray) (os : List Int) (l : List Pr) (k j : Nat) : Value := if j < k then q.s cs os l j else .slice none 0 0
def Dv.up (q : Dv) (cs : List ByteArray) (os : List Int) (l : List Pr) (k : Nat) : Array Value := #[q.u cs os l k 0, q.u cs os l k 1, q.u cs os l k 2, q.u cs os l k 3]
def Dv.put (q : Dv) (k : Nat) (A : Option Addr) (c : Nat) : Dv := ⟨fun j => if j = k then A else q.A j, fun j => if j = k then c else q.c j⟩
def noD : Dv := ⟨fun _ => none, fun _ => 0⟩
section
variable {q : Dv} {cs : List ByteArray} {os : List Int} {l : List Pr} {k : Nat}
theorem Dv.up_zero (q : Dv) (cs : List ByteArray) (os : List Int) (l : List Pr) : q.up cs os l 0 = #[.slice none 0 0, .slice none 0 0, .slice none 0 0, .slice none 0 0] := rfl
theorem Dv.up_four (q : Dv) (cs : List ByteArray) (os : List Int) (l : List Pr) : q.up cs os l 4 = q.ar cs os l := rfl
theorem lt4 {k : Nat} (h : k < 4) : k = 0 ∨ k = 1 ∨ k = 2 ∨ k = 3 := by omega
theorem Dv.up_put (hk : k < 4) (A : Option Addr) (c : Nat) : (q.up cs os l k).setIfInBounds k (.slice A (ptL cs os (k : Int) l).length c) = (q.put k A c).up cs os l (k + 1) := by
  rcases lt4 hk with rfl | rfl | rfl | rfl <;> simp [Dv.up, Dv.u, Dv.put, Dv.s]
theorem Dv.up_at (hk : k < 4) {j : Nat} (hj : j < 4) : (q.up cs os l k)[j]? = some (q.u cs os l k j) := by
  rcases lt4 hj with rfl | rfl | rfl | rfl <;> rfl
theorem Dv.ar_at {j : Nat} (hj : j < 4) : (q.ar cs os l)[j]? = some (q.s cs os l j) := by
  rcases lt4 hj with rfl | rfl | rfl | rfl <;> rfl
end
/-- the slices of the first owners are a call's own -/
def Dv.Own (q : Dv) (w : World) (B : Nat) (cs : List ByteArray) (os : List Int) (l : List Pr) (k : Nat) : Prop := ∀ j, j < k → OV w B (q.A j) (q.c j) (ptL cs os (j : Int) l)
section
variable {q : Dv} {w w' : World} {B B' k : Nat} {cs : List ByteArray} {os : List Int} {l : List Pr}
theorem Dv.Own.below (h : q.Own w B cs os l k) (hb : Below w.heap.size w w') : q.Own w' B cs os l k := fun j hj => (h j hj).below hb
theorem Dv.Own.mono (h : q.Own w B cs os l k) (hB : B' ≤ B) : q.Own w B' cs os l k := fun j hj => (h j hj).mono hB
theorem Dv.Own.put (h : q.Own w B cs os l k) {A : Option Addr} {c : Nat} (hA : OV w B A c (ptL cs os (k : Int) l)) : (q.put k A c).Own w B cs os l (k + 1) := fun j hj => by
  by_cases e : j = k
  · subst e; simpa [Dv.put] using hA
  · simpa [Dv.put, e] using h j (by omega)
theorem OV.kept_ {A : Option Addr} {c g : Nat} {t : TypeId} (h : OV w B A c l) (ht : Ty w g t) (hne : 64 ≠ t) (hg : w.grownBy w' (some g)) : OV w' B A c l := World.ownsRow.kept h hg (own_ne h ht hne)
theorem Dv.Own.kept {g : Nat} {t : TypeId} (h : q.Own w B cs os l k) (ht : Ty w g t) (hne : 64 ≠ t) (hg : w.grownBy w' (some g)) : q.Own w' B cs os l k := fun j hj => (h j hj).kept_ ht hne hg
theorem OR.kept_ {A : Option Addr} {c g : Nat} {t u : TypeId} {xs : List Value} (h : OR w B u A c xs) (ht : Ty w g t) (hne : u ≠ t) (hg : w.grownBy w' (some g)) : OR w' B u A c xs := World.ownsRow.kept h hg (own_ne h ht hne)
theorem MO.kept {m : Mp} {g : Nat} {t : TypeId} (h : MO w B m) (ht : Ty w g t) (h1 : 9 ≠ t) (h2 : 3 ≠ t) (hg : w.grownBy w' (some g)) : MO w' B m := ⟨h.cuts.kept_ ht h1 hg, h.own.kept_ ht h2 hg⟩
theorem Below.kept {w0 : World} {g : Nat} (h : Below w0.heap.size w0 w) (hl : w0.heap.size ≤ g) (hg : w.grownBy w' (some g)) : Below w0.heap.size w0 w' := h.grown hg h.size (fun b hb => by injection hb with hb; subst hb; exact hl)
theorem Box.kept {g g' : Nat} {t : TypeId} {xs : Array Value} (h : Box w g t xs) (hne : g ≠ g') (hg : w.grownBy w' (some g')) : Box w' g t xs := h.grown hg (fun e => hne (by injection e))
end
theorem grown_refl (w : World) (r : Option Nat) : w.grownBy w r := ⟨rfl, rfl, rfl, Nat.le_refl _, fun _ _ _ => rfl⟩
theorem grown_trans {a b c : World} {r : Option Nat} (h : a.grownBy b r) (k : b.grownBy c r) : a.grownBy c r :=
  ⟨k.os.trans h.os, k.tape.trans h.tape, k.output.trans h.output, Nat.le_trans h.size k.size, fun i hi hne => (k.block i (Nat.lt_of_lt_of_le hi h.size) hne).trans (h.block i hi hne)⟩
theorem grown_below {w w' : World} (hb : Below w.heap.size w w') (r : Option Nat) : w.grownBy w' r := ⟨hb.os, hb.tape, hb.output, hb.size, fun k hk _ => hb.block k hk⟩
/-- a partitioned store: its map, its parts; all in blocks from B on -/
structure PB (w : World) (B g : Nat) (m : Mp) (l : List Pr) (q : Dv) : Prop where
  box : Box w g 127 #[.slice m.A m.cs.length m.ca, .slice m.O m.os.length m.co, q.s m.cs m.os l 0, q.s m.cs m.os l 1, q.s m.cs m.os l 2, q.s m.cs m.os l 3]
  mo : MO w B m
  own : q.Own w B m.cs m.os l 4
  okm : OkM m.cs m.os
  ok : Ok l
  low : B ≤ g
section
variable {w w' : World} {B B' g : Nat} {m n : Mp} {l l' : List Pr} {q q' : Dv}
theorem PB.below (h : PB w B g m l q) (hb : Below w.heap.size w w') : PB w' B g m l q := ⟨h.box.below hb, h.mo.below hb, h.own.below hb, h.okm, h.ok, h.low⟩
theorem PB.mono (h : PB w B g m l q) (hB : B' ≤ B) : PB w B' g m l q := ⟨h.box, h.mo.mono hB, h.own.mono hB, h.okm, h.ok, Nat.le_trans hB h.low⟩
/-- another one's box changes -/
theorem PB.kept {g' : Nat} {t : TypeId} (h : PB w B g m l q) (hne : g ≠ g') (ht : Ty w g' t) (h1 : 9 ≠ t) (h2 : 3 ≠ t) (h3 : 64 ≠ t) (hg : w.grownBy w' (some g')) : PB w' B g m l q :=
  ⟨h.box.kept hne hg, h.mo.kept ht h1 h2 hg, h.own.kept ht h3 hg, h.okm, h.ok, h.low⟩
theorem ty_ne {a b : Nat} {t u : TypeId} (h : Ty w a t) (k : Ty w b u) (hne : t ≠ u) : a ≠ b := fun e => by subst e; exact hne (h.inj k)
theorem PB.c0 (h : PB w B g m l q) : w.cell? ⟨g, 0, none⟩ = some (.slice m.A m.cs.length m.ca) := h.box.cell 0 rfl
theorem PB.c1 (h : PB w B g m l q) : w.cell? ⟨g, 1, none⟩ = some (.slice m.O m.os.length m.co) := h.box.cell 1 rfl
theorem PB.p (h : PB w B g m l q) {k : Nat} (hk : k < 4) : w.cell? ⟨g, 2 + k, none⟩ = some (q.s m.cs m.os l k) := by
  rcases lt4 hk with rfl | rfl | rfl | rfl
  · exact h.box.cell 2 rfl
  · exact h.box.cell 3 rfl
  · exact h.box.cell 4 rfl
  · exact h.box.cell 5 rfl
end
/-- a box's first cells are written, one by one -/
theorem grown_box {w : World} {g : Nat} (xs : List (Nat × Value)) : w.grownBy (xs.foldl (fun w x => w.setCell ⟨g, x.1, none⟩ x.2) w) (some g) := by
  induction xs generalizing w with
  | nil => exact grown_refl _ _
  | cons x r ih => exact grown_trans (grown_set w g x.1 x.2) ih
end Go.Proofs.YtcopmdgcjnkiaaaGreat
