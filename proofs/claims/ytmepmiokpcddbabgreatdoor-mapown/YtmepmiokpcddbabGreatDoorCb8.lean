/-
  Parts of a store, plainly (no program in it).
  A partitioned store in memory (no body of the program in it).
  What only a set of blocks, and new ones, change (no body of the program in it).
  slices.Grow of nil and slices.Concat of two, at strings.
  rokeep.spoil at one type.
-/
import Derived.Test.YtmepmiokpcddbabGreatDoorCb2
import Derived.Test.YtmepmiokpcddbabGreatDoorCb7
import Derived.Test.YtmepmiokpcddbabGreatDoorCb3
import Derived.Test.YtmepmiokpcddbabGreatDoorCb4
import Derived.WalkKit
import Derived.WalkSpells
import Derived.WalkLawsBesides
import Derived.Deep.QuietTactic
import Derived.BigQuiet
import Derived.Lib.SlicesS
set_option linter.unusedVariables false
set_option linter.unusedSimpArgs false
namespace Go.Proofs.YtmepmiokpcddbabGreatDoor

/-- the pairs whose keys belong to an owner -/
def ptL (cs : List ByteArray) (os : List Int) (n : Int) (l : List Pr) : List Pr := l.filter fun p => decide (whV cs os p.1 = n)
/-- the pairs whose keys belong to an owner below a number -/
def upL (cs : List ByteArray) (os : List Int) (n : Int) (l : List Pr) : List Pr := l.filter fun p => decide (whV cs os p.1 < n)
theorem Ok.filter {l : List Pr} (h : Ok l) (f : Pr → Bool) : Ok (l.filter f) :=
  ⟨h.srt.sublist List.filter_sublist, fun p hp => h.key p ((List.mem_filter.1 hp).1), fun p hp => h.val p ((List.mem_filter.1 hp).1), fun p hp => h.nz p ((List.mem_filter.1 hp).1)⟩
section
variable {cs : List ByteArray} {os : List Int} {l : List Pr}
theorem ptL_ok (h : Ok l) (n : Int) : Ok (ptL cs os n l) := h.filter _
theorem upL_ok (h : Ok l) (n : Int) : Ok (upL cs os n l) := h.filter _
theorem ptL_snoc (n : Int) (p : Pr) : ptL cs os n (l ++ [p]) = ptL cs os n l ++ (if whV cs os p.1 = n then [p] else []) := by
  unfold ptL
  rw [List.filter_append]
  congr 1
  by_cases e : whV cs os p.1 = n <;> simp [e]
theorem upL_zero (h : OkM cs os) : upL cs os 0 l = [] := by
  unfold upL
  rw [List.filter_eq_nil_iff]
  intro p _
  have := h.own _ (whV_mem h p.1)
  simp; omega
theorem upL_all (h : OkM cs os) : upL cs os 4 l = l := by
  unfold upL
  rw [List.filter_eq_self]
  intro p _
  have := h.own _ (whV_mem h p.1)
  simp; omega
theorem upL_len (n : Int) : (upL cs os (n + 1) l).length = (upL cs os n l).length + (ptL cs os n l).length := by
  unfold upL ptL
  induction l with
  | nil => rfl
  | cons p r ih =>
    simp only [List.filter_cons]
    by_cases h1 : whV cs os p.1 < n
    · rw [if_pos (by simp; omega), if_pos (by simpa using h1), if_neg (by simp; omega)]; simp [ih]; omega
    · by_cases h2 : whV cs os p.1 = n
      · rw [if_pos (by simp; omega), if_neg (by simpa using h1), if_pos (by simpa using h2)]; simp [ih]; omega
      · rw [if_neg (by simp; omega), if_neg (by simpa using h1), if_neg (by simpa using h2)]; exact ih
theorem valOf_filter (hs : l.Pairwise (fun p q => ltB p.1 q.1 = true)) (f : ByteArray → Bool) (k : ByteArray) : valOf (l.filter fun p => f p.1) k = if f k = true then valOf l k else 0 := by
  by_cases hk : f k = true
  · rw [if_pos hk]
    by_cases he : ∃ p ∈ l, p.1 = k
    · obtain ⟨p, hp, rfl⟩ := he
      rw [valOf_mem hs hp, valOf_mem (hs.sublist List.filter_sublist) (List.mem_filter.2 ⟨hp, hk⟩)]
    · rw [valOf_none fun p hp e => he ⟨p, hp, e⟩, valOf_none fun p hp e => he ⟨p, (List.mem_filter.1 hp).1, e⟩]
  · rw [if_neg hk]
    exact valOf_none fun p hp e => hk (e ▸ (List.mem_filter.1 hp).2)
theorem up_apart (n : Int) : ∀ p ∈ upL cs os n l, ∀ q ∈ ptL cs os n l, p.1 ≠ q.1 := fun p hp q hq e => by
  have h1 := (List.mem_filter.1 hp).2
  have h2 := (List.mem_filter.1 hq).2
  rw [e] at h1
  simp at h1 h2
  omega
theorem up_mem (n : Int) (p : Pr) : p ∈ upL cs os (n + 1) l ↔ p ∈ upL cs os n l ∨ p ∈ ptL cs os n l := by
  simp only [upL, ptL, List.mem_filter, decide_eq_true_eq]
  constructor
  · rintro ⟨h1, h2⟩
    by_cases h3 : whV cs os p.1 = n
    · exact .inr ⟨h1, h3⟩
    · exact .inl ⟨h1, by omega⟩
  · rintro (⟨h1, h2⟩ | ⟨h1, h2⟩)
    · exact ⟨h1, by omega⟩
    · exact ⟨h1, by omega⟩
end
/-- two valid stores with the same pairs are one -/
theorem Ok.one_ {l m : List Pr} (hl : Ok l) (hm : Ok m) (h : ∀ p, p ∈ l ↔ p ∈ m) : l = m := by
  refine hl.ext hm fun k => ?_
  by_cases he : ∃ p ∈ l, p.1 = k
  · obtain ⟨p, hp, rfl⟩ := he
    rw [valOf_mem hl.srt hp, valOf_mem hm.srt ((h p).1 hp)]
  · rw [valOf_none fun p hp e => he ⟨p, hp, e⟩, valOf_none fun p hp e => he ⟨p, (h p).2 hp, e⟩]
end Go.Proofs.YtmepmiokpcddbabGreatDoor

set_option linter.unusedVariables false
set_option linter.unusedSimpArgs false
namespace Go.Proofs.YtmepmiokpcddbabGreatDoor
open Go.RowKit

/-- four slices of pairs: where they lie, and their capacities -/
structure Dv where
  A : Nat → Option Addr
  c : Nat → Nat
/-- the slice of an owner -/
def Dv.s (q : Dv) (cs : List ByteArray) (os : List Int) (l : List Pr) (k : Nat) : Value := .slice (q.A k) (ptL cs os (k : Int) l).length (q.c k)
def Dv.ar (q : Dv) (cs : List ByteArray) (os : List Int) (l : List Pr) : Array Value := #[q.s cs os l 0, q.s cs os l 1, q.s cs os l 2, q.s cs os l 3]
/-- while they are made: those of the first owners -/
def Dv.u (q : Dv) (cs : List ByteArray) (os : List Int) (l : List Pr) (k j : Nat) : Value := if j < k then q.s cs os l j else .slice none 0 0
def Dv.up (q : Dv) (cs : List ByteArray) (os : List Int) (l : List Pr) (k : Nat) : Array Value := #[q.u cs os l k 0, q.u cs os l k 1, q.u cs os l k 2, q.u cs os l k 3]
def Dv.put (q : Dv) (k : Nat) (A : Option Addr) (c : Nat) : Dv := ⟨fun j => if j = k then A else q.A j, fun j => if j = k then c else q.c j⟩
def noD : Dv := ⟨fun _ => none, fun _ => 0⟩
section
variable {q : Dv} {cs : List ByteArray} {os : List Int} {l : List Pr} {k : Nat}
theorem Dv.up_zero (q : Dv) (cs : List ByteArray) (os : List Int) (l : List Pr) : q.up cs os l 0 = #[.slice none 0 0, .slice none 0 0, .slice none 0 0, .slice none 0 0] := rfl
theorem Dv.up_four (q : Dv) (cs : List ByteArray) (os : List Int) (l : List Pr) : q.up cs os l 4 = q.ar cs os l := rfl
theorem lt4 {k : Nat} (h : k < 4) : k = 0 ∨ k = 1 ∨ k = 2 ∨ k = 3 := by omega
theorem Dv.up_put (hk : k < 4) (A : Option Addr) (c : Nat) : (q.up cs os l k).setIfInBounds k (.slice A (ptL cs os (k : Int) l).length c) = (q.put k A c).up cs os l (k + 1) := by
  rcases lt4 hk with rfl | rfl | rfl | rfl <;> simp [Dv.up, Dv.u, Dv.put, Dv.s]
theorem Dv.up_at (hk : k < 4) {j : Nat} (hj : j < 4) : (q.up cs os l k)[j]? = some (q.u cs os l k j) := by
  rcases lt4 hj with rfl | rfl | rfl | rfl <;> rfl
theorem Dv.ar_at {j : Nat} (hj : j < 4) : (q.ar cs os l)[j]? = some (q.s cs os l j) := by
  rcases lt4 hj with rfl | rfl | rfl | rfl <;> rfl
end
/-- the slices of the first owners are a call's own -/
def Dv.Own (q : Dv) (w : World) (B : Nat) (cs : List ByteArray) (os : List Int) (l : List Pr) (k : Nat) : Prop := ∀ j, j < k → OV w B (q.A j) (q.c j) (ptL cs os (j : Int) l)
section
variable {q : Dv} {w w' : World} {B B' k : Nat} {cs : List ByteArray} {os : List Int} {l : List Pr}
theorem Dv.Own.below (h : q.Own w B cs os l k) (hb : Below w.heap.size w w') : q.Own w' B cs os l k := fun j hj => (h j hj).below hb
theorem Dv.Own.mono (h : q.Own w B cs os l k) (hB : B' ≤ B) : q.Own w B' cs os l k := fun j hj => (h j hj).mono hB
theorem Dv.Own.put (h : q.Own w B cs os l k) {A : Option Addr} {c : Nat} (hA : OV w B A c (ptL cs os (k : Int) l)) : (q.put k A c).Own w B cs os l (k + 1) := fun j hj => by
  by_cases e : j = k
  · subst e; simpa [Dv.put] using hA
  · simpa [Dv.put, e] using h j (by omega)
theorem OV.kept_ {A : Option Addr} {c g : Nat} {t : TypeId} (h : OV w B A c l) (ht : Ty w g t) (hne : 65 ≠ t) (hg : w.grownBy w' (some g)) : OV w' B A c l := World.ownsRow.kept h hg (own_ne h ht hne)
theorem Dv.Own.kept {g : Nat} {t : TypeId} (h : q.Own w B cs os l k) (ht : Ty w g t) (hne : 65 ≠ t) (hg : w.grownBy w' (some g)) : q.Own w' B cs os l k := fun j hj => (h j hj).kept_ ht hne hg
theorem OR.kept_ {A : Option Addr} {c g : Nat} {t u : TypeId} {xs : List Value} (h : OR w B u A c xs) (ht : Ty w g t) (hne : u ≠ t) (hg : w.grownBy w' (some g)) : OR w' B u A c xs := World.ownsRow.kept h hg (own_ne h ht hne)
theorem MO.kept {m : Mp} {g : Nat} {t : TypeId} (h : MO w B m) (ht : Ty w g t) (h1 : 9 ≠ t) (h2 : 3 ≠ t) (hg : w.grownBy w' (some g)) : MO w' B m := ⟨h.cuts.kept_ ht h1 hg, h.own.kept_ ht h2 hg⟩
theorem Below.kept {w0 : World} {g : Nat} (h : Below w0.heap.size w0 w) (hl : w0.heap.size ≤ g) (hg : w.grownBy w' (some g)) : Below w0.heap.size w0 w' := h.grown hg h.size (fun b hb => by injection hb with hb; subst hb; exact hl)
theorem Box.kept {g g' : Nat} {t : TypeId} {xs : Array Value} (h : Box w g t xs) (hne : g ≠ g') (hg : w.grownBy w' (some g')) : Box w' g t xs := h.grown hg (fun e => hne (by injection e))
end
theorem grown_refl (w : World) (r : Option Nat) : w.grownBy w r := ⟨rfl, rfl, rfl, Nat.le_refl _, fun _ _ _ => rfl⟩
theorem grown_trans {a b c : World} {r : Option Nat} (h : a.grownBy b r) (k : b.grownBy c r) : a.grownBy c r :=
  ⟨k.os.trans h.os, k.tape.trans h.tape, k.output.trans h.output, Nat.le_trans h.size k.size, fun i hi hne => (k.block i (Nat.lt_of_lt_of_le hi h.size) hne).trans (h.block i hi hne)⟩
theorem grown_below {w w' : World} (hb : Below w.heap.size w w') (r : Option Nat) : w.grownBy w' r := ⟨hb.os, hb.tape, hb.output, hb.size, fun k hk _ => hb.block k hk⟩
/-- a partitioned store: its map, its parts; all in blocks from B on -/
structure PB (w : World) (B g : Nat) (m : Mp) (l : List Pr) (q : Dv) : Prop where
  box : Box w g 141 #[.slice m.A m.cs.length m.ca, .slice m.O m.os.length m.co, q.s m.cs m.os l 0, q.s m.cs m.os l 1, q.s m.cs m.os l 2, q.s m.cs m.os l 3]
  mo : MO w B m
  own : q.Own w B m.cs m.os l 4
  okm : OkM m.cs m.os
  ok : Ok l
  low : B ≤ g
section
variable {w w' : World} {B B' g : Nat} {m n : Mp} {l l' : List Pr} {q q' : Dv}
theorem PB.below (h : PB w B g m l q) (hb : Below w.heap.size w w') : PB w' B g m l q := ⟨h.box.below hb, h.mo.below hb, h.own.below hb, h.okm, h.ok, h.low⟩
theorem PB.mono (h : PB w B g m l q) (hB : B' ≤ B) : PB w B' g m l q := ⟨h.box, h.mo.mono hB, h.own.mono hB, h.okm, h.ok, Nat.le_trans hB h.low⟩
/-- another one's box changes -/
theorem PB.kept {g' : Nat} {t : TypeId} (h : PB w B g m l q) (hne : g ≠ g') (ht : Ty w g' t) (h1 : 9 ≠ t) (h2 : 3 ≠ t) (h3 : 65 ≠ t) (hg : w.grownBy w' (some g')) : PB w' B g m l q :=
  ⟨h.box.kept hne hg, h.mo.kept ht h1 h2 hg, h.own.kept ht h3 hg, h.okm, h.ok, h.low⟩
theorem ty_ne {a b : Nat} {t u : TypeId} (h : Ty w a t) (k : Ty w b u) (hne : t ≠ u) : a ≠ b := fun e => by subst e; exact hne (h.inj k)
theorem PB.c0 (h : PB w B g m l q) : w.cell? ⟨g, 0, none⟩ = some (.slice m.A m.cs.length m.ca) := h.box.cell 0 rfl
theorem PB.c1 (h : PB w B g m l q) : w.cell? ⟨g, 1, none⟩ = some (.slice m.O m.os.length m.co) := h.box.cell 1 rfl
theorem PB.p (h : PB w B g m l q) {k : Nat} (hk : k < 4) : w.cell? ⟨g, 2 + k, none⟩ = some (q.s m.cs m.os l k) := by
  rcases lt4 hk with rfl | rfl | rfl | rfl
  · exact h.box.cell 2 rfl
  · exact h.box.cell 3 rfl
  · exact h.box.cell 4 rfl
  · exact h.box.cell 5 rfl
end
/-- a box's first cells are written, one by one -/
theorem grown_box {w : World} {g : Nat} (xs : List (Nat × Value)) : w.grownBy (xs.foldl (fun w x => w.setCell ⟨g, x.1, none⟩ x.2) w) (some g) := by
  induction xs generalizing w with
  | nil => exact grown_refl _ _
  | cons x r ih => exact grown_trans (grown_set w g x.1 x.2) ih
end Go.Proofs.YtmepmiokpcddbabGreatDoor

set_option linter.unusedVariables false
set_option linter.unusedSimpArgs false
namespace Go.Proofs.YtmepmiokpcddbabGreatDoor
open Go.RowKit

/-- only blocks of a set, and new ones, have changed -/
structure Fr (F : Nat → Prop) (w w' : World) : Prop where
  os : w'.os = w.os
  tape : w'.tape = w.tape
  output : w'.output = w.output
  size : w.heap.size ≤ w'.heap.size
  block : ∀ k, k < w.heap.size → ¬ F k → w'.heap[k]? = w.heap[k]?
section
variable {F F' : Nat → Prop} {w w1 w' a : World} {B : Nat}
theorem Fr.refl (F : Nat → Prop) (w : World) : Fr F w w := ⟨rfl, rfl, rfl, Nat.le_refl _, fun _ _ _ => rfl⟩
theorem Fr.of_below (h : Below w.heap.size w w') : Fr F w w' := ⟨h.os, h.tape, h.output, h.size, fun k hk _ => h.block k hk⟩
theorem Fr.of_grown {r : Option Nat} (h : w.grownBy w' r) (hr : ∀ k, r = some k → F k) : Fr F w w' := ⟨h.os, h.tape, h.output, h.size, fun k hk hF => h.block k hk fun e => hF (hr k e.symm)⟩
theorem Fr.of_set (g i : Nat) (v : Value) (hF : F g) : Fr F w (w.setCell ⟨g, i, none⟩ v) := Fr.of_grown (grown_set w g i v) fun k e => by injection e with e; subst e; exact hF
theorem Fr.trans (h : Fr F w w1) (h2 : Fr F' w1 w') (hF : ∀ k, F' k → F k ∨ w.heap.size ≤ k) : Fr F w w' :=
  ⟨h2.os.trans h.os, h2.tape.trans h.tape, h2.output.trans h.output, Nat.le_trans h.size h2.size, fun k hk hn => (h2.block k (Nat.lt_of_lt_of_le hk h.size) fun e => (hF k e).elim hn fun e2 => absurd hk (Nat.not_lt.2 e2)).trans (h.block k hk hn)⟩
theorem Fr.comp (h : Fr F w w1) (h2 : Fr F w1 w') : Fr F w w' := h.trans h2 fun _ e => .inl e
theorem Fr.below (h : Fr F w w') (hF : ∀ k, F k → B ≤ k) (hB : B ≤ w.heap.size) (hb : Below B a w) : Below B a w' :=
  ⟨h.os.trans hb.os, h.tape.trans hb.tape, h.output.trans hb.output, Nat.le_trans hb.size h.size, fun k hk => (h.block k (Nat.lt_of_lt_of_le hk hB) fun e => absurd hk (Nat.not_lt.2 (hF k e))).trans (hb.block k hk)⟩
theorem Fr.own {t : TypeId} {s : Nat} {v : Value} {n : Nat} {xs : List Value} (hf : Fr F w w') (h : w.ownsRow B t s v n xs) (hn : ∀ k, v.ownBlock = some k → ¬ F k) : w'.ownsRow B t s v n xs :=
  ⟨h.1, h.2.imp id fun ⟨g, cap, cur, h1, h2, h3, h4⟩ => ⟨g, cap, cur, h1, h2, (hf.block g (Array.getElem?_eq_some_iff.1 h3).1 (hn g (by rw [h1]; rfl))).trans h3, h4⟩⟩
/-- no block of the set is of a type -/
def Off (F : Nat → Prop) (w : World) (t : TypeId) : Prop := ∀ k, F k → k < w.heap.size → ∃ u, Ty w k u ∧ t ≠ u
theorem Fr.own_ty {t : TypeId} {s : Nat} {v : Value} {n : Nat} {xs : List Value} (hf : Fr F w w') (h : w.ownsRow B t s v n xs) (ho : Off F w t) : w'.ownsRow B t s v n xs :=
  hf.own h fun k hk hF => by
    obtain ⟨u, h1, h2⟩ := ho k hF (World.ownsRow.lt h k hk).2
    exact h2 ((Go.Proofs.YtmepmiokpcddbabGreatDoor.own_ty h hk).inj h1)
theorem Fr.box {g : Nat} {t : TypeId} {cs : Array Value} (hf : Fr F w w') (h : Box w g t cs) (hn : ¬ F g) : Box w' g t cs := h.keep (hf.block g h.lt hn)
theorem Fr.box_ty {g : Nat} {t : TypeId} {cs : Array Value} (hf : Fr F w w') (h : Box w g t cs) (ho : Off F w t) : Box w' g t cs := hf.box h fun hF => by
  obtain ⟨u, h1, h2⟩ := ho g hF h.lt
  exact h2 (h.ty.inj h1)
end
end Go.Proofs.YtmepmiokpcddbabGreatDoor

set_option linter.unusedVariables false
set_option linter.unusedSimpArgs false
namespace Go.Proofs.YtmepmiokpcddbabGreatDoor
open Go.RowKit

set_option maxHeartbeats 400000 in
set_option maxRecDepth 100000 in
theorem sgrow_any (n : Nat) (w : World) (hn : n ≤ 1000000) :
    Calls Tryz.prog 126 #[.slice none 0 0, .int .i64 n] w fun e w' => ∃ v, e = .returned v ∧ w'.ownsRow w.heap.size 9 1 v 0 [] ∧ Below w.heap.size w w' := by
  have h1 : ¬ ((n : Int) < 0) := by omega
  rcases Nat.eq_zero_or_pos n with h0 | h0
  · subst h0
    go_enter Tryz.func126, Tryz.ntmps126
    go_wp2
    go_ret
    exact ⟨_, rfl, World.ownsRow_nil w _ _ _, Below.refl _ _⟩
  · obtain ⟨i0, hi, hz0, hz1, hz2⟩ := info_parts strInfo
    have hrz : ∀ ty, (Builtin.append_ #[25, 3] ty #[.slice none 0 0, .int .i64 n]).run Tryz.prog w = _ := fun ty =>
      Lib.run_append_grow_zeros w 25 3 ty 9 i0 _ .i64 .i64 Tryz.underlying25 Tryz.underlying3 hi hz0 none 0 0 [] (run_firstCells_none w.drew i0.size 0 0 0) n h0 (by omega) (by omega) (by omega) (by rw [hz2]; omega)
        (growslice_fits (by omega) (by rw [hz2]; omega))
    have hGn : 0 + n ≤ grownCap w (0 + n) 0 9 := grownCap_ge w _ _ _
    have hGm := grownCap_le_maxLen w (0 + n) 0 9 (by unfold maxLen; omega)
    generalize grownCap w (0 + n) 0 9 = G at hrz hGn hGm
    obtain ⟨cur, hcur, hcs⟩ : ∃ cur : Array Value, ((([] : List Value).toArray ++ Builtin.zeroCells (Value.string ByteArray.empty).cells n ++ Builtin.zeroCells (Value.string ByteArray.empty).cells (G - (0 + n)))) = cur ∧ cur.size = G * 1 := by
      refine ⟨_, rfl, ?_⟩
      simp only [Array.size_append, size_zeroCells]
      simp [Value.cells]
      omega
    rw [hcur] at hrz
    have hrz' := fun ty => hideP (hrz ty)
    clear hrz hcur
    have hb : Below w.heap.size w (w.drew.alloc (.cells cur 9)) := (Below.refl _ w).drew.alloc (Nat.le_refl _) _
    have hG : G ≤ 9223372036854775807 := by unfold maxLen at hGm; omega
    go_enter Tryz.func126, Tryz.ntmps126
    go_wp2_with (at_builtin; refine Lib.wpList_append_run _ rfl _ _ _ _ rfl _ _ rfl rfl _ _ (hrz' _).out ?_)
    go_ret
    exact ⟨_, rfl, ⟨rfl, .inr ⟨w.heap.size, G, cur, rfl, Nat.le_refl _, heap_alloc_new w.drew _, Nat.zero_le _, hGm, hcs, rfl⟩⟩, hb⟩
/-- append of what another slice holds onto a row of the call's own -/
theorem app_srcS {P : Program} {st t : TypeId} {z : Value} {bytes : Nat} (hS : P.underlying st = some (.slice t)) (hI : (P.info? t).map (fun i => (i.zero, i.size, i.bytes)) = some (some z, 1, bytes)) (hz : z.cells.size = 1)
    (w : World) (base : Nat) (ty : TypeId) (A : Option Addr) (c : Nat) (xs : List Value) (hown : OR w base t A c xs) (A2 : Option Addr) (c2 : Nat) (news : List Value) (h2 : VS w A2 news) (h1 : ∀ u ∈ news, u.oneCell' = true)
    (h63 : (xs.length + news.length) * bytes ≤ 140737488355328) (hby : 1 ≤ bytes) (hbase : base ≤ w.heap.size) :
    ∃ A' c' w', (Builtin.append_ #[st, st] ty #[.slice A xs.length c, .slice A2 news.length c2]).run P w = .ok (.slice A' (xs ++ news).length c') w' ∧ OR w' base t A' c' (xs ++ news) ∧ w.grownBy w' (Value.slice A xs.length c).ownBlock := by
  obtain ⟨i0, hi, hz0, hz1, hz2⟩ := info_parts hI
  have hle : xs.length + news.length ≤ 140737488355328 := Nat.le_trans (Nat.le_mul_of_pos_right _ hby) h63
  have hm : xs.length + news.length ≤ maxLen := by unfold maxLen; omega
  cases A2 with
  | none =>
    have h0 : news = [] := by
      cases news with
      | nil => rfl
      | cons q r => obtain ⟨_, _, e, _⟩ := h2 0 q rfl; cases e
    subst h0
    refine ⟨A, c, w, ?_, by simpa using hown, ⟨rfl, rfl, rfl, Nat.le_refl _, fun _ _ _ => rfl⟩⟩
    rcases hown.2 with ⟨hv, h0⟩ | ⟨g, cap, cur, hv, _, _, hnc, _⟩
    · injection hv with a b d
      subst a; subst d
      simp [Builtin.append_, run_underlying hS, sizeOf, typeInfo, hi, Builtin.lenOf, Builtin.firstCells, h0]
    · injection hv with a b d
      subst a; subst d
      simp [Builtin.append_, run_underlying hS, sizeOf, typeInfo, hi, Builtin.lenOf, Builtin.firstCells, hnc, storeCells]
  | some ad =>
    have hc : ∀ j u, news[j]? = some u → w.cell? (ad.add j) = some u := by
      intro j u hu
      obtain ⟨b, o, e, _, hcc⟩ := h2 j u hu
      injection e with e
      subst e
      rw [Addr.add_lit]
      exact hcc
    obtain ⟨v', w', hrun, h3, h4, _, _⟩ := run_append_own_at (P := P) w base st ty t i0 _ 1 bytes hS hi hz0 hz1 hz2 hz (by decide) _ xs.length xs hown ad news.length c2 news (by simp) hc h1 hm h63 hbase
    rw [← List.length_append] at h3
    obtain ⟨A', c', rfl, ho⟩ := OR.of_own h3
    exact ⟨A', c', w', hrun, ho, h4⟩
/-- a slice of strings: where, its capacity, what it reads as -/
structure Sli where
  A : Option Addr
  c : Nat
  l : List ByteArray
def catS (ss : List Sli) : List ByteArray := ss.flatMap (·.l)
theorem catS_take (ss : List Sli) (k : Nat) (h : k < ss.length) : catS (ss.take (k + 1)) = catS (ss.take k) ++ (ss[k]).l := by
  unfold catS; rw [List.take_succ_eq_append_getElem h, List.flatMap_append]; simp
theorem catS_le (ss : List Sli) (k : Nat) : (catS (ss.take k)).length ≤ (catS ss).length := by
  have : catS ss = catS (ss.take k) ++ catS (ss.drop k) := by unfold catS; rw [← List.flatMap_append, List.take_append_drop]
  rw [this, List.length_append]; omega
structure SlsS (w : World) (g o : Nat) (ss : List Sli) : Prop where
  lt : g < w.heap.size
  cell : ∀ j s, ss[j]? = some s → w.cell? ⟨g, o + j, none⟩ = some (.slice s.A s.l.length s.c)
  vs : ∀ s ∈ ss, VS w s.A (s.l.map Value.string)
def SCInv (w : World) (ss : List Sli) (v i : Value) (wr : World) : Prop :=
  ∃ (k : Nat) (A : Option Addr) (c : Nat), k ≤ ss.length ∧ i = .int .i64 k ∧ v = .slice A (catS (ss.take k)).length c ∧ OR wr w.heap.size 9 A c ((catS (ss.take k)).map Value.string) ∧ Below w.heap.size w wr

set_option maxHeartbeats 400000 in
set_option maxRecDepth 100000 in
theorem sconcat_any (g o c : Nat) (ss : List Sli) (w : World) (hS : SlsS w g o ss) (hn : (catS ss).length ≤ 1000000) (hs : ss.length ≤ 1000) :
    Calls Tryz.prog 91 #[.slice (some ⟨g, o, none⟩) ss.length c] w fun e w' => ∃ A c, e = .returned (.slice A (catS ss).length c) ∧ OR w' w.heap.size 9 A c ((catS ss).map Value.string) ∧ Below w.heap.size w w' := by
  go_enter Tryz.func91, Tryz.ntmps91
  go_wp2_with fail
  go_loop [3, 11] (fun z i => ∃ k : Nat, k ≤ ss.length ∧ i = .int .i64 k ∧ z = .int .i64 ((catS (ss.take k)).length : Nat)) (fun _ i => ss.length - (intOf i).toNat)
  case atStart => exact ⟨0, Nat.zero_le _, rfl, rfl⟩
  case round =>
    obtain ⟨k, hk, rfl, rfl⟩ := hrel
    by_cases hlt : k < ss.length
    · have c1 := hS.cell k _ (List.getElem?_eq_getElem hlt)
      have h1 := catS_le ss (k + 1)
      have h2 := hideP (show (catS (ss.take (k + 1))).length = (catS (ss.take k)).length + (ss[k]).l.length by rw [catS_take ss k hlt, List.length_append])
      rw [catS_take ss k hlt, List.length_append] at h1
      generalize ss[k] = s at c1 h1 h2
      generalize (catS (ss.take k)).length = z at h1 h2 ⊢
      go_wp2_with fail
      go_round
      case rel => exact ⟨k + 1, by omega, by go_num, by rw [h2.out]; go_num⟩
      case measure => simp [intOf]; omega
    · have hz : (catS (ss.take k)).length = (catS ss).length := by rw [List.take_of_length_le (by omega)]
      rw [hz]
      clear hz
      go_wp2_with fail
      refine (sgrow_any _ _ (by omega)).mono ?_
      rintro e w0 ⟨v0, rfl, hown0, hb0⟩
      obtain ⟨A0, c0, rfl, hO0⟩ := OR.of_own hown0
      go_wp2_with fail
      go_loopw [6, 27] (SCInv w ss) (fun _ i _ => ss.length - (intOf i).toNat)
      case atStart => exact ⟨0, A0, c0, Nat.zero_le _, rfl, rfl, hO0, hb0⟩
      case round =>
        obtain ⟨k, Ak, ck, hk, rfl, rfl, hown, hb⟩ := hrel
        by_cases hlt : k < ss.length
        · have c1 := (hb.cell (p := ⟨g, o + k, none⟩) hS.lt).trans (hS.cell k _ (List.getElem?_eq_getElem hlt))
          have hvs := (hS.vs _ (List.getElem_mem hlt)).below hb
          have hle := catS_le ss (k + 1)
          rw [catS_take ss k hlt, List.length_append] at hle
          obtain ⟨A', c', w1, hrun, hown', hg'⟩ := app_srcS (P := Tryz.prog) Tryz.underlying25 strInfo rfl wr w.heap.size 25 Ak ck _ hown (ss[k]).A (ss[k]).c _ hvs (by intro u hu; obtain ⟨x, _, rfl⟩ := List.mem_map.1 hu; rfl) (by simp; omega) (by decide) hb.size
          have hb1 : Below w.heap.size w w1 := hb.grown hg' hb.size (fun j hj => (World.ownsRow.lt hown j hj).1)
          rw [← List.map_append, ← catS_take ss k hlt] at hrun hown'
          simp only [List.length_map] at hrun
          have HR := hideP hrun
          clear hrun hown hvs hS hg'
          generalize ss[k] = s at c1 HR hle
          go_wp2_with (at_builtin; refine Lib.wpList_append_run _ rfl _ _ _ _ rfl _ _ rfl rfl _ _ HR.out ?_)
          go_roundw
          case rel => exact ⟨k + 1, A', c', by omega, by go_num, rfl, hown', hb1⟩
          case measure => simp [intOf]; omega
        · rw [List.take_of_length_le (by omega)] at hown ⊢
          go_wp2_with fail
          go_ret
          exact ⟨Ak, ck, rfl, hown, hb⟩
theorem sconcat2 (w : World) (g : Nat) (hg : g = w.heap.size) (A1 A2 : Option Addr) (n1 n2 c1 c2 : Nat) (l1 l2 : List ByteArray) (e1 : n1 = l1.length) (e2 : n2 = l2.length)
    (p1 : VS w A1 (l1.map Value.string)) (p2 : VS w A2 (l2.map Value.string)) (hn : l1.length + l2.length ≤ 1000000) :
    Calls Tryz.prog 91 #[.slice (some ⟨g, 0, none⟩) 2 2] (w.alloc (.cells #[.slice A1 n1 c1, .slice A2 n2 c2] 25)) fun e w' => ∃ A c, e = .returned (.slice A (l1 ++ l2).length c) ∧ OR w' w.heap.size 9 A c ((l1 ++ l2).map Value.string) ∧ Below w.heap.size w w' := by
  subst hg e1 e2
  have hb := (Below.refl w.heap.size w).alloc (Nat.le_refl _) (.cells #[.slice A1 l1.length c1, .slice A2 l2.length c2] 25)
  have h := sconcat_any w.heap.size 0 2 [⟨A1, c1, l1⟩, ⟨A2, c2, l2⟩] (w.alloc (.cells #[.slice A1 l1.length c1, .slice A2 l2.length c2] 25))
    ⟨by simp, fun j s hj => by
      match j with
      | 0 => simp at hj; subst hj; simp
      | 1 => simp at hj; subst hj; simp
      | j + 2 => simp at hj, fun s hs => by
      simp at hs
      rcases hs with rfl | rfl
      · exact p1.below hb
      · exact p2.below hb⟩ (by simp [catS]; omega) (by simp)
  have e : catS [⟨A1, c1, l1⟩, ⟨A2, c2, l2⟩] = l1 ++ l2 := by simp [catS]
  rw [e] at h
  exact h.mono fun e w' ⟨A, c, h1, h2, h3⟩ => ⟨A, c, h1, h2.mono hb.size, hb.trans (h3.mono hb.size)⟩
end Go.Proofs.YtmepmiokpcddbabGreatDoor

set_option linter.unusedVariables false
set_option linter.unusedSimpArgs false
namespace Go.Proofs.YtmepmiokpcddbabGreatDoor
open Go.RowKit

set_option maxHeartbeats 1000000 in
set_option maxRecDepth 100000 in
theorem spoilS_any (B : Nat) (A : Option Addr) (c : Nat) (xs : List Value) (x : ByteArray) (w : World) (hA : OR w B 9 A c xs) :
    Calls Tryz.prog 46 #[.slice A xs.length c, .string x] w fun e w' => e = .returned (.tuple #[]) ∧ w.grownBy w' (blk A) := by
  rcases hA.2 with ⟨hv, h0⟩ | ⟨g, cap, cur, hv, hB, hbk, h1, h2, h3, h4⟩
  · injection hv with e1 e2 e3
    subst e1; subst e3
    rw [e2]
    go_enter Tryz.func46, Tryz.ntmps46
    go_wp2_with fail
    go_loopw [11] (fun i wr => i = .int .i64 0 ∧ w = wr) (fun _ _ => 0)
    case atStart => exact ⟨rfl, rfl⟩
    case round =>
      obtain ⟨rfl, rfl⟩ := hrel
      go_wp2_with fail
      go_end0
      exact ⟨rfl, ⟨rfl, rfl, rfl, Nat.le_refl _, fun _ _ _ => rfl⟩⟩
  · injection hv with e1 e2 e3
    subst e1; subst e3
    have hbx : Box w g 9 cur := hbk
    have gl : (xs.length : Int) ≤ (c : Int) := by omega
    have hc : c ≤ 9223372036854775807 := by unfold maxLen at h2; exact h2
    have hS : (∃ cur, Box w g 9 cur ∧ cur.size = c) ∧ w.grownBy w (some g) := ⟨⟨cur, hbx, by omega⟩, ⟨rfl, rfl, rfl, Nat.le_refl _, fun _ _ _ => rfl⟩⟩
    clear hA hbk h4 hbx h3
    go_enter Tryz.func46, Tryz.ntmps46
    go_wp2_with fail
    go_loopw [11] (fun i wr => ∃ k : Nat, k ≤ c ∧ i = .int .i64 k ∧ (∃ cur, Box wr g 9 cur ∧ cur.size = c) ∧ w.grownBy wr (some g)) (fun i _ => c - (intOf i).toNat)
    case atStart => exact ⟨0, Nat.zero_le _, rfl, hS⟩
    case round =>
      clear hS
      obtain ⟨k, hk, rfl, ⟨cr, hcr, hsz⟩, hgr⟩ := hrel
      by_cases hkc : k < c
      · have g1 : (0 : Int) ≤ (k : Int) := by omega
        have g2 : (k : Int) < (c : Int) := by omega
        have hi0 : k < cr.size := by omega
        have d0 := hcr.cell k (v := cr[k]) (by simp [hi0])
        have f0 := hcr.frozen k
        have o1 := hcr.set k (.string x)
        have ga := grown_set wr g k (.string x)
        have HN := hideP (show (∃ cur, Box (wr.setCell ⟨g, k, none⟩ (.string x)) g 9 cur ∧ cur.size = c) ∧ w.grownBy (wr.setCell ⟨g, k, none⟩ (.string x)) (some g) from ⟨⟨_, o1, by simp [hsz]⟩, ⟨ga.os.trans hgr.os, ga.tape.trans hgr.tape, ga.output.trans hgr.output, Nat.le_trans hgr.size ga.size, fun i hi hne => (ga.block i (Nat.lt_of_lt_of_le hi hgr.size) hne).trans (hgr.block i hi hne)⟩⟩)
        clear o1 hcr hgr hsz ga
        go_wp2_with fail
        go_roundw
        case rel => exact ⟨k + 1, by omega, by go_num, HN.out⟩
        case measure => simp [intOf]; omega
      · go_wp2_with fail
        go_end0
        exact ⟨rfl, hgr⟩
end Go.Proofs.YtmepmiokpcddbabGreatDoor
