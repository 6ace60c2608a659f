/-
  Lists of pairs in memory: their cells, rows of the call's own, append (no body of the program in it).
  A partitioned store in memory (no body of the program in it).
  store.Check: what it answers.
  store.find: what it answers.
-/
import Derived.Test.YtefdipjhjgmokaaGreatBv1
import Derived.Test.YtefdipjhjgmokaaGreatProg
import Derived.Maps.AppendAt
import Derived.Deep.AppendLies
import Derived.Lib.AppendZerosOnto
import Derived.OwnWalk
import Derived.Test.YtefdipjhjgmokaaGreatBv2
import Derived.Test.YtefdipjhjgmokaaGreatBv9
import Derived.Test.YtefdipjhjgmokaaGreatBv10
import Derived.Test.YtefdipjhjgmokaaGreatBv6
set_option linter.unusedVariables false
set_option linter.unusedSimpArgs false
namespace Go.Proofs.YtefdipjhjgmokaaGreat
open Go.RowKit

/-- the cells of a list of pairs -/
def cellsOf : List Pr → List Value
  | [] => []
  | p :: r => .string p.1 :: .int .i64 p.2 :: cellsOf r
theorem cellsOf_length (l : List Pr) : (cellsOf l).length = l.length * 2 := by
  induction l with
  | nil => rfl
  | cons p r ih => simp [cellsOf, ih]; omega
theorem cellsOf_append (l m : List Pr) : cellsOf (l ++ m) = cellsOf l ++ cellsOf m := by
  induction l with
  | nil => rfl
  | cons p r ih => simp [cellsOf, ih]
theorem cellsOf_get (l : List Pr) (i : Nat) (p : Pr) (h : l[i]? = some p) : (cellsOf l)[i * 2]? = some (.string p.1) ∧ (cellsOf l)[i * 2 + 1]? = some (.int .i64 p.2) := by
  induction l generalizing i with
  | nil => simp at h
  | cons q r ih =>
    cases i with
    | zero => simp at h; subst h; simp [cellsOf]
    | succ i => simp at h; have := ih i h; rw [show (i + 1) * 2 = i * 2 + 1 + 1 by omega]; simpa [cellsOf] using this
theorem cellsOf_at (l : List Pr) (j : Nat) (u : Value) (h : (cellsOf l)[j]? = some u) : ∃ i p, l[i]? = some p ∧ (j = i * 2 ∧ u = .string p.1 ∨ j = i * 2 + 1 ∧ u = .int .i64 p.2) := by
  induction l generalizing j with
  | nil => simp [cellsOf] at h
  | cons q r ih =>
    match j with
    | 0 => simp [cellsOf] at h; exact ⟨0, q, rfl, .inl ⟨rfl, h.symm⟩⟩
    | 1 => simp [cellsOf] at h; exact ⟨0, q, rfl, .inr ⟨rfl, h.symm⟩⟩
    | j + 2 =>
      simp [cellsOf] at h
      obtain ⟨i, p, hp, hh⟩ := ih j h
      refine ⟨i + 1, p, by simpa using hp, ?_⟩
      rcases hh with ⟨e, hu⟩ | ⟨e, hu⟩
      · exact .inl ⟨by omega, hu⟩
      · exact .inr ⟨by omega, hu⟩
theorem cellsOf_one (l : List Pr) : ∀ u ∈ cellsOf l, u.oneCell' = true := by
  intro u hu
  obtain ⟨j, hj⟩ := List.mem_iff_getElem?.1 hu
  obtain ⟨i, p, _, h⟩ := cellsOf_at l j u hj
  rcases h with ⟨_, rfl⟩ | ⟨_, rfl⟩ <;> rfl

section
variable {w w' : World} {B : Nat} {A : Option Addr} {l : List Pr}
theorem PS.cells (h : PS w B A l) (hl : l ≠ []) : ∃ b o, A = some ⟨b, o, none⟩ ∧ b < B ∧ ∀ j u, (cellsOf l)[j]? = some u → w.cell? ((⟨b, o, none⟩ : Addr).add j) = some u := by
  cases l with
  | nil => exact absurd rfl hl
  | cons q r =>
    obtain ⟨b, o, e, hlt, _, _⟩ := h 0 q rfl
    refine ⟨b, o, e, hlt, fun j u hj => ?_⟩
    obtain ⟨i, p, hp, hh⟩ := cellsOf_at _ j u hj
    obtain ⟨b', o', e', _, h1, h2⟩ := h i p hp
    rw [e] at e'
    injection e' with e'
    injection e' with eb eo _
    subst eb; subst eo
    rcases hh with ⟨rfl, rfl⟩ | ⟨rfl, rfl⟩
    · rw [Addr.add_lit]; exact h1
    · rw [Addr.add_lit, ← Nat.add_assoc]; exact h2
theorem PS.of_own {base : Nat} {e : TypeId} {v : Value} (h : w.ownsRow base e 2 v l.length (cellsOf l)) : ∃ A c, v = .slice A l.length c ∧ PS w w.heap.size A l := by
  rcases Nat.eq_zero_or_pos l.length with h0 | h0
  · have : l = [] := List.length_eq_zero_iff.1 h0
    subst this
    rcases h.2 with ⟨rfl, _⟩ | ⟨g, cap, cur, rfl, _⟩
    · exact ⟨_, _, rfl, PS.nil⟩
    · exact ⟨_, _, rfl, PS.nil⟩
  · obtain ⟨g, cap, rfl, _, hlt⟩ := h.form h0
    refine ⟨_, _, rfl, fun i p hp => ⟨g, 0, rfl, hlt, ?_⟩⟩
    have hc := h.cells (g := g) rfl
    have hg := cellsOf_get l i p hp
    have h1 := hc _ _ hg.1
    have h2 := hc _ _ hg.2
    rw [Addr.add_lit] at h1 h2
    exact ⟨h1, by rw [Nat.add_assoc]; exact h2⟩
end

/-- a slice of pairs as a value -/
structure SV (w : World) (A : Option Addr) (c : Nat) (l : List Pr) : Prop where
  ps : PS w w.heap.size A l
  le : l.length ≤ c
  cap : c ≤ maxLen
  none_ : A = none → c = 0
  lit : 0 < c → ∀ a, A = some a → ∃ b o, a = ⟨b, o, none⟩
theorem SV.of_own {w : World} {base : Nat} {e : TypeId} {v : Value} {l : List Pr} (h : w.ownsRow base e 2 v l.length (cellsOf l)) : ∃ A c, v = .slice A l.length c ∧ SV w A c l := by
  obtain ⟨A, c, hv, hp⟩ := PS.of_own h
  refine ⟨A, c, hv, hp, ?_, ?_, ?_, ?_⟩
  all_goals
    rcases h.2 with ⟨h1, h0⟩ | ⟨g, cap, cur, h1, _, _, h4, h5, _⟩
    · rw [hv] at h1; injection h1 with a b c; subst a; subst c; simp_all
    · rw [hv] at h1; injection h1 with a b c; subst a; subst c; simp_all
theorem SV.below {w w' : World} {A : Option Addr} {c : Nat} {l : List Pr} (h : SV w A c l) (hb : Below w.heap.size w w') : SV w' A c l :=
  ⟨(h.ps.below hb).more hb.size, h.le, h.cap, h.none_, h.lit⟩
theorem SV.none_nil {w : World} {c : Nat} {l : List Pr} (h : SV w none c l) : l = [] ∧ c = 0 := by
  have := h.none_ rfl
  have := h.le
  exact ⟨List.length_eq_zero_iff.1 (by omega), by assumption⟩
theorem SV.nil (w : World) : SV w none 0 [] := ⟨PS.nil, by simp, by simp, fun _ => rfl, fun _ a h => by cases h⟩
theorem pairInfo : (Tryz.prog.info? 53).map (fun i => (i.zero, i.size, i.bytes)) = some (some (.agg #[.string ByteArray.empty, .int .i64 0]), 2, 24) := by kernel_rfl

set_option maxRecDepth 100000 in
/-- append onto a row of the call's own, whatever the source -/
theorem app_pairs (w : World) (base : Nat) (ty : TypeId) (v : Value) (xs : List Pr) (hown : w.ownsRow base 53 2 v xs.length (cellsOf xs)) (B : Nat) (A : Option Addr) (c : Nat) (l : List Pr)
    (hA : PS w B A l) (h63 : (xs.length + l.length) * 24 ≤ 140737488355328) (hbase : base ≤ w.heap.size) :
    ∃ v' w', (Builtin.append_ #[41, 41] ty #[v, .slice A l.length c]).run Tryz.prog w = .ok v' w' ∧ w'.ownsRow base 53 2 v' (xs ++ l).length (cellsOf (xs ++ l)) ∧ w.grownBy w' v.ownBlock ∧
      (v'.ownBlock = v.ownBlock ∨ v'.ownBlock = some w.heap.size) := by
  obtain ⟨i0, hi, hz0, hz1, hz2⟩ := info_parts pairInfo
  have hm : xs.length + l.length ≤ maxLen := by unfold maxLen; omega
  rw [List.length_append, cellsOf_append]
  cases A with
  | none =>
    have h0 : l = [] := by
      cases l with
      | nil => rfl
      | cons q r => obtain ⟨_, _, e, _⟩ := hA 0 q rfl; cases e
    subst h0
    refine ⟨v, w, ?_, by simpa [cellsOf] using hown, ⟨rfl, rfl, rfl, Nat.le_refl _, fun _ _ _ => rfl⟩, .inl rfl⟩
    rcases hown.2 with ⟨rfl, h0⟩ | ⟨g, cap, cur, rfl, _, _, hnc, _⟩
    · simp [Builtin.append_, run_underlying Tryz.underlying41, sizeOf, typeInfo, hi, Builtin.lenOf, Builtin.firstCells]
    · simp [Builtin.append_, run_underlying Tryz.underlying41, sizeOf, typeInfo, hi, Builtin.lenOf, Builtin.firstCells, hnc, storeCells]
  | some ad =>
    have hc : ∀ j u, (cellsOf l)[j]? = some u → w.cell? (ad.add j) = some u := by
      intro j u hu
      have hl : l ≠ [] := by rintro rfl; simp [cellsOf] at hu
      obtain ⟨b, o, e, _, hcc⟩ := hA.cells hl
      injection e with e
      subst e
      exact hcc j u hu
    obtain ⟨v', w', hrun, h2, h3, _, h5⟩ := run_append_own_at (P := Tryz.prog) w base 41 ty 53 i0 _ 2 24 Tryz.underlying41 hi hz0 hz1 hz2 rfl (by decide) v xs.length (cellsOf xs) hown ad l.length c (cellsOf l)
      (cellsOf_length l) hc (cellsOf_one l) hm h63 hbase
    exact ⟨v', w', hrun, h2, h3, h5⟩

/-- a slice of pairs that the call itself has made: its row lies from block B on -/
def OV (w : World) (B : Nat) (A : Option Addr) (c : Nat) (l : List Pr) : Prop := w.ownsRow B 53 2 (.slice A l.length c) l.length (cellsOf l)
theorem OV.mono {w : World} {B B' : Nat} {A : Option Addr} {c : Nat} {l : List Pr} (h : OV w B A c l) (hB : B' ≤ B) : OV w B' A c l :=
  ⟨h.1, h.2.imp id fun ⟨g, cap, cur, h1, h2, h3⟩ => ⟨g, cap, cur, h1, Nat.le_trans hB h2, h3⟩⟩
theorem OV.below {w w' : World} {B : Nat} {A : Option Addr} {c : Nat} {l : List Pr} (h : OV w B A c l) (hb : Below w.heap.size w w') : OV w' B A c l :=
  ⟨h.1, h.2.imp id fun ⟨g, cap, cur, h1, h2, h3, h4⟩ => ⟨g, cap, cur, h1, h2, (hb.block g (Array.getElem?_eq_some_iff.1 h3).1).trans h3, h4⟩⟩
theorem OV.sv {w : World} {B : Nat} {A : Option Addr} {c : Nat} {l : List Pr} (h : OV w B A c l) : SV w A c l := by
  obtain ⟨A', c', hv, hs⟩ := SV.of_own h
  injection hv with a b d
  subst a; subst d
  exact hs
theorem OV.of_own {w : World} {B : Nat} {v : Value} {l : List Pr} (h : w.ownsRow B 53 2 v l.length (cellsOf l)) : ∃ A c, v = .slice A l.length c ∧ OV w B A c l := by
  obtain ⟨A, c, hv, hs⟩ := SV.of_own h
  subst hv
  exact ⟨A, c, rfl, h⟩
end Go.Proofs.YtefdipjhjgmokaaGreat

set_option linter.unusedVariables false
set_option linter.unusedSimpArgs false
namespace Go.Proofs.YtefdipjhjgmokaaGreat
open Go.RowKit

/-- four slices of pairs: where they lie, and their capacities -/
structure Dv where
  A : Nat → Option Addr
  c : Nat → Nat
/-- the slice of an owner -/
def Dv.s (q : Dv) (cs : List ByteArray) (os : List Int) (l : List Pr) (k : Nat) : Value := .slice (q.A k) (ptL cs os (k : Int) l).length (q.c k)
def Dv.ar (q : Dv) (cs : List ByteArray) (os : List Int) (l : List Pr) : Array Value := #[q.s cs os l 0, q.s cs os l 1, q.s cs os l 2, q.s cs os l 3]
/-- while they are made: those of the first owners -/
def Dv.u (q : Dv) (cs : List ByteArray) (os : List Int) (l : List Pr) (k j : Nat) : Value := if j < k then q.s cs os l j else .slice none 0 0
def Dv.up (q : Dv) (cs : List ByteArray) (os : List Int) (l : List Pr) (k : Nat) : Array Value := #[q.u cs os l k 0, q.u cs os l k 1, q.u cs os l k 2, q.u cs os l k 3]
def Dv.put (q : Dv) (k : Nat) (A : Option Addr) (c : Nat) : Dv := ⟨fun j => if j = k then A else q.A j, fun j => if j = k then c else q.c j⟩
def noD : Dv := ⟨fun _ => none, fun _ => 0⟩
section
variable {q : Dv} {cs : List ByteArray} {os : List Int} {l : List Pr} {k : Nat}
theorem Dv.up_zero (q : Dv) (cs : List ByteArray) (os : List Int) (l : List Pr) : q.up cs os l 0 = #[.slice none 0 0, .slice none 0 0, .slice none 0 0, .slice none 0 0] := rfl
theorem Dv.up_four (q : Dv) (cs : List ByteArray) (os : List Int) (l : List Pr) : q.up cs os l 4 = q.ar cs os l := rfl
theorem lt4 {k : Nat} (h : k < 4) : k = 0 ∨ k = 1 ∨ k = 2 ∨ k = 3 := by omega
theorem Dv.up_put (hk : k < 4) (A : Option Addr) (c : Nat) : (q.up cs os l k).setIfInBounds k (.slice A (ptL cs os (k : Int) l).length c) = (q.put k A c).up cs os l (k + 1) := by
  rcases lt4 hk with rfl | rfl | rfl | rfl <;> simp [Dv.up, Dv.u, Dv.put, Dv.s]
theorem Dv.up_at (hk : k < 4) {j : Nat} (hj : j < 4) : (q.up cs os l k)[j]? = some (q.u cs os l k j) := by
  rcases lt4 hj with rfl | rfl | rfl | rfl <;> rfl
theorem Dv.ar_at {j : Nat} (hj : j < 4) : (q.ar cs os l)[j]? = some (q.s cs os l j) := by
  rcases lt4 hj with rfl | rfl | rfl | rfl <;> rfl
end
/-- the slices of the first owners are a call's own -/
def Dv.Own (q : Dv) (w : World) (B : Nat) (cs : List ByteArray) (os : List Int) (l : List Pr) (k : Nat) : Prop := ∀ j, j < k → OV w B (q.A j) (q.c j) (ptL cs os (j : Int) l)
section
variable {q : Dv} {w w' : World} {B B' k : Nat} {cs : List ByteArray} {os : List Int} {l : List Pr}
theorem Dv.Own.below (h : q.Own w B cs os l k) (hb : Below w.heap.size w w') : q.Own w' B cs os l k := fun j hj => (h j hj).below hb
theorem Dv.Own.mono (h : q.Own w B cs os l k) (hB : B' ≤ B) : q.Own w B' cs os l k := fun j hj => (h j hj).mono hB
theorem Dv.Own.put (h : q.Own w B cs os l k) {A : Option Addr} {c : Nat} (hA : OV w B A c (ptL cs os (k : Int) l)) : (q.put k A c).Own w B cs os l (k + 1) := fun j hj => by
  by_cases e : j = k
  · subst e; simpa [Dv.put] using hA
  · simpa [Dv.put, e] using h j (by omega)
theorem OV.kept_ {A : Option Addr} {c g : Nat} {t : TypeId} (h : OV w B A c l) (ht : Ty w g t) (hne : 53 ≠ t) (hg : w.grownBy w' (some g)) : OV w' B A c l := World.ownsRow.kept h hg (own_ne h ht hne)
theorem Dv.Own.kept {g : Nat} {t : TypeId} (h : q.Own w B cs os l k) (ht : Ty w g t) (hne : 53 ≠ t) (hg : w.grownBy w' (some g)) : q.Own w' B cs os l k := fun j hj => (h j hj).kept_ ht hne hg
theorem OR.kept_ {A : Option Addr} {c g : Nat} {t u : TypeId} {xs : List Value} (h : OR w B u A c xs) (ht : Ty w g t) (hne : u ≠ t) (hg : w.grownBy w' (some g)) : OR w' B u A c xs := World.ownsRow.kept h hg (own_ne h ht hne)
theorem MO.kept {m : Mp} {g : Nat} {t : TypeId} (h : MO w B m) (ht : Ty w g t) (h1 : 9 ≠ t) (h2 : 3 ≠ t) (hg : w.grownBy w' (some g)) : MO w' B m := ⟨h.cuts.kept_ ht h1 hg, h.own.kept_ ht h2 hg⟩
theorem Below.kept {w0 : World} {g : Nat} (h : Below w0.heap.size w0 w) (hl : w0.heap.size ≤ g) (hg : w.grownBy w' (some g)) : Below w0.heap.size w0 w' := h.grown hg h.size (fun b hb => by injection hb with hb; subst hb; exact hl)
theorem Box.kept {g g' : Nat} {t : TypeId} {xs : Array Value} (h : Box w g t xs) (hne : g ≠ g') (hg : w.grownBy w' (some g')) : Box w' g t xs := h.grown hg (fun e => hne (by injection e))
end
theorem grown_refl (w : World) (r : Option Nat) : w.grownBy w r := ⟨rfl, rfl, rfl, Nat.le_refl _, fun _ _ _ => rfl⟩
theorem grown_trans {a b c : World} {r : Option Nat} (h : a.grownBy b r) (k : b.grownBy c r) : a.grownBy c r :=
  ⟨k.os.trans h.os, k.tape.trans h.tape, k.output.trans h.output, Nat.le_trans h.size k.size, fun i hi hne => (k.block i (Nat.lt_of_lt_of_le hi h.size) hne).trans (h.block i hi hne)⟩
theorem grown_below {w w' : World} (hb : Below w.heap.size w w') (r : Option Nat) : w.grownBy w' r := ⟨hb.os, hb.tape, hb.output, hb.size, fun k hk _ => hb.block k hk⟩
/-- a partitioned store: its map, its parts; all in blocks from B on -/
structure PB (w : World) (B g : Nat) (m : Mp) (l : List Pr) (q : Dv) : Prop where
  box : Box w g 120 #[.slice m.A m.cs.length m.ca, .slice m.O m.os.length m.co, q.s m.cs m.os l 0, q.s m.cs m.os l 1, q.s m.cs m.os l 2, q.s m.cs m.os l 3]
  mo : MO w B m
  own : q.Own w B m.cs m.os l 4
  okm : OkM m.cs m.os
  ok : Ok l
  low : B ≤ g
section
variable {w w' : World} {B B' g : Nat} {m n : Mp} {l l' : List Pr} {q q' : Dv}
theorem PB.below (h : PB w B g m l q) (hb : Below w.heap.size w w') : PB w' B g m l q := ⟨h.box.below hb, h.mo.below hb, h.own.below hb, h.okm, h.ok, h.low⟩
theorem PB.mono (h : PB w B g m l q) (hB : B' ≤ B) : PB w B' g m l q := ⟨h.box, h.mo.mono hB, h.own.mono hB, h.okm, h.ok, Nat.le_trans hB h.low⟩
/-- another one's box changes -/
theorem PB.kept {g' : Nat} {t : TypeId} (h : PB w B g m l q) (hne : g ≠ g') (ht : Ty w g' t) (h1 : 9 ≠ t) (h2 : 3 ≠ t) (h3 : 53 ≠ t) (hg : w.grownBy w' (some g')) : PB w' B g m l q :=
  ⟨h.box.kept hne hg, h.mo.kept ht h1 h2 hg, h.own.kept ht h3 hg, h.okm, h.ok, h.low⟩
theorem ty_ne {a b : Nat} {t u : TypeId} (h : Ty w a t) (k : Ty w b u) (hne : t ≠ u) : a ≠ b := fun e => by subst e; exact hne (h.inj k)
theorem PB.c0 (h : PB w B g m l q) : w.cell? ⟨g, 0, none⟩ = some (.slice m.A m.cs.length m.ca) := h.box.cell 0 rfl
theorem PB.c1 (h : PB w B g m l q) : w.cell? ⟨g, 1, none⟩ = some (.slice m.O m.os.length m.co) := h.box.cell 1 rfl
theorem PB.p (h : PB w B g m l q) {k : Nat} (hk : k < 4) : w.cell? ⟨g, 2 + k, none⟩ = some (q.s m.cs m.os l k) := by
  rcases lt4 hk with rfl | rfl | rfl | rfl
  · exact h.box.cell 2 rfl
  · exact h.box.cell 3 rfl
  · exact h.box.cell 4 rfl
  · exact h.box.cell 5 rfl
end
/-- a box's first cells are written, one by one -/
theorem grown_box {w : World} {g : Nat} (xs : List (Nat × Value)) : w.grownBy (xs.foldl (fun w x => w.setCell ⟨g, x.1, none⟩ x.2) w) (some g) := by
  induction xs generalizing w with
  | nil => exact grown_refl _ _
  | cons x r ih => exact grown_trans (grown_set w g x.1 x.2) ih
end Go.Proofs.YtefdipjhjgmokaaGreat

set_option linter.unusedVariables false
set_option linter.unusedSimpArgs false
namespace Go.Proofs.YtefdipjhjgmokaaGreat
open Go.RowKit

set_option maxHeartbeats 400000 in
theorem check_any (A : Option Addr) (c : Nat) (l : List Pr) (w : World) (hA : PS w w.heap.size A l) (hl : l.length < 4611686018427387904) :
    Calls Tryz.prog 25 #[.slice A l.length c] w fun e w' => e = .returned (.int .i64 (chk ByteArray.empty l)) ∧ Below w.heap.size w w' := by
  go_enter Tryz.func25, Tryz.ntmps25
  go_wp2
  go_loopw [3, 8] (fun s i wr => ∃ (k : Nat) (bf : ByteArray), k ≤ l.length ∧ i = .int .i64 k ∧ s = .string bf ∧ chk ByteArray.empty l = chk bf (l.drop k) ∧ Below w.heap.size w wr) (fun _ i _ => l.length - (intOf i).toNat)
  case atStart => exact ⟨0, ByteArray.empty, Nat.zero_le _, rfl, rfl, rfl, Below.refl _ _⟩
  case round =>
    obtain ⟨k, bf, hk, rfl, rfl, hchk, hb⟩ := hrel
    have HC := hideP hchk
    clear hchk
    by_cases hlt : k < l.length
    · obtain ⟨b, o, rfl, hbl, c1, c2⟩ := hA.below hb k _ (List.getElem?_eq_getElem hlt)
      clear hA
      generalize hp : l[k] = p at c1 c2
      have HP := hideP hp
      clear hp
      have hsz := hb.size
      have HB := (hb.alloc hb.size (.cells #[.string p.1, .int .i64 p.2] 53))
      cases hkb : keyB p.1
      · go_wp2_with fail
        refine (key_any _ _).mono ?_
        rintro e w' ⟨rfl, rfl⟩
        go_wp2_with fail
        go_ret
        exact ⟨ret_int (by rw [HC.out, chk_key hlt HP.out hkb]), HB⟩
      · cases hvb : valB p.2
        · go_wp2_with fail
          refine (key_any _ _).mono ?_
          rintro e w' ⟨rfl, rfl⟩
          go_wp2_with fail
          refine (value_any _ _).mono ?_
          rintro e w' ⟨rfl, rfl⟩
          go_wp2_with fail
          go_ret
          exact ⟨ret_int (by rw [HC.out, chk_val hlt HP.out hkb hvb]), HB⟩
        · by_cases h0 : p.2 = 0
          · have d0 : (p.2 == 0) = true := by simp [h0]
            have H0 := hideP h0
            clear h0
            go_wp2_with fail
            refine (key_any _ _).mono ?_
            rintro e w' ⟨rfl, rfl⟩
            go_wp2_with fail
            refine (value_any _ _).mono ?_
            rintro e w' ⟨rfl, rfl⟩
            go_wp2_with fail
            go_ret
            exact ⟨ret_int (by rw [HC.out, chk_zero hlt HP.out hkb hvb H0.out]), HB⟩
          · have d0 : (p.2 == 0) = false := by simp [h0]
            have H0 := hideP h0
            clear h0
            cases hle : leB p.1 bf
            · have HL := hideP hle
              have d1 : Op.bytesLess p.1.toList bf.toList = false := by simp [leB] at hle; exact hle.1
              have d2 : (p.1.toList == bf.toList) = false := by simp [leB] at hle; simpa using hle.2
              clear hle
              go_wp2_with fail
              refine (key_any _ _).mono ?_
              rintro e w' ⟨rfl, rfl⟩
              go_wp2_with fail
              refine (value_any _ _).mono ?_
              rintro e w' ⟨rfl, rfl⟩
              go_wp2_with fail
              go_roundw
              case rel => exact ⟨k + 1, p.1, by omega, by go_num, rfl, by rw [HC.out, chk_next hlt HP.out hkb hvb H0.out HL.out], HB⟩
              case measure => simp [intOf]; omega
            · have HL := hideP hle
              have d1 : (Op.bytesLess p.1.toList bf.toList || p.1.toList == bf.toList) = true := by simpa [leB] using hle
              clear hle
              go_wp2_with fail
              refine (key_any _ _).mono ?_
              rintro e w' ⟨rfl, rfl⟩
              go_wp2_with fail
              refine (value_any _ _).mono ?_
              rintro e w' ⟨rfl, rfl⟩
              go_wp2_with fail
              go_ret
              exact ⟨ret_int (by rw [HC.out, chk_ord hlt HP.out hkb hvb H0.out HL.out]), HB⟩
    · go_wp2
      go_ret
      exact ⟨ret_int (by rw [HC.out, List.drop_of_length_le (by omega)]; rfl), hb⟩
end Go.Proofs.YtefdipjhjgmokaaGreat

set_option linter.unusedVariables false
set_option linter.unusedSimpArgs false
namespace Go.Proofs.YtefdipjhjgmokaaGreat
open Go.RowKit

set_option maxHeartbeats 400000 in
set_option maxRecDepth 100000 in
theorem compareString_any (a b : ByteArray) (w : World) :
    Calls Tryz.prog 100 #[.string a, .string b] w fun e w' => e = .returned (.int .i64 (cmpB a b)) ∧ w = w' := by
  go_enter Tryz.func100, Tryz.ntmps100
  go_wp2
  rw [run_callFunc_extern Tryz.func135 (by kernel_rfl) (by kernel_rfl) (by kernel_rfl) (e := Extern.BytealgCompare.compare) (by kernel_rfl), Lib.run_compareString]
  simp only [Result.andThen]
  rw [Oper.upon_value]
  go_wp2
  go_ret
  exact ⟨rfl, rfl⟩

set_option maxHeartbeats 400000 in
theorem compare_any (a b : ByteArray) (w : World) :
    Calls Tryz.prog 70 #[.string a, .string b] w fun e w' => e = .returned (.int .i64 (cmpB a b)) ∧ w = w' := by
  go_enter Tryz.func70, Tryz.ntmps70
  go_wp2_with fail
  refine (compareString_any _ _ _).mono ?_
  rintro e w' ⟨rfl, rfl⟩
  go_wp2_with fail
  go_ret
  exact ⟨rfl, rfl⟩

set_option maxHeartbeats 400000 in
theorem find1_any (a b : ByteArray) (n : Int) (w : World) :
    Calls Tryz.prog 69 #[.agg #[.string a, .int .i64 n], .string b] w fun e w' => e = .returned (.int .i64 (cmpB a b)) ∧ w.alloc (.cells #[.string a, .int .i64 n] 53) = w' := by
  go_enter Tryz.func69, Tryz.ntmps69
  go_wp2_with fail
  refine (compare_any _ _ _).mono ?_
  rintro e w' ⟨rfl, rfl⟩
  go_wp2_with fail
  go_ret
  exact ⟨rfl, rfl⟩

set_option maxHeartbeats 400000 in
set_option maxRecDepth 100000 in
theorem search_any (A : Option Addr) (c : Nat) (l : List Pr) (key : ByteArray) (q : Nat) (w : World) (hA : PS w w.heap.size A l) (hl : l.length < 4611686018427387904) (hq : At l key q) :
    Calls Tryz.prog 68 #[.slice A l.length c, .string key, .func (.func 69) #[] #[]] w fun e w' =>
      e = .returned (.tuple #[.int .i64 q, .bool (fnd l key q)]) ∧ Below w.heap.size w w' := by
  go_enter Tryz.func68, Tryz.ntmps68
  go_wp2
  go_loopw [9, 10] (fun i j wr => ∃ (a b : Nat), a ≤ q ∧ q ≤ b ∧ b ≤ l.length ∧ i = .int .i64 a ∧ j = .int .i64 b ∧ Below w.heap.size w wr) (fun i j _ => (intOf j - intOf i).toNat)
  case atStart => exact ⟨0, l.length, Nat.zero_le _, hq.le, Nat.le_refl _, rfl, rfl, Below.refl _ _⟩
  case round =>
    obtain ⟨a, b, h1, h2, h3, rfl, rfl, hb⟩ := hrel
    by_cases hlt : a < b
    · have hm : (a + b) / 2 < l.length := by omega
      obtain ⟨bl, o, rfl, hbl, c1, c2⟩ := hA.below hb ((a + b) / 2) _ (List.getElem?_eq_getElem hm)
      have HL := hideP (hq.lo ((a + b) / 2) hm)
      have HH := hideP (hq.hi ((a + b) / 2) hm)
      clear hA hq
      generalize l[(a + b) / 2] = p at c1 c2 HL HH
      have HB := (hb.alloc hb.size (.cells #[.string p.1, .int .i64 p.2] 53))
      have g1 : (0 : Int) ≤ ((a : Int) + (b : Int)) / 2 := by omega
      have g2 : ((a : Int) + (b : Int)) / 2 < (l.length : Int) := by omega
      cases hc : ltB p.1 key
      · have d : decide (cmpB p.1 key < 0) = false := by rw [decide_eq_false_iff_not, cmpB_neg, hc]; simp
        have hqm : q ≤ (a + b) / 2 := by
          rcases Nat.lt_or_ge ((a + b) / 2) q with h | h
          · rw [HL.out h] at hc; cases hc
          · exact h
        clear hc
        go_wp2_with fail
        refine (find1_any _ _ _ _).mono ?_
        rintro e w' ⟨rfl, rfl⟩
        go_wp2_with fail
        go_roundw
        case rel => exact ⟨a, (a + b) / 2, h1, hqm, by omega, rfl, by go_num, HB⟩
        case measure => simp [intOf]; omega
      · have d : decide (cmpB p.1 key < 0) = true := by rw [decide_eq_true_iff, cmpB_neg, hc]
        have hqm : (a + b) / 2 < q := by
          rcases Nat.lt_or_ge ((a + b) / 2) q with h | h
          · exact h
          · rw [HH.out h] at hc; cases hc
        clear hc
        go_wp2_with fail
        refine (find1_any _ _ _ _).mono ?_
        rintro e w' ⟨rfl, rfl⟩
        go_wp2_with fail
        go_roundw
        case rel => exact ⟨(a + b) / 2 + 1, b, by omega, h2, h3, by go_num, rfl, HB⟩
        case measure => simp [intOf]; omega
    · obtain rfl : a = q := by omega
      obtain rfl : a = b := by omega
      clear h1 h2 hlt
      by_cases hlt : a < l.length
      · obtain ⟨bl, o, rfl, hbl, c1, c2⟩ := hA.below hb a _ (List.getElem?_eq_getElem hlt)
        have HF := hideP (show fnd l key a = (cmpB (l[a]).1 key == 0) by simp [fnd, hlt])
        clear hA hq
        generalize l[a] = p at c1 c2 HF
        have HB := (hb.alloc hb.size (.cells #[.string p.1, .int .i64 p.2] 53))
        go_wp2_with fail
        refine (find1_any _ _ _ _).mono ?_
        rintro e w' ⟨rfl, rfl⟩
        go_wp2_with fail
        go_ret2
        exact ⟨ret_ib rfl HF.out.symm, HB⟩
      · have HF := hideP (show fnd l key a = false by simp [fnd, hlt])
        go_wp2_with fail
        go_ret2
        exact ⟨ret_ib rfl HF.out.symm, hb⟩

set_option maxHeartbeats 400000 in
theorem find_any (A : Option Addr) (c : Nat) (l : List Pr) (key : ByteArray) (q : Nat) (w : World) (hA : PS w w.heap.size A l) (hl : l.length < 4611686018427387904) (hq : At l key q) :
    Calls Tryz.prog 40 #[.slice A l.length c, .string key] w fun e w' => e = .returned (.tuple #[.int .i64 q, .bool (fnd l key q)]) ∧ Below w.heap.size w w' := by
  go_enter Tryz.func40, Tryz.ntmps40
  go_wp2_with fail
  refine (search_any A c l key q _ hA hl hq).mono ?_
  rintro e w' ⟨rfl, hb⟩
  go_wp2_with fail
  go_ret2
  exact ⟨rfl, hb⟩
end Go.Proofs.YtefdipjhjgmokaaGreat
