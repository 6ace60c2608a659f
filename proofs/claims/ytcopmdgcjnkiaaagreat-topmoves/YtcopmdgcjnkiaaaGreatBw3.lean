/-
  Lists of pairs in memory: their cells, rows of the call's own, append (no body of the program in it).
  A pair in a slice of one.
-/
import Derived.Test.YtcopmdgcjnkiaaaGreatBw1
import Derived.Test.YtcopmdgcjnkiaaaGreatProg
import Derived.Maps.AppendAt
import Derived.Deep.AppendLies
import Derived.Lib.AppendZerosOnto
import Derived.OwnWalk
import Derived.WalkKit
set_option linter.unusedVariables false
set_option linter.unusedSimpArgs false
namespace Go.Proofs.YtcopmdgcjnkiaaaGreat
open Go.RowKit

/-- the cells of a list of pairs -/
def cellsOf : List Pr → List Value
  | [] => []
  | p :: r => .string p.1 :: .int .i64 p.2 :: cellsOf r
theorem cellsOf_length (l : List Pr) : (cellsOf l).length = l.length * 2 := by
  induction l with
  | nil => rfl
  | cons p r ih => simp [cellsOf, ih]; omega
theorem cellsOf_append (l m : List Pr) : cellsOf (l ++ m) = cellsOf l ++ cellsOf m := by
  induction l with
  | nil => rfl
  | cons p r ih => simp [cellsOf, ih]
theorem cellsOf_get (l : List Pr) (i : Nat) (p : Pr) (h : l[i]? = some p) : (cellsOf l)[i * 2]? = some (.string p.1) ∧ (cellsOf l)[i * 2 + 1]? = some (.int .i64 p.2) := by
  induction l generalizing i with
  | nil => simp at h
  | cons q r ih =>
    cases i with
    | zero => simp at h; subst h; simp [cellsOf]
    | succ i => simp at h; have := ih i h; rw [show (i + 1) * 2 = i * 2 + 1 + 1 by omega]; simpa [cellsOf] using this
theorem cellsOf_at (l : List Pr) (j : Nat) (u : Value) (h : (cellsOf l)[j]? = some u) : ∃ i p, l[i]? = some p ∧ (j = i * 2 ∧ u = .string p.1 ∨ j = i * 2 + 1 ∧ u = .int .i64 p.2) := by
  induction l generalizing j with
  | nil => simp [cellsOf] at h
  | cons q r ih =>
    match j with
    | 0 => simp [cellsOf] at h; exact ⟨0, q, rfl, .inl ⟨rfl, h.symm⟩⟩
    | 1 => simp [cellsOf] at h; exact ⟨0, q, rfl, .inr ⟨rfl, h.symm⟩⟩
    | j + 2 =>
      simp [cellsOf] at h
      obtain ⟨i, p, hp, hh⟩ := ih j h
      refine ⟨i + 1, p, by simpa using hp, ?_⟩
      rcases hh with ⟨e, hu⟩ | ⟨e, hu⟩
      · exact .inl ⟨by omega, hu⟩
      · exact .inr ⟨by omega, hu⟩
theorem cellsOf_one (l : List Pr) : ∀ u ∈ cellsOf l, u.oneCell' = true := by
  intro u hu
  obtain ⟨j, hj⟩ := List.mem_iff_getElem?.1 hu
  obtain ⟨i, p, _, h⟩ := cellsOf_at l j u hj
  rcases h with ⟨_, rfl⟩ | ⟨_, rfl⟩ <;> rfl

section
variable {w w' : World} {B : Nat} {A : Option Addr} {l : List Pr}
theorem PS.cells (h : PS w B A l) (hl : l ≠ []) : ∃ b o, A = some ⟨b, o, none⟩ ∧ b < B ∧ ∀ j u, (cellsOf l)[j]? = some u → w.cell? ((⟨b, o, none⟩ : Addr).add j) = some u := by
  cases l with
  | nil => exact absurd rfl hl
  | cons q r =>
    obtain ⟨b, o, e, hlt, _, _⟩ := h 0 q rfl
    refine ⟨b, o, e, hlt, fun j u hj => ?_⟩
    obtain ⟨i, p, hp, hh⟩ := cellsOf_at _ j u hj
    obtain ⟨b', o', e', _, h1, h2⟩ := h i p hp
    rw [e] at e'
    injection e' with e'
    injection e' with eb eo _
    subst eb; subst eo
    rcases hh with ⟨rfl, rfl⟩ | ⟨rfl, rfl⟩
    · rw [Addr.add_lit]; exact h1
    · rw [Addr.add_lit, ← Nat.add_assoc]; exact h2
theorem PS.of_own {base : Nat} {e : TypeId} {v : Value} (h : w.ownsRow base e 2 v l.length (cellsOf l)) : ∃ A c, v = .slice A l.length c ∧ PS w w.heap.size A l := by
  rcases Nat.eq_zero_or_pos l.length with h0 | h0
  · have : l = [] := List.length_eq_zero_iff.1 h0
    subst this
    rcases h.2 with ⟨rfl, _⟩ | ⟨g, cap, cur, rfl, _⟩
    · exact ⟨_, _, rfl, PS.nil⟩
    · exact ⟨_, _, rfl, PS.nil⟩
  · obtain ⟨g, cap, rfl, _, hlt⟩ := h.form h0
    refine ⟨_, _, rfl, fun i p hp => ⟨g, 0, rfl, hlt, ?_⟩⟩
    have hc := h.cells (g := g) rfl
    have hg := cellsOf_get l i p hp
    have h1 := hc _ _ hg.1
    have h2 := hc _ _ hg.2
    rw [Addr.add_lit] at h1 h2
    exact ⟨h1, by rw [Nat.add_assoc]; exact h2⟩
end

/-- a slice of pairs as a value -/
structure SV (w : World) (A : Option Addr) (c : Nat) (l : List Pr) : Prop where
  ps : PS w w.heap.size A l
  le : l.length ≤ c
  cap : c ≤ maxLen
  none_ : A = none → c = 0
  lit : 0 < c → ∀ a, A = some a → ∃ b o, a = ⟨b, o, none⟩
theorem SV.of_own {w : World} {base : Nat} {e : TypeId} {v : Value} {l : List Pr} (h : w.ownsRow base e 2 v l.length (cellsOf l)) : ∃ A c, v = .slice A l.length c ∧ SV w A c l := by
  obtain ⟨A, c, hv, hp⟩ := PS.of_own h
  refine ⟨A, c, hv, hp, ?_, ?_, ?_, ?_⟩
  all_goals
    rcases h.2 with ⟨h1, h0⟩ | ⟨g, cap, cur, h1, _, _, h4, h5, _⟩
    · rw [hv] at h1; injection h1 with a b c; subst a; subst c; simp_all
    · rw [hv] at h1; injection h1 with a b c; subst a; subst c; simp_all
theorem SV.below {w w' : World} {A : Option Addr} {c : Nat} {l : List Pr} (h : SV w A c l) (hb : Below w.heap.size w w') : SV w' A c l :=
  ⟨(h.ps.below hb).more hb.size, h.le, h.cap, h.none_, h.lit⟩
theorem SV.none_nil {w : World} {c : Nat} {l : List Pr} (h : SV w none c l) : l = [] ∧ c = 0 := by
  have := h.none_ rfl
  have := h.le
  exact ⟨List.length_eq_zero_iff.1 (by omega), by assumption⟩
theorem SV.nil (w : World) : SV w none 0 [] := ⟨PS.nil, by simp, by simp, fun _ => rfl, fun _ a h => by cases h⟩
theorem pairInfo : (Tryz.prog.info? 64).map (fun i => (i.zero, i.size, i.bytes)) = some (some (.agg #[.string ByteArray.empty, .int .i64 0]), 2, 24) := by kernel_rfl

set_option maxRecDepth 100000 in
/-- append onto a row of the call's own, whatever the source -/
theorem app_pairs (w : World) (base : Nat) (ty : TypeId) (v : Value) (xs : List Pr) (hown : w.ownsRow base 64 2 v xs.length (cellsOf xs)) (B : Nat) (A : Option Addr) (c : Nat) (l : List Pr)
    (hA : PS w B A l) (h63 : (xs.length + l.length) * 24 ≤ 140737488355328) (hbase : base ≤ w.heap.size) :
    ∃ v' w', (Builtin.append_ #[33, 33] ty #[v, .slice A l.length c]).run Tryz.prog w = .ok v' w' ∧ w'.ownsRow base 64 2 v' (xs ++ l).length (cellsOf (xs ++ l)) ∧ w.grownBy w' v.ownBlock ∧
      (v'.ownBlock = v.ownBlock ∨ v'.ownBlock = some w.heap.size) := by
  obtain ⟨i0, hi, hz0, hz1, hz2⟩ := info_parts pairInfo
  have hm : xs.length + l.length ≤ maxLen := by unfold maxLen; omega
  rw [List.length_append, cellsOf_append]
  cases A with
  | none =>
    have h0 : l = [] := by
      cases l with
      | nil => rfl
      | cons q r => obtain ⟨_, _, e, _⟩ := hA 0 q rfl; cases e
    subst h0
    refine ⟨v, w, ?_, by simpa [cellsOf] using hown, ⟨rfl, rfl, rfl, Nat.le_refl _, fun _ _ _ => rfl⟩, .inl rfl⟩
    rcases hown.2 with ⟨rfl, h0⟩ | ⟨g, cap, cur, rfl, _, _, hnc, _⟩
    · simp [Builtin.append_, run_underlying Tryz.underlying33, sizeOf, typeInfo, hi, Builtin.lenOf, Builtin.firstCells]
    · simp [Builtin.append_, run_underlying Tryz.underlying33, sizeOf, typeInfo, hi, Builtin.lenOf, Builtin.firstCells, hnc, storeCells]
  | some ad =>
    have hc : ∀ j u, (cellsOf l)[j]? = some u → w.cell? (ad.add j) = some u := by
      intro j u hu
      have hl : l ≠ [] := by rintro rfl; simp [cellsOf] at hu
      obtain ⟨b, o, e, _, hcc⟩ := hA.cells hl
      injection e with e
      subst e
      exact hcc j u hu
    obtain ⟨v', w', hrun, h2, h3, _, h5⟩ := run_append_own_at (P := Tryz.prog) w base 33 ty 64 i0 _ 2 24 Tryz.underlying33 hi hz0 hz1 hz2 rfl (by decide) v xs.length (cellsOf xs) hown ad l.length c (cellsOf l)
      (cellsOf_length l) hc (cellsOf_one l) hm h63 hbase
    exact ⟨v', w', hrun, h2, h3, h5⟩

/-- a slice of pairs that the call itself has made: its row lies from block B on -/
def OV (w : World) (B : Nat) (A : Option Addr) (c : Nat) (l : List Pr) : Prop := w.ownsRow B 64 2 (.slice A l.length c) l.length (cellsOf l)
theorem OV.mono {w : World} {B B' : Nat} {A : Option Addr} {c : Nat} {l : List Pr} (h : OV w B A c l) (hB : B' ≤ B) : OV w B' A c l :=
  ⟨h.1, h.2.imp id fun ⟨g, cap, cur, h1, h2, h3⟩ => ⟨g, cap, cur, h1, Nat.le_trans hB h2, h3⟩⟩
theorem OV.below {w w' : World} {B : Nat} {A : Option Addr} {c : Nat} {l : List Pr} (h : OV w B A c l) (hb : Below w.heap.size w w') : OV w' B A c l :=
  ⟨h.1, h.2.imp id fun ⟨g, cap, cur, h1, h2, h3, h4⟩ => ⟨g, cap, cur, h1, h2, (hb.block g (Array.getElem?_eq_some_iff.1 h3).1).trans h3, h4⟩⟩
theorem OV.sv {w : World} {B : Nat} {A : Option Addr} {c : Nat} {l : List Pr} (h : OV w B A c l) : SV w A c l := by
  obtain ⟨A', c', hv, hs⟩ := SV.of_own h
  injection hv with a b d
  subst a; subst d
  exact hs
theorem OV.of_own {w : World} {B : Nat} {v : Value} {l : List Pr} (h : w.ownsRow B 64 2 v l.length (cellsOf l)) : ∃ A c, v = .slice A l.length c ∧ OV w B A c l := by
  obtain ⟨A, c, hv, hs⟩ := SV.of_own h
  subst hv
  exact ⟨A, c, rfl, h⟩
end Go.Proofs.YtcopmdgcjnkiaaaGreat

set_option linter.unusedVariables false
set_option linter.unusedSimpArgs false
namespace Go.Proofs.YtcopmdgcjnkiaaaGreat
open Go.RowKit

theorem PS.one (w : World) (key : ByteArray) (n : Int) (t : TypeId) : PS (w.alloc (.cells #[.string key, .int .i64 n] t)) (w.alloc (.cells #[.string key, .int .i64 n] t)).heap.size (some ⟨w.heap.size, 0, none⟩) [(key, n)] := fun i p hp => by
  cases i with
  | zero => simp at hp; subst hp; exact ⟨w.heap.size, 0, rfl, by simp, by simp, by simp⟩
  | succ i => simp at hp
end Go.Proofs.YtcopmdgcjnkiaaaGreat
