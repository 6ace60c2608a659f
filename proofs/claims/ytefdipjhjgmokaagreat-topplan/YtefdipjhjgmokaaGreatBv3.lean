/-
  Rows of operations and of transactions in memory of the call's own (no body of the program in it).
  Entries in memory (no body of the program in it).
  Rows of entries in memory (no body of the program in it).
  Rows of one-cell values that are written (no body of the program in it).
-/
import Derived.Test.YtefdipjhjgmokaaGreatBv2
import Derived.Test.YtefdipjhjgmokaaGreatBv1
set_option linter.unusedVariables false
set_option linter.unusedSimpArgs false
namespace Go.Proofs.YtefdipjhjgmokaaGreat
open Go.RowKit

/-- the cells of a list of operations -/
def opCells : List Opr → List Value
  | [] => []
  | o :: r => .int .i64 o.kind :: .string o.key :: .string o.src :: .int .i64 o.n :: opCells r
theorem opCells_length (l : List Opr) : (opCells l).length = l.length * 4 := by
  induction l with
  | nil => rfl
  | cons p r ih => simp [opCells, ih]; omega
theorem opCells_append (l m : List Opr) : opCells (l ++ m) = opCells l ++ opCells m := by
  induction l with
  | nil => rfl
  | cons p r ih => simp [opCells, ih]
theorem opCells_get (l : List Opr) (i : Nat) (p : Opr) (h : l[i]? = some p) : (opCells l)[i * 4]? = some (.int .i64 p.kind) ∧ (opCells l)[i * 4 + 1]? = some (.string p.key) ∧ (opCells l)[i * 4 + 2]? = some (.string p.src) ∧ (opCells l)[i * 4 + 3]? = some (.int .i64 p.n) := by
  induction l generalizing i with
  | nil => simp at h
  | cons q r ih =>
    cases i with
    | zero => simp at h; subst h; simp [opCells]
    | succ i => simp at h; have := ih i h; rw [show (i + 1) * 4 = i * 4 + 1 + 1 + 1 + 1 by omega]; simpa [opCells] using this
theorem opInfo : (Tryz.prog.info? 106).map (fun i => (i.zero, i.size, i.bytes)) = some (some (.agg #[.int .i64 0, .string ByteArray.empty, .string ByteArray.empty, .int .i64 0]), 4, 48) := by kernel_rfl
theorem deedInfo : (Tryz.prog.info? 32).map (fun i => (i.zero, i.size, i.bytes)) = some (some (.agg #[.slice none 0 0]), 1, 24) := by kernel_rfl
/-- a slice of operations that the call itself has made -/
def OO (w : World) (B : Nat) (D : Option Addr) (c : Nat) (d : List Opr) : Prop := w.ownsRow B 106 4 (.slice D d.length c) d.length (opCells d)
section
variable {w w' : World} {B B' : Nat} {D : Option Addr} {c : Nat} {d : List Opr}
theorem OO.mono (h : OO w B D c d) (hB : B' ≤ B) : OO w B' D c d :=
  ⟨h.1, h.2.imp id fun ⟨g, cap, cur, h1, h2, h3⟩ => ⟨g, cap, cur, h1, Nat.le_trans hB h2, h3⟩⟩
theorem OO.below (h : OO w B D c d) (hb : Below w.heap.size w w') : OO w' B D c d :=
  ⟨h.1, h.2.imp id fun ⟨g, cap, cur, h1, h2, h3, h4⟩ => ⟨g, cap, cur, h1, h2, (hb.block g (Array.getElem?_eq_some_iff.1 h3).1).trans h3, h4⟩⟩
theorem OO.nil (w : World) (B : Nat) : OO w B none 0 [] := World.ownsRow_nil w _ _ _
theorem OO.os (h : OO w B D c d) : OS w w.heap.size D d := by
  rcases Nat.eq_zero_or_pos d.length with h0 | h0
  · rw [List.length_eq_zero_iff.1 h0]; exact OS.nil
  · obtain ⟨g, cap, hv, _, hlt⟩ := World.ownsRow.form h h0
    injection hv with a b e
    subst a; subst e
    have hc := h.cells (g := g) rfl
    intro i p hp
    obtain ⟨g1, g2, g3, g4⟩ := opCells_get d i p hp
    have h1 := hc _ _ g1
    have h2 := hc _ _ g2
    have h3 := hc _ _ g3
    have h4 := hc _ _ g4
    rw [Addr.add_lit] at h1 h2 h3 h4
    refine ⟨g, 0, rfl, hlt, h1, ?_, ?_, ?_⟩
    · rw [Nat.add_assoc]; exact h2
    · rw [Nat.add_assoc]; exact h3
    · rw [Nat.add_assoc]; exact h4
theorem OO.lt (h : OO w B D c d) {k : Nat} (hk : blk D = some k) : B ≤ k ∧ k < w.heap.size := World.ownsRow.lt h k (by rw [ownBlock_slice]; exact hk)
theorem OO.some_ (h : OO w B D c d) (hd : d ≠ []) : ∃ k, blk D = some k := by
  obtain ⟨g, cap, hv, _, _⟩ := World.ownsRow.form h (List.length_pos_iff.2 hd)
  injection hv with a b e
  subst a
  exact ⟨g, rfl⟩
end
/-- append of one operation onto such a row -/
theorem app_op (w : World) (base : Nat) (ty : TypeId) (D : Option Addr) (c : Nat) (d : List Opr) (hown : OO w base D c d) (o : Opr) (hl : d.length ≤ 5000000000) (hbase : base ≤ w.heap.size) :
    ∃ D' c' w', (Builtin.append_ #[30, 30] ty #[.slice D d.length c, .slice (some ⟨w.heap.size, 0, none⟩) 1 1]).run Tryz.prog (w.alloc (.cells #[.int .i64 o.kind, .string o.key, .string o.src, .int .i64 o.n] 106)) = .ok (.slice D' (d ++ [o]).length c') w' ∧ OO w' base D' c' (d ++ [o]) ∧
      (w.alloc (.cells #[.int .i64 o.kind, .string o.key, .string o.src, .int .i64 o.n] 106)).grownBy w' (blk D) ∧ (∀ B a, B ≤ base → Below B a w → Below B a w') ∧ (blk D' = blk D ∨ blk D' = some (w.heap.size + 1)) := by
  obtain ⟨i0, hi, hz0, hz1, hz2⟩ := info_parts opInfo
  have hc : ∀ j u, (opCells [o])[j]? = some u → (w.alloc (.cells (opCells [o]).toArray 106)).cell? ((⟨w.heap.size, 0, none⟩ : Addr).add j) = some u := by
    intro j u hu
    rw [Addr.add_lit]
    simp only [World.cell?]
    rw [heap_alloc_new]
    simp [hu]
  have hown' : (w.alloc (.cells (opCells [o]).toArray 106)).ownsRow base 106 4 (.slice D d.length c) d.length (opCells d) := World.ownsRow.alloc hown _
  obtain ⟨v', w', hrun, h2, h3, _, h5⟩ := run_append_own_at (P := Tryz.prog) (w.alloc (.cells (opCells [o]).toArray 106)) base 30 ty 106 i0 _ 4 48 Tryz.underlying30 hi hz0 hz1 hz2 rfl (by decide) _ d.length (opCells d) hown' ⟨w.heap.size, 0, none⟩ 1 1 (opCells [o]) (by simp [opCells]) hc
    (by intro u hu; simp [opCells] at hu; rcases hu with rfl | rfl | rfl | rfl <;> rfl) (by unfold maxLen; omega) (by omega) (by simp; omega)
  rw [← opCells_append, show d.length + 1 = (d ++ [o]).length by simp] at h2
  obtain ⟨D', c', rfl⟩ : ∃ D' c', v' = .slice D' (d ++ [o]).length c' := by
    rcases h2.2 with ⟨rfl, h0⟩ | ⟨g, cap, cur, rfl, _⟩
    · exact ⟨none, 0, by rw [h0]⟩
    · exact ⟨_, _, rfl⟩
  rw [ownBlock_slice, ownBlock_slice] at h5
  refine ⟨D', c', w', hrun, h2, by rw [ownBlock_slice] at h3; exact h3, fun B a hB hb => ?_, by simpa using h5⟩
  have hb' := hb.alloc (Nat.le_trans hB hbase) (.cells (opCells [o]).toArray 106)
  exact hb'.grown h3 (by simp; omega) fun k hk => Nat.le_trans hB (World.ownsRow.lt hown' k hk).1
end Go.Proofs.YtefdipjhjgmokaaGreat

set_option linter.unusedVariables false
set_option linter.unusedSimpArgs false
namespace Go.Proofs.YtefdipjhjgmokaaGreat
open Go.RowKit

/-- an entry as a value: where its lists lie -/
structure Em where
  D : Option Addr
  c : Nat
  d : List Opr
  isM : Bool
  m : Mp
def emC (x : Em) : Array Value := #[.slice x.D x.d.length x.c, .bool x.isM, .slice x.m.A x.m.cs.length x.m.ca, .slice x.m.O x.m.os.length x.m.co]
def emV (x : Em) : Value := .agg (emC x)
/-- what it reads as -/
structure ES (w : World) (x : Em) : Prop where
  ops : OS w w.heap.size x.D x.d
  map : MS w x.m
  bd : ∀ o ∈ x.d, -9223372036854775808 ≤ o.n ∧ o.n ≤ 9223372036854775807
theorem ES.below {w w' : World} {x : Em} (h : ES w x) (hb : Below w.heap.size w w') : ES w' x := ⟨h.ops.go hb, h.map.below hb, h.bd⟩
def entOf (x : Em) : Ent := ⟨x.isM, x.d, x.m.cs, x.m.os⟩
/-- an entry of the call's own -/
structure EO (w : World) (B : Nat) (x : Em) : Prop where
  ops : OO w B x.D x.c x.d
  map : MO w B x.m
theorem EO.below {w w' : World} {B : Nat} {x : Em} (h : EO w B x) (hb : Below w.heap.size w w') : EO w' B x := ⟨h.ops.below hb, h.map.below hb⟩
theorem EO.mono {w : World} {B B' : Nat} {x : Em} (h : EO w B x) (hB : B' ≤ B) : EO w B' x := ⟨h.ops.mono hB, h.map.mono hB⟩
/-- no entry -/
def em0 : Em := ⟨none, 0, [], false, noM⟩
theorem em0_eo (w : World) (B : Nat) : EO w B em0 := ⟨OO.nil _ _, noM_mo _ _⟩
end Go.Proofs.YtefdipjhjgmokaaGreat

set_option linter.unusedVariables false
set_option linter.unusedSimpArgs false
namespace Go.Proofs.YtefdipjhjgmokaaGreat
open Go.RowKit

/-- the cells of a list of entries -/
def emCells : List Em → List Value
  | [] => []
  | x :: r => .slice x.D x.d.length x.c :: .bool x.isM :: .slice x.m.A x.m.cs.length x.m.ca :: .slice x.m.O x.m.os.length x.m.co :: emCells r
theorem emCells_length (l : List Em) : (emCells l).length = l.length * 4 := by
  induction l with
  | nil => rfl
  | cons p r ih => simp [emCells, ih]; omega
theorem emCells_append (l m : List Em) : emCells (l ++ m) = emCells l ++ emCells m := by
  induction l with
  | nil => rfl
  | cons p r ih => simp [emCells, ih]
theorem emCells_one (x : Em) : (emCells [x]).toArray = emC x := rfl
theorem emCells_get (l : List Em) (i : Nat) (x : Em) (h : l[i]? = some x) : (emCells l)[i * 4]? = some (.slice x.D x.d.length x.c) ∧ (emCells l)[i * 4 + 1]? = some (.bool x.isM) ∧ (emCells l)[i * 4 + 2]? = some (.slice x.m.A x.m.cs.length x.m.ca) ∧ (emCells l)[i * 4 + 3]? = some (.slice x.m.O x.m.os.length x.m.co) := by
  induction l generalizing i with
  | nil => simp at h
  | cons q r ih =>
    cases i with
    | zero => simp at h; subst h; simp [emCells]
    | succ i => simp at h; have := ih i h; rw [show (i + 1) * 4 = i * 4 + 1 + 1 + 1 + 1 by omega]; simpa [emCells] using this
theorem entInfo : (Tryz.prog.info? 37).map (fun i => (i.zero, i.size, i.bytes)) = some (some (.agg #[.slice none 0 0, .bool false, .slice none 0 0, .slice none 0 0]), 4, 80) := by kernel_rfl
/-- a slice of entries: as it reads -/
structure EL (w : World) (A : Option Addr) (l : List Em) : Prop where
  cells : ∀ i x, l[i]? = some x → ∃ b o, A = some ⟨b, o, none⟩ ∧ b < w.heap.size ∧ w.cell? ⟨b, o + i * 4, none⟩ = some (.slice x.D x.d.length x.c) ∧ w.cell? ⟨b, o + i * 4 + 1, none⟩ = some (.bool x.isM) ∧
    w.cell? ⟨b, o + i * 4 + 2, none⟩ = some (.slice x.m.A x.m.cs.length x.m.ca) ∧ w.cell? ⟨b, o + i * 4 + 3, none⟩ = some (.slice x.m.O x.m.os.length x.m.co)
  es : ∀ x ∈ l, ES w x
theorem EL.below {w w' : World} {A : Option Addr} {l : List Em} (h : EL w A l) (hb : Below w.heap.size w w') : EL w' A l :=
  ⟨fun i p hp => by
    obtain ⟨b, o, e, hlt, h1, h2, h3, h4⟩ := h.cells i p hp
    exact ⟨b, o, e, Nat.lt_of_lt_of_le hlt hb.size, (hb.cell hlt).trans h1, (hb.cell hlt).trans h2, (hb.cell hlt).trans h3, (hb.cell hlt).trans h4⟩, fun x hx => (h.es x hx).below hb⟩
theorem EL.nil {w : World} {A : Option Addr} : EL w A [] := ⟨fun i p hp => by simp at hp, fun x hx => by simp at hx⟩
theorem EL.take_ {w : World} {A : Option Addr} {l : List Em} (h : EL w A l) (q : Nat) : EL w A (l.take q) := by
  refine ⟨fun i p hp => ?_, fun x hx => h.es x (List.mem_of_mem_take hx)⟩
  rw [List.getElem?_take] at hp
  split at hp
  · exact h.cells i p hp
  · cases hp
/-- a slice of entries that the call itself has made, and all in them -/
structure EW (w : World) (B : Nat) (A : Option Addr) (c : Nat) (l : List Em) : Prop where
  row : w.ownsRow B 37 4 (.slice A l.length c) l.length (emCells l)
  eo : ∀ x ∈ l, EO w B x
  bd : ∀ x ∈ l, ∀ o ∈ x.d, -9223372036854775808 ≤ o.n ∧ o.n ≤ 9223372036854775807
section
variable {w w' : World} {B B' : Nat} {A : Option Addr} {c : Nat} {l : List Em}
theorem EO.es {x : Em} (h : EO w B x) (hb : ∀ o ∈ x.d, -9223372036854775808 ≤ o.n ∧ o.n ≤ 9223372036854775807) : ES w x := ⟨h.ops.os, h.map.ms, hb⟩
theorem EW.nil (w : World) (B : Nat) : EW w B none 0 [] := ⟨World.ownsRow_nil w _ _ _, by simp, by simp⟩
theorem EW.mono (h : EW w B A c l) (hB : B' ≤ B) : EW w B' A c l := ⟨own_mono h.row hB, fun x hx => (h.eo x hx).mono hB, h.bd⟩
theorem EW.below (h : EW w B A c l) (hb : Below w.heap.size w w') : EW w' B A c l := ⟨own_below h.row hb, fun x hx => (h.eo x hx).below hb, h.bd⟩
theorem EW.el (h : EW w B A c l) : EL w A l := by
  refine ⟨?_, fun x hx => (h.eo x hx).es (h.bd x hx)⟩
  rcases Nat.eq_zero_or_pos l.length with h0 | h0
  · rw [List.length_eq_zero_iff.1 h0]; exact EL.nil (w := w) (A := A) |>.cells
  · obtain ⟨g, cap, hv, _, hlt⟩ := World.ownsRow.form h.row h0
    injection hv with a b e
    subst a; subst e
    have hc := h.row.cells (g := g) rfl
    intro i p hp
    obtain ⟨g1, g2, g3, g4⟩ := emCells_get l i p hp
    have h1 := hc _ _ g1
    have h2 := hc _ _ g2
    have h3 := hc _ _ g3
    have h4 := hc _ _ g4
    rw [Addr.add_lit] at h1 h2 h3 h4
    refine ⟨g, 0, rfl, hlt, h1, ?_, ?_, ?_⟩
    · rw [Nat.add_assoc]; exact h2
    · rw [Nat.add_assoc]; exact h3
    · rw [Nat.add_assoc]; exact h4
theorem EW.caps (h : EW w B A c l) : l.length ≤ c ∧ c ≤ maxLen ∧ (A = none → c = 0) ∧ (∀ a, A = some a → ∃ g, a = ⟨g, 0, none⟩ ∧ B ≤ g ∧ g < w.heap.size) := by
  rcases h.row.2 with ⟨hv, h0⟩ | ⟨g, cap, cur, hv, h2, h3, h4, h5, _⟩
  · injection hv with a b d
    subst a; subst d
    exact ⟨by omega, Nat.zero_le _, (fun _ => rfl), (fun a e => by cases e)⟩
  · injection hv with a b d
    subst a; subst d
    exact ⟨h4, h5, (fun e => by cases e), (fun a e => by injection e with e; exact ⟨g, e.symm, h2, (Array.getElem?_eq_some_iff.1 h3).1⟩)⟩
end
theorem own_keep {w w' : World} {B : Nat} {r : Option Nat} {t : TypeId} {s : Nat} {v : Value} {n : Nat} {xs : List Value} (h : w.ownsRow B t s v n xs) (hg : w.grownBy w' r) (hr : ∀ k, r = some k → ∃ u, Ty w k u ∧ t ≠ u) : w'.ownsRow B t s v n xs := by
  refine World.ownsRow.kept h hg ?_
  cases r with
  | none => cases Value.ownBlock v <;> simp
  | some k =>
    obtain ⟨u, h1, h2⟩ := hr k rfl
    exact own_ne h h1 h2
theorem EO.grown {w w' : World} {B : Nat} {x : Em} {r : Option Nat} (h : EO w B x) (hg : w.grownBy w' r) (hr : ∀ k, r = some k → Ty w k 37) : EO w' B x := by
  have key : ∀ {t : TypeId} {s : Nat} {v : Value} {n : Nat} {xs : List Value}, w.ownsRow B t s v n xs → t ≠ 37 → w'.ownsRow B t s v n xs := fun h hne => by
    refine World.ownsRow.kept h hg ?_
    cases r with
    | none => cases ob : Value.ownBlock _ <;> simp
    | some k => exact own_ne h (hr k rfl) hne
  exact ⟨key h.ops (by decide), ⟨key h.map.cuts (by decide), key h.map.own (by decide)⟩⟩
/-- append of one entry onto such a row -/
theorem app_ent_at {st : TypeId} (hS : Tryz.prog.underlying st = some (.slice 37)) (w : World) (base : Nat) (ty : TypeId) (A : Option Addr) (c : Nat) (l : List Em) (hown : EW w base A c l) (x : Em) (hx : EO w base x) (hbd : ∀ o ∈ x.d, -9223372036854775808 ≤ o.n ∧ o.n ≤ 9223372036854775807) (hl : l.length ≤ 1000000000000) (hbase : base ≤ w.heap.size) :
    ∃ A' c' w', (Builtin.append_ #[st, st] ty #[.slice A l.length c, .slice (some ⟨w.heap.size, 0, none⟩) 1 1]).run Tryz.prog (w.alloc (.cells (emC x) 37)) = .ok (.slice A' (l ++ [x]).length c') w' ∧ EW w' base A' c' (l ++ [x]) ∧
      (w.alloc (.cells (emC x) 37)).grownBy w' (blk A) ∧ (∀ B a, B ≤ base → Below B a w → Below B a w') ∧ (blk A' = blk A ∨ blk A' = some (w.heap.size + 1)) := by
  obtain ⟨i0, hi, hz0, hz1, hz2⟩ := info_parts entInfo
  rw [← emCells_one]
  have hc : ∀ j u, (emCells [x])[j]? = some u → (w.alloc (.cells (emCells [x]).toArray 37)).cell? ((⟨w.heap.size, 0, none⟩ : Addr).add j) = some u := by
    intro j u hu
    rw [Addr.add_lit]
    simp only [World.cell?]
    rw [heap_alloc_new]
    simp [hu]
  have hal := (Below.refl w.heap.size w).alloc (Nat.le_refl _) (.cells (emCells [x]).toArray 37)
  have hown' : (w.alloc (.cells (emCells [x]).toArray 37)).ownsRow base 37 4 (.slice A l.length c) l.length (emCells l) := World.ownsRow.alloc hown.row _
  obtain ⟨v', w', hrun, h2, h3, _, h5⟩ := run_append_own_at (P := Tryz.prog) (w.alloc (.cells (emCells [x]).toArray 37)) base st ty 37 i0 _ 4 80 hS hi hz0 hz1 hz2 rfl (by decide) _ l.length (emCells l) hown' ⟨w.heap.size, 0, none⟩ 1 1 (emCells [x]) (by simp [emCells]) hc
    (by intro u hu; simp [emCells] at hu; rcases hu with rfl | rfl | rfl | rfl <;> rfl) (by unfold maxLen; omega) (by omega) (by simp; omega)
  rw [← emCells_append, show l.length + 1 = (l ++ [x]).length by simp] at h2
  obtain ⟨A', c', rfl⟩ : ∃ A' c', v' = .slice A' (l ++ [x]).length c' := by
    rcases h2.2 with ⟨rfl, h0⟩ | ⟨g, cap, cur, rfl, _⟩
    · exact ⟨none, 0, by rw [h0]⟩
    · exact ⟨_, _, rfl⟩
  rw [ownBlock_slice, ownBlock_slice] at h5
  have hty : ∀ k, (Value.slice A l.length c).ownBlock = some k → Ty (w.alloc (.cells (emCells [x]).toArray 37)) k 37 := fun k hk => own_ty hown' hk
  refine ⟨A', c', w', hrun, ⟨h2, fun y hy => ?_, fun y hy => ?_⟩, by rw [ownBlock_slice] at h3; exact h3, fun B a hB hb => ?_, by simpa using h5⟩
  · rcases List.mem_append.1 hy with hy | hy
    · exact ((hown.eo y hy).below hal).grown h3 hty
    · simp at hy; subst hy; exact (hx.below hal).grown h3 hty
  · rcases List.mem_append.1 hy with hy | hy
    · exact hown.bd y hy
    · simp at hy; subst hy; exact hbd
  · have hb' := hb.alloc (Nat.le_trans hB hbase) (.cells (emCells [x]).toArray 37)
    exact hb'.grown h3 (by simp; omega) fun k hk => Nat.le_trans hB (World.ownsRow.lt hown' k hk).1
theorem app_ent (w : World) (base : Nat) (ty : TypeId) (A : Option Addr) (c : Nat) (l : List Em) (hown : EW w base A c l) (x : Em) (hx : EO w base x) (hbd : ∀ o ∈ x.d, -9223372036854775808 ≤ o.n ∧ o.n ≤ 9223372036854775807) (hl : l.length ≤ 1000000000000) (hbase : base ≤ w.heap.size) :
    ∃ A' c' w', (Builtin.append_ #[26, 26] ty #[.slice A l.length c, .slice (some ⟨w.heap.size, 0, none⟩) 1 1]).run Tryz.prog (w.alloc (.cells (emC x) 37)) = .ok (.slice A' (l ++ [x]).length c') w' ∧ EW w' base A' c' (l ++ [x]) ∧
      (w.alloc (.cells (emC x) 37)).grownBy w' (blk A) ∧ (∀ B a, B ≤ base → Below B a w → Below B a w') ∧ (blk A' = blk A ∨ blk A' = some (w.heap.size + 1)) :=
  app_ent_at Tryz.underlying26 w base ty A c l hown x hx hbd hl hbase
end Go.Proofs.YtefdipjhjgmokaaGreat

set_option linter.unusedVariables false
set_option linter.unusedSimpArgs false
namespace Go.Proofs.YtefdipjhjgmokaaGreat
open Go.RowKit

/-- a place of a row of one-cell values of one's own is written -/
theorem OR.set_ {w : World} {B : Nat} {t : TypeId} {g c : Nat} {xs : List Value} (h : OR w B t (some ⟨g, 0, none⟩) c xs) {k : Nat} (hk : k < xs.length) (v : Value) : OR (w.setCell ⟨g, k, none⟩ v) B t (some ⟨g, 0, none⟩) c (xs.set k v) := by
  rcases h.2 with ⟨hv, _⟩ | ⟨g', cap', cur, hv, h1, hb, h3, h4, h5, h6⟩
  · cases hv
  · injection hv with e1 _ e3
    injection e1 with e1
    injection e1 with e1 _ _
    subst e1; subst e3
    have hbx : Box w g t cur := hb
    unfold OR
    rw [List.length_set]
    refine ⟨by rw [List.length_set]; omega, .inr ⟨g, c, cur.setIfInBounds k v, rfl, h1, hbx.set k v, h3, h4, by simp [h5], ?_⟩⟩
    rw [Array.toList_setIfInBounds, List.take_set, h6]
theorem OR.frozen_ {w : World} {B : Nat} {t : TypeId} {g c : Nat} {xs : List Value} (h : OR w B t (some ⟨g, 0, none⟩) c xs) (k : Nat) : w.frozen? ⟨g, k, none⟩ = false := by
  rcases h.2 with ⟨hv, _⟩ | ⟨g', cap', cur, hv, h1, hb, _⟩
  · cases hv
  · injection hv with e1 _ e3
    injection e1 with e1
    injection e1 with e1 _ _
    subst e1
    exact Box.frozen (show Box w g t cur from hb) k
end Go.Proofs.YtefdipjhjgmokaaGreat
