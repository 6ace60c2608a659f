/-
  Rows of operations and of transactions in memory of the call's own (no body of the program in it).
-/
import Derived.Test.YtmepmiokpcddbabGreatDoorBz24
import Derived.Test.YtmepmiokpcddbabGreatDoorBz5
set_option linter.unusedVariables false
set_option linter.unusedSimpArgs false
namespace Go.Proofs.YtmepmiokpcddbabGreatDoor
open Go.RowKit

/-- the cells of a list of operations -/
def opCells : List Opr → List Value
  | [] => []
  | o :: r => .int .i64 o.kind :: .string o.key :: .string o.src :: .int .i64 o.n :: opCells r
theorem opCells_length (l : List Opr) : (opCells l).length = l.length * 4 := by
  induction l with
  | nil => rfl
  | cons p r ih => simp [opCells, ih]; omega
theorem opCells_append (l m : List Opr) : opCells (l ++ m) = opCells l ++ opCells m := by
  induction l with
  | nil => rfl
  | cons p r ih => simp [opCells, ih]
theorem opCells_get (l : List Opr) (i : Nat) (p : Opr) (h : l[i]? = some p) : (opCells l)[i * 4]? = some (.int .i64 p.kind) ∧ (opCells l)[i * 4 + 1]? = some (.string p.key) ∧ (opCells l)[i * 4 + 2]? = some (.string p.src) ∧ (opCells l)[i * 4 + 3]? = some (.int .i64 p.n) := by
  induction l generalizing i with
  | nil => simp at h
  | cons q r ih =>
    cases i with
    | zero => simp at h; subst h; simp [opCells]
    | succ i => simp at h; have := ih i h; rw [show (i + 1) * 4 = i * 4 + 1 + 1 + 1 + 1 by omega]; simpa [opCells] using this
theorem opInfo : (Tryz.prog.info? 93).map (fun i => (i.zero, i.size, i.bytes)) = some (some (.agg #[.int .i64 0, .string ByteArray.empty, .string ByteArray.empty, .int .i64 0]), 4, 48) := by kernel_rfl
theorem deedInfo : (Tryz.prog.info? 24).map (fun i => (i.zero, i.size, i.bytes)) = some (some (.agg #[.slice none 0 0]), 1, 24) := by kernel_rfl
/-- a slice of operations that the call itself has made -/
def OO (w : World) (B : Nat) (D : Option Addr) (c : Nat) (d : List Opr) : Prop := w.ownsRow B 93 4 (.slice D d.length c) d.length (opCells d)
section
variable {w w' : World} {B B' : Nat} {D : Option Addr} {c : Nat} {d : List Opr}
theorem OO.mono (h : OO w B D c d) (hB : B' ≤ B) : OO w B' D c d :=
  ⟨h.1, h.2.imp id fun ⟨g, cap, cur, h1, h2, h3⟩ => ⟨g, cap, cur, h1, Nat.le_trans hB h2, h3⟩⟩
theorem OO.below (h : OO w B D c d) (hb : Below w.heap.size w w') : OO w' B D c d :=
  ⟨h.1, h.2.imp id fun ⟨g, cap, cur, h1, h2, h3, h4⟩ => ⟨g, cap, cur, h1, h2, (hb.block g (Array.getElem?_eq_some_iff.1 h3).1).trans h3, h4⟩⟩
theorem OO.nil (w : World) (B : Nat) : OO w B none 0 [] := World.ownsRow_nil w _ _ _
theorem OO.os (h : OO w B D c d) : OS w w.heap.size D d := by
  rcases Nat.eq_zero_or_pos d.length with h0 | h0
  · rw [List.length_eq_zero_iff.1 h0]; exact OS.nil
  · obtain ⟨g, cap, hv, _, hlt⟩ := World.ownsRow.form h h0
    injection hv with a b e
    subst a; subst e
    have hc := h.cells (g := g) rfl
    intro i p hp
    obtain ⟨g1, g2, g3, g4⟩ := opCells_get d i p hp
    have h1 := hc _ _ g1
    have h2 := hc _ _ g2
    have h3 := hc _ _ g3
    have h4 := hc _ _ g4
    rw [Addr.add_lit] at h1 h2 h3 h4
    refine ⟨g, 0, rfl, hlt, h1, ?_, ?_, ?_⟩
    · rw [Nat.add_assoc]; exact h2
    · rw [Nat.add_assoc]; exact h3
    · rw [Nat.add_assoc]; exact h4
theorem OO.lt (h : OO w B D c d) {k : Nat} (hk : blk D = some k) : B ≤ k ∧ k < w.heap.size := World.ownsRow.lt h k (by rw [ownBlock_slice]; exact hk)
theorem OO.some_ (h : OO w B D c d) (hd : d ≠ []) : ∃ k, blk D = some k := by
  obtain ⟨g, cap, hv, _, _⟩ := World.ownsRow.form h (List.length_pos_iff.2 hd)
  injection hv with a b e
  subst a
  exact ⟨g, rfl⟩
end
/-- append of one operation onto such a row -/
theorem app_op (w : World) (base : Nat) (ty : TypeId) (D : Option Addr) (c : Nat) (d : List Opr) (hown : OO w base D c d) (o : Opr) (hl : d.length ≤ 5000000000) (hbase : base ≤ w.heap.size) :
    ∃ D' c' w', (Builtin.append_ #[22, 22] ty #[.slice D d.length c, .slice (some ⟨w.heap.size, 0, none⟩) 1 1]).run Tryz.prog (w.alloc (.cells #[.int .i64 o.kind, .string o.key, .string o.src, .int .i64 o.n] 93)) = .ok (.slice D' (d ++ [o]).length c') w' ∧ OO w' base D' c' (d ++ [o]) ∧
      (w.alloc (.cells #[.int .i64 o.kind, .string o.key, .string o.src, .int .i64 o.n] 93)).grownBy w' (blk D) ∧ (∀ B a, B ≤ base → Below B a w → Below B a w') ∧ (blk D' = blk D ∨ blk D' = some (w.heap.size + 1)) := by
  obtain ⟨i0, hi, hz0, hz1, hz2⟩ := info_parts opInfo
  have hc : ∀ j u, (opCells [o])[j]? = some u → (w.alloc (.cells (opCells [o]).toArray 93)).cell? ((⟨w.heap.size, 0, none⟩ : Addr).add j) = some u := by
    intro j u hu
    rw [Addr.add_lit]
    simp only [World.cell?]
    rw [heap_alloc_new]
    simp [hu]
  have hown' : (w.alloc (.cells (opCells [o]).toArray 93)).ownsRow base 93 4 (.slice D d.length c) d.length (opCells d) := World.ownsRow.alloc hown _
  obtain ⟨v', w', hrun, h2, h3, _, h5⟩ := run_append_own_at (P := Tryz.prog) (w.alloc (.cells (opCells [o]).toArray 93)) base 22 ty 93 i0 _ 4 48 Tryz.underlying22 hi hz0 hz1 hz2 rfl (by decide) _ d.length (opCells d) hown' ⟨w.heap.size, 0, none⟩ 1 1 (opCells [o]) (by simp [opCells]) hc
    (by intro u hu; simp [opCells] at hu; rcases hu with rfl | rfl | rfl | rfl <;> rfl) (by unfold maxLen; omega) (by omega) (by simp; omega)
  rw [← opCells_append, show d.length + 1 = (d ++ [o]).length by simp] at h2
  obtain ⟨D', c', rfl⟩ : ∃ D' c', v' = .slice D' (d ++ [o]).length c' := by
    rcases h2.2 with ⟨rfl, h0⟩ | ⟨g, cap, cur, rfl, _⟩
    · exact ⟨none, 0, by rw [h0]⟩
    · exact ⟨_, _, rfl⟩
  rw [ownBlock_slice, ownBlock_slice] at h5
  refine ⟨D', c', w', hrun, h2, by rw [ownBlock_slice] at h3; exact h3, fun B a hB hb => ?_, by simpa using h5⟩
  have hb' := hb.alloc (Nat.le_trans hB hbase) (.cells (opCells [o]).toArray 93)
  exact hb'.grown h3 (by simp; omega) fun k hk => Nat.le_trans hB (World.ownsRow.lt hown' k hk).1
end Go.Proofs.YtmepmiokpcddbabGreatDoor
