/-
  rokeep.Map in other words; rokeep.Key.
  Transactions in memory: a slice of them, their first error (no body of the program in it).
  Rows of one-cell values that are written (no body of the program in it).
  Transactions plainly, rows of one-cell values that are written (no body of the program in it).
  The block of a slice (no program in it).
  Rows of operations and of transactions in memory of the call's own (no body of the program in it).
-/
import Derived.Test.YtpefdonhacmaoaaBe12
import Derived.Test.YtpefdonhacmaoaaBe14
import Derived.Test.YtpefdonhacmaoaaBe5
import Derived.Test.YtpefdonhacmaoaaBe3
import Derived.Test.YtpefdonhacmaoaaBe4
import Derived.WalkKit
import Derived.OwnWalk
import Derived.Shelf.Sort.Plain
import Derived.Shelf.Slices.CompactS
import Derived.Shelf.Slices.In.SortNone
import Derived.Sort.OwnSorted
import Derived.Lib.OwnBridge
set_option linter.unusedVariables false
set_option linter.unusedSimpArgs false
namespace Go.Proofs.Ytpefdonhacmaoaa
open Go.RowKit

/-- a map is handed back, a valid one with few cuts -/
def RetMk (w : World) (e : Ending) (w' : World) : Prop := ∃ m : Mp, e = .returned (.agg #[.slice m.A m.cs.length m.ca, .slice m.O m.os.length m.co]) ∧ OkM m.cs m.os ∧ m.cs.length ≤ 6 ∧ MO w' w.heap.size m ∧ Below w.heap.size w w'
theorem kmap_mk (P : Option Addr) (cp : Nat) (zs : List Int) (w : World) (hP : IS w P zs) (hl : zs.length ≤ 9223372036854775807) :
    Calls Try.prog 7 #[.slice P zs.length cp] w (RetMk w) := by
  refine (kmap_any P cp zs w hP hl).mono ?_
  rintro e w' ⟨A, ca, O, co, rfl, h1, h2, hb⟩
  refine ⟨⟨A, ca, (mapR zs 6).1, O, co, (mapR zs 6).2.map fun (k : Nat) => (k : Int)⟩, by simp only [List.length_map], mapR_ok zs, mapR_few zs 6, ⟨h1, ?_⟩, hb⟩
  have e : ((mapR zs 6).2.map fun (k : Nat) => (k : Int)).map (Value.int .i64) = nV (mapR zs 6).2 := by simp [nV]
  show OR w' w.heap.size 3 O co (((mapR zs 6).2.map fun (k : Nat) => (k : Int)).map (Value.int .i64))
  rw [e]; exact h2
theorem rkey_be (k : Int) (w : World) : Calls Try.prog 19 #[.int .i64 k] w fun e w' => e = .returned (.string (keyN (wi k 8))) ∧ Below w.heap.size w w' := by
  refine (rkey_any k w).mono ?_
  rintro e w' ⟨rfl, rfl⟩
  exact ⟨rfl, (Below.refl _ _).alloc (Nat.le_refl _) _⟩
end Go.Proofs.Ytpefdonhacmaoaa

set_option linter.unusedVariables false
set_option linter.unusedSimpArgs false
namespace Go.Proofs.Ytpefdonhacmaoaa
open Go.RowKit

/-- a transaction in memory: where its operations lie, their capacity, what they are -/
structure Dl where
  D : Option Addr
  c : Nat
  d : List Opr
def dlV (x : Dl) : Value := .slice x.D x.d.length x.c
/-- a slice of transactions -/
structure DS (w : World) (A : Option Addr) (ds : List Dl) : Prop where
  vs : VS w A (ds.map dlV)
  os : ∀ x ∈ ds, OS w w.heap.size x.D x.d
theorem DS.below {w w' : World} {A : Option Addr} {ds : List Dl} (h : DS w A ds) (hb : Below w.heap.size w w') : DS w' A ds := ⟨h.vs.below hb, fun x hx => (h.os x hx).go hb⟩
theorem DS.at_ {w : World} {A : Option Addr} {ds : List Dl} (h : DS w A ds) {k : Nat} (hk : k < ds.length) : (∃ b o, A = some ⟨b, o, none⟩ ∧ b < w.heap.size ∧ w.cell? ⟨b, o + k, none⟩ = some (dlV ds[k])) ∧ OS w w.heap.size (ds[k]).D (ds[k]).d :=
  ⟨h.vs k _ (by simp [hk]), h.os _ (List.getElem_mem hk)⟩
/-- the first error of a list of transactions -/
def chkDs : List (List Opr) → Int
  | [] => 0
  | d :: r => if chkD d = 0 then chkDs r else chkD d
theorem chkDs_next {l : List (List Opr)} {k : Nat} (h : k < l.length) : chkDs (l.drop k) = if chkD l[k] = 0 then chkDs (l.drop (k + 1)) else chkD l[k] := by
  rw [List.drop_eq_getElem_cons h]; rfl
theorem chkDs_zero {l : List (List Opr)} : chkDs l = 0 ↔ ∀ d ∈ l, chkD d = 0 := by
  induction l with
  | nil => simp [chkDs]
  | cons o r ih =>
    by_cases h : chkD o = 0
    · simp [chkDs, h, ih]
    · simp [chkDs, h]
end Go.Proofs.Ytpefdonhacmaoaa

set_option linter.unusedVariables false
set_option linter.unusedSimpArgs false
namespace Go.Proofs.Ytpefdonhacmaoaa
open Go.RowKit

/-- a place of a row of one-cell values of one's own is written -/
theorem OR.set_ {w : World} {B : Nat} {t : TypeId} {g c : Nat} {xs : List Value} (h : OR w B t (some ⟨g, 0, none⟩) c xs) {k : Nat} (hk : k < xs.length) (v : Value) : OR (w.setCell ⟨g, k, none⟩ v) B t (some ⟨g, 0, none⟩) c (xs.set k v) := by
  rcases h.2 with ⟨hv, _⟩ | ⟨g', cap', cur, hv, h1, hb, h3, h4, h5, h6⟩
  · cases hv
  · injection hv with e1 _ e3
    injection e1 with e1
    injection e1 with e1 _ _
    subst e1; subst e3
    have hbx : Box w g t cur := hb
    unfold OR
    rw [List.length_set]
    refine ⟨by rw [List.length_set]; omega, .inr ⟨g, c, cur.setIfInBounds k v, rfl, h1, hbx.set k v, h3, h4, by simp [h5], ?_⟩⟩
    rw [Array.toList_setIfInBounds, List.take_set, h6]
theorem OR.frozen_ {w : World} {B : Nat} {t : TypeId} {g c : Nat} {xs : List Value} (h : OR w B t (some ⟨g, 0, none⟩) c xs) (k : Nat) : w.frozen? ⟨g, k, none⟩ = false := by
  rcases h.2 with ⟨hv, _⟩ | ⟨g', cap', cur, hv, h1, hb, _⟩
  · cases hv
  · injection hv with e1 _ e3
    injection e1 with e1
    injection e1 with e1 _ _
    subst e1
    exact Box.frozen (show Box w g t cur from hb) k
end Go.Proofs.Ytpefdonhacmaoaa

set_option linter.unusedVariables false
set_option linter.unusedSimpArgs false
namespace Go.Proofs.Ytpefdonhacmaoaa
open Go.RowKit

/-- the transactions of a list, plainly -/
def ddOf (ds : List Dl) : List (List Opr) := ds.map (·.d)
theorem ddOf_len (ds : List Dl) : (ddOf ds).length = ds.length := by simp [ddOf]
theorem ddOf_get {ds : List Dl} {i : Nat} (h : i < ds.length) : (ddOf ds).getD i [] = ds[i].d := by simp [ddOf, List.getD_eq_getElem?_getD, h]
theorem ddOf_take {ds : List Dl} {k : Nat} (h : k < ds.length) : ddOf (ds.take (k + 1)) = ddOf (ds.take k) ++ [ds[k].d] := by
  unfold ddOf; rw [List.take_succ_eq_append_getElem h, List.map_append]; rfl
theorem getD_set_ (gl : List Bool) {k : Nat} (hk : k < gl.length) (v : Bool) (i : Nat) : (gl.set k v).getD i false = if i = k then v else gl.getD i false := by
  rw [List.getD_eq_getElem?_getD, List.getElem?_set]
  by_cases e : k = i
  · subst e; simp [hk]
  · rw [if_neg e, if_neg fun e' => e e'.symm, List.getD_eq_getElem?_getD]
end Go.Proofs.Ytpefdonhacmaoaa

set_option linter.unusedVariables false
set_option linter.unusedSimpArgs false
namespace Go.Proofs.Ytpefdonhacmaoaa
open Go.RowKit

/-- the block of a slice's row -/
def blk (A : Option Addr) : Option Nat := A.map (·.block)
theorem ownBlock_slice (A : Option Addr) (n c : Nat) : (Value.slice A n c).ownBlock = blk A := by cases A <;> rfl
end Go.Proofs.Ytpefdonhacmaoaa

set_option linter.unusedVariables false
set_option linter.unusedSimpArgs false
namespace Go.Proofs.Ytpefdonhacmaoaa
open Go.RowKit

/-- the cells of a list of operations -/
def opCells : List Opr → List Value
  | [] => []
  | o :: r => .int .i64 o.kind :: .string o.key :: .string o.src :: .int .i64 o.n :: opCells r
theorem opCells_length (l : List Opr) : (opCells l).length = l.length * 4 := by
  induction l with
  | nil => rfl
  | cons p r ih => simp [opCells, ih]; omega
theorem opCells_append (l m : List Opr) : opCells (l ++ m) = opCells l ++ opCells m := by
  induction l with
  | nil => rfl
  | cons p r ih => simp [opCells, ih]
theorem opCells_get (l : List Opr) (i : Nat) (p : Opr) (h : l[i]? = some p) : (opCells l)[i * 4]? = some (.int .i64 p.kind) ∧ (opCells l)[i * 4 + 1]? = some (.string p.key) ∧ (opCells l)[i * 4 + 2]? = some (.string p.src) ∧ (opCells l)[i * 4 + 3]? = some (.int .i64 p.n) := by
  induction l generalizing i with
  | nil => simp at h
  | cons q r ih =>
    cases i with
    | zero => simp at h; subst h; simp [opCells]
    | succ i => simp at h; have := ih i h; rw [show (i + 1) * 4 = i * 4 + 1 + 1 + 1 + 1 by omega]; simpa [opCells] using this
theorem opInfo : (Try.prog.info? 69).map (fun i => (i.zero, i.size, i.bytes)) = some (some (.agg #[.int .i64 0, .string ByteArray.empty, .string ByteArray.empty, .int .i64 0]), 4, 48) := by kernel_rfl
theorem deedInfo : (Try.prog.info? 39).map (fun i => (i.zero, i.size, i.bytes)) = some (some (.agg #[.slice none 0 0]), 1, 24) := by kernel_rfl
/-- a slice of operations that the call itself has made -/
def OO (w : World) (B : Nat) (D : Option Addr) (c : Nat) (d : List Opr) : Prop := w.ownsRow B 69 4 (.slice D d.length c) d.length (opCells d)
section
variable {w w' : World} {B B' : Nat} {D : Option Addr} {c : Nat} {d : List Opr}
theorem OO.mono (h : OO w B D c d) (hB : B' ≤ B) : OO w B' D c d :=
  ⟨h.1, h.2.imp id fun ⟨g, cap, cur, h1, h2, h3⟩ => ⟨g, cap, cur, h1, Nat.le_trans hB h2, h3⟩⟩
theorem OO.below (h : OO w B D c d) (hb : Below w.heap.size w w') : OO w' B D c d :=
  ⟨h.1, h.2.imp id fun ⟨g, cap, cur, h1, h2, h3, h4⟩ => ⟨g, cap, cur, h1, h2, (hb.block g (Array.getElem?_eq_some_iff.1 h3).1).trans h3, h4⟩⟩
theorem OO.nil (w : World) (B : Nat) : OO w B none 0 [] := World.ownsRow_nil w _ _ _
theorem OO.os (h : OO w B D c d) : OS w w.heap.size D d := by
  rcases Nat.eq_zero_or_pos d.length with h0 | h0
  · rw [List.length_eq_zero_iff.1 h0]; exact OS.nil
  · obtain ⟨g, cap, hv, _, hlt⟩ := World.ownsRow.form h h0
    injection hv with a b e
    subst a; subst e
    have hc := h.cells (g := g) rfl
    intro i p hp
    obtain ⟨g1, g2, g3, g4⟩ := opCells_get d i p hp
    have h1 := hc _ _ g1
    have h2 := hc _ _ g2
    have h3 := hc _ _ g3
    have h4 := hc _ _ g4
    rw [Addr.add_lit] at h1 h2 h3 h4
    refine ⟨g, 0, rfl, hlt, h1, ?_, ?_, ?_⟩
    · rw [Nat.add_assoc]; exact h2
    · rw [Nat.add_assoc]; exact h3
    · rw [Nat.add_assoc]; exact h4
theorem OO.lt (h : OO w B D c d) {k : Nat} (hk : blk D = some k) : B ≤ k ∧ k < w.heap.size := World.ownsRow.lt h k (by rw [ownBlock_slice]; exact hk)
theorem OO.some_ (h : OO w B D c d) (hd : d ≠ []) : ∃ k, blk D = some k := by
  obtain ⟨g, cap, hv, _, _⟩ := World.ownsRow.form h (List.length_pos_iff.2 hd)
  injection hv with a b e
  subst a
  exact ⟨g, rfl⟩
end
/-- append of one operation onto such a row -/
theorem app_op (w : World) (base : Nat) (ty : TypeId) (D : Option Addr) (c : Nat) (d : List Opr) (hown : OO w base D c d) (o : Opr) (hl : d.length ≤ 1000) (hbase : base ≤ w.heap.size) :
    ∃ D' c' w', (Builtin.append_ #[37, 37] ty #[.slice D d.length c, .slice (some ⟨w.heap.size, 0, none⟩) 1 1]).run Try.prog (w.alloc (.cells #[.int .i64 o.kind, .string o.key, .string o.src, .int .i64 o.n] 69)) = .ok (.slice D' (d ++ [o]).length c') w' ∧ OO w' base D' c' (d ++ [o]) ∧
      (w.alloc (.cells #[.int .i64 o.kind, .string o.key, .string o.src, .int .i64 o.n] 69)).grownBy w' (blk D) ∧ (∀ B a, B ≤ base → Below B a w → Below B a w') ∧ (blk D' = blk D ∨ blk D' = some (w.heap.size + 1)) := by
  obtain ⟨i0, hi, hz0, hz1, hz2⟩ := info_parts opInfo
  have hc : ∀ j u, (opCells [o])[j]? = some u → (w.alloc (.cells (opCells [o]).toArray 69)).cell? ((⟨w.heap.size, 0, none⟩ : Addr).add j) = some u := by
    intro j u hu
    rw [Addr.add_lit]
    simp only [World.cell?]
    rw [heap_alloc_new]
    simp [hu]
  have hown' : (w.alloc (.cells (opCells [o]).toArray 69)).ownsRow base 69 4 (.slice D d.length c) d.length (opCells d) := World.ownsRow.alloc hown _
  obtain ⟨v', w', hrun, h2, h3, _, h5⟩ := run_append_own_at (P := Try.prog) (w.alloc (.cells (opCells [o]).toArray 69)) base 37 ty 69 i0 _ 4 48 Try.underlying37 hi hz0 hz1 hz2 rfl (by decide) _ d.length (opCells d) hown' ⟨w.heap.size, 0, none⟩ 1 1 (opCells [o]) (by simp [opCells]) hc
    (by intro u hu; simp [opCells] at hu; rcases hu with rfl | rfl | rfl | rfl <;> rfl) (by unfold maxLen; omega) (by omega) (by simp; omega)
  rw [← opCells_append, show d.length + 1 = (d ++ [o]).length by simp] at h2
  obtain ⟨D', c', rfl⟩ : ∃ D' c', v' = .slice D' (d ++ [o]).length c' := by
    rcases h2.2 with ⟨rfl, h0⟩ | ⟨g, cap, cur, rfl, _⟩
    · exact ⟨none, 0, by rw [h0]⟩
    · exact ⟨_, _, rfl⟩
  rw [ownBlock_slice, ownBlock_slice] at h5
  refine ⟨D', c', w', hrun, h2, by rw [ownBlock_slice] at h3; exact h3, fun B a hB hb => ?_, by simpa using h5⟩
  have hb' := hb.alloc (Nat.le_trans hB hbase) (.cells (opCells [o]).toArray 69)
  exact hb'.grown h3 (by simp; omega) fun k hk => Nat.le_trans hB (World.ownsRow.lt hown' k hk).1
end Go.Proofs.Ytpefdonhacmaoaa
