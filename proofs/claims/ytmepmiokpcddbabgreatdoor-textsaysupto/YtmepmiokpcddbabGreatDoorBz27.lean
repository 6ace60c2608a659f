/-
  roref.ReadDeed: the transaction while it is read; the search of a sign, plainly.
  The cells of an operation that was handed over (no program in it).
-/
import Derived.Test.YtmepmiokpcddbabGreatDoorBz26
import Derived.Test.YtmepmiokpcddbabGreatDoorBz3
import Derived.OwnWalk
set_option linter.unusedVariables false
set_option linter.unusedSimpArgs false
namespace Go.Proofs.YtmepmiokpcddbabGreatDoor
open Go.RowKit
open Go.Lib hiding intOf

/-- the transaction while it is read -/
structure Rz (w : World) (gr gm B : Nat) (D : Option Addr) (c : Nat) (d : List Opr) (wr : World) : Prop where
  box : Box wr gm 24 #[.slice D d.length c]
  res : Box wr gr 24 #[.slice none 0 0]
  oo : OO wr B D c d
  wB : w.heap.size ≤ B
  BB : B ≤ wr.heap.size
  ne : gm ≠ gr
  lowm : w.heap.size ≤ gm
  lowr : w.heap.size ≤ gr
  bel : Below w.heap.size w wr
section
variable {w wr w' : World} {gr gm B : Nat} {D : Option Addr} {c : Nat} {d : List Opr}
theorem Rz.below (h : Rz w gr gm B D c d wr) (hb : Below wr.heap.size wr w') : Rz w gr gm B D c d w' :=
  ⟨h.box.below hb, h.res.below hb, h.oo.below hb, h.wB, Nat.le_trans h.BB hb.size, h.ne, h.lowm, h.lowr, h.bel.trans (hb.mono h.bel.size)⟩
set_option maxRecDepth 100000 in
theorem Rz.add (h : Rz w gr gm B D c d wr) (o : Opr) (hl : d.length ≤ 5000000000) :
    ∃ D' c' a1, (Builtin.append_ #[22, 22] 22 #[.slice D d.length c, .slice (some ⟨wr.heap.size, 0, none⟩) 1 1]).run Tryz.prog (wr.alloc (.cells #[.int .i64 o.kind, .string o.key, .string o.src, .int .i64 o.n] 93)) = .ok (.slice D' (d ++ [o]).length c') a1 ∧
      Box a1 gm 24 #[.slice D d.length c] ∧ Rz w gr gm B D' c' (d ++ [o]) (a1.setCell ⟨gm, 0, none⟩ (.slice D' (d ++ [o]).length c')) := by
  obtain ⟨D', c', a1, hrun, ho1, hgr1, hbl1, _⟩ := app_op wr B 22 D c d h.oo o hl h.BB
  have hal1 := (Below.refl wr.heap.size wr).alloc (Nat.le_refl _) (.cells #[.int .i64 o.kind, .string o.key, .string o.src, .int .i64 o.n] 93)
  have h1 := h.below hal1
  have hcty : ∀ b, blk D = some b → Ty (wr.alloc (.cells #[.int .i64 o.kind, .string o.key, .string o.src, .int .i64 o.n] 93)) b 93 := fun b hb => own_ty h1.oo (by rw [ownBlock_slice]; exact hb)
  have hbx1 := h1.box.grown hgr1 fun e => absurd ((hcty _ e.symm).inj h1.box.ty) (by decide)
  have hrs1 := h1.res.grown hgr1 fun e => absurd ((hcty _ e.symm).inj h1.res.ty) (by decide)
  have hb1 := hbl1 w.heap.size w h.wB h.bel
  have hS : B ≤ a1.heap.size := Nat.le_trans h1.BB hgr1.size
  refine ⟨D', c', a1, hrun, hbx1, ?_⟩
  have hT := hbx1.set 0 (.slice D' (d ++ [o]).length c')
  refine ⟨?_, hrs1.other h.ne _, ho1.set1 hbx1.ty (by decide), h.wB, by simpa [World.setCell] using hS, h.ne, h.lowm, h.lowr, below_set1 hb1 h.lowm⟩
  simpa using hT
end
/-- what ReadDeed of the document's answer hands back, while the words are read: the rest, whether there is more -/
def RzI (w : World) (gr gm B N : Nat) (L : List UInt8) (s m : Value) (wr : World) : Prop :=
  ∃ (rest : ByteArray) (more : Bool) (D : Option Addr) (c : Nat) (d : List Opr) (W : List (List UInt8)), s = .string rest ∧ m = .bool more ∧ Rz w gr gm B D c d wr ∧ prOs [] (spl 59 L) = prOs d W ∧
    W = (if more then spl 59 rest.data.toList else []) ∧ d.length + rest.size ≤ N + (if more then 0 else 1)
/-- no sign before place k: the search goes on from there -/
theorem sgn_step {l : List UInt8} : ∀ (k : Nat) (h : k ≤ l.length), (∀ b ∈ l.take k, signs.contains b = false) →
    (sgn l = match sgn (l.drop k) with
      | none => none
      | some x => some (l.take k ++ x.1, x.2.1, x.2.2)) := by
  induction l with
  | nil => intro k h _; rw [show k = 0 by simpa using h]; rfl
  | cons b l ih =>
    intro k h hb
    cases k with
    | zero => rw [List.drop_zero]; cases sgn (b :: l) <;> rfl
    | succ k =>
      rw [sgn, if_neg (by rw [hb b (by simp)]; decide), List.drop_succ_cons, ih k (by simpa using h) (fun d hd => hb d (by rw [List.take_succ_cons]; exact List.mem_cons_of_mem _ hd))]
      cases sgn (l.drop k) <;> rfl
theorem sgn_end {l : List UInt8} (hb : ∀ b ∈ l, signs.contains b = false) : sgn l = none := by
  induction l with
  | nil => rfl
  | cons b l ih => rw [sgn, if_neg (by rw [hb b (by simp)]; decide), ih fun d hd => hb d (List.mem_cons_of_mem _ hd)]; rfl
theorem sgn_here {l : List UInt8} {k : Nat} (h : k < l.length) (hb : ∀ b ∈ l.take k, signs.contains b = false) (hc : signs.contains l[k] = true) : sgn l = some (l.take k, l[k], l.drop (k + 1)) := by
  have h1 := sgn_of (k := l.take k) (r := l.drop (k + 1)) hc hb
  rwa [← List.drop_eq_getElem_cons h, List.take_append_drop] at h1
end Go.Proofs.YtmepmiokpcddbabGreatDoor

set_option linter.unusedVariables false
set_option linter.unusedSimpArgs false
namespace Go.Proofs.YtmepmiokpcddbabGreatDoor
open Go.RowKit

/-- the cells of an operation that was handed over -/
structure OpAt (w : World) (b : Nat) (o : Opr) : Prop where
  lt : b < w.heap.size
  kind : w.cell? ⟨b, 0, none⟩ = some (.int .i64 o.kind)
  key : w.cell? ⟨b, 1, none⟩ = some (.string o.key)
  src : w.cell? ⟨b, 2, none⟩ = some (.string o.src)
  n : w.cell? ⟨b, 3, none⟩ = some (.int .i64 o.n)
theorem OpAt.below {w w' : World} {b : Nat} {o : Opr} (h : OpAt w b o) (hb : Below w.heap.size w w') : OpAt w' b o :=
  ⟨Nat.lt_of_lt_of_le h.lt hb.size, (hb.cell (p := ⟨b, 0, none⟩) h.lt).trans h.kind, (hb.cell (p := ⟨b, 1, none⟩) h.lt).trans h.key, (hb.cell (p := ⟨b, 2, none⟩) h.lt).trans h.src, (hb.cell (p := ⟨b, 3, none⟩) h.lt).trans h.n⟩
theorem OpAt.drew {w : World} {b : Nat} {o : Opr} (h : OpAt w b o) : OpAt w.drew b o := ⟨h.lt, h.kind, h.key, h.src, h.n⟩
theorem OpAt.new (w : World) (o : Opr) (t : TypeId) : OpAt (w.alloc (.cells #[.int .i64 o.kind, .string o.key, .string o.src, .int .i64 o.n] t)) w.heap.size o :=
  ⟨by simp, by simp, by simp, by simp, by simp⟩

theorem OpAt.grown {w w' : World} {b : Nat} {o : Opr} (h : OpAt w b o) {row : Option Nat} (hg : w.grownBy w' row) (hne : some b ≠ row) : OpAt w' b o :=
  ⟨Nat.lt_of_lt_of_le h.lt hg.size, hg.cell h.kind hne, hg.cell h.key hne, hg.cell h.src hne, hg.cell h.n hne⟩
end Go.Proofs.YtmepmiokpcddbabGreatDoor
