/-
  Partition maps of the call's own; a map while it is made (no body of the program in it).
-/
import Derived.Test.YtoelnhnbefkfoaaDoorShFind
import Derived.Test.YtoelnhnbefkfoaaDoorTy
set_option linter.unusedVariables false
set_option linter.unusedSimpArgs false
namespace Go.Proofs.YtoelnhnbefkfoaaDoor
open Go.RowKit

/-- a map of the call's own -/
structure MO (w : World) (B : Nat) (m : Mp) : Prop where
  cuts : OR w B 9 m.A m.ca (m.cs.map Value.string)
  own : OR w B 3 m.O m.co (m.os.map (Value.int .i64))
theorem VS.is_int {w : World} {A : Option Addr} {l : List Int} (h : VS w A (l.map (Value.int .i64))) : IS w A l := fun i z hz => h i (.int .i64 z) (by rw [List.getElem?_map, hz]; rfl)
theorem IS.vs {w : World} {A : Option Addr} {l : List Int} (h : IS w A l) : VS w A (l.map (Value.int .i64)) := fun i v hv => by
  rw [List.getElem?_map] at hv
  cases hz : l[i]? with
  | none => rw [hz] at hv; cases hv
  | some z => rw [hz] at hv; injection hv with hv; subst hv; exact h i z hz
theorem MO.ms {w : World} {B : Nat} {m : Mp} (h : MO w B m) : MS w m := by
  obtain ⟨c1, c2, c3, _⟩ := h.cuts.caps
  obtain ⟨d1, d2, d3, _⟩ := h.own.caps
  rw [List.length_map] at c1 d1
  exact ⟨h.cuts.vs, h.own.vs.is_int, c1, d1, c2, d2, c3, d3⟩
theorem MO.below {w w' : World} {B : Nat} {m : Mp} (h : MO w B m) (hb : Below w.heap.size w w') : MO w' B m := ⟨h.cuts.below hb, h.own.below hb⟩
theorem MO.mono {w : World} {B B' : Nat} {m : Mp} (h : MO w B m) (hB : B' ≤ B) : MO w B' m := ⟨h.cuts.mono hB, h.own.mono hB⟩
/-- no map -/
def noM : Mp := ⟨none, 0, [], none, 0, []⟩
theorem noM_mo (w : World) (B : Nat) : MO w B noM := ⟨OR.nil _ _ _, OR.nil _ _ _⟩
theorem grown_set (w : World) (g i : Nat) (v : Value) : w.grownBy (w.setCell ⟨g, i, none⟩ v) (some g) := ⟨rfl, rfl, rfl, by simp [World.setCell], fun j _ hne => Below.heap_setCell w _ _ j (fun e => hne (by rw [e]))⟩
theorem OR.set {w : World} {B g i : Nat} {t u : TypeId} {A : Option Addr} {c : Nat} {xs : List Value} {v : Value} (h : OR w B t A c xs) (ht : Ty w g u) (hne : t ≠ u) : OR (w.setCell ⟨g, i, none⟩ v) B t A c xs := World.ownsRow.kept h (grown_set w g i v) (own_ne h ht hne)
theorem MO.set {w : World} {B g i : Nat} {m : Mp} {v : Value} (h : MO w B m) (ht : Ty w g 25) : MO (w.setCell ⟨g, i, none⟩ v) B m := ⟨h.cuts.set ht (by decide), h.own.set ht (by decide)⟩
theorem below_set {a w : World} {g i : Nat} {v : Value} (h : Below a.heap.size a w) (hg : a.heap.size ≤ g) : Below a.heap.size a (w.setCell ⟨g, i, none⟩ v) := h.grown (grown_set w g i v) h.size (fun b hb => by injection hb with hb; subst hb; exact hg)
/-- what is handed back: a map and an error -/
def RetMr (w : World) (r : (List ByteArray × List Int) × Int) (e : Ending) (w' : World) : Prop :=
  ∃ n : Mp, e = .returned (.tuple #[.agg #[.slice n.A n.cs.length n.ca, .slice n.O n.os.length n.co], .int .i64 r.2]) ∧ n.cs = r.1.1 ∧ n.os = r.1.2 ∧ MO w' w.heap.size n ∧ Below w.heap.size w w'
/-- a map while it is made: the argument's box, the result's, its own -/
structure Pb (w : World) (g gr gp : Nat) (m n : Mp) (wr : World) : Prop where
  mh : MH w g m wr
  ms0 : MS w m
  res : Box wr gr 25 #[.slice none 0 0, .slice none 0 0]
  box : Box wr gp 25 #[.slice n.A n.cs.length n.ca, .slice n.O n.os.length n.co]
  mo : MO wr w.heap.size n
  low : w.heap.size ≤ g
  lr : g < gr
  lp : gr < gp
section
variable {w wr w' : World} {g gr gp : Nat} {m n : Mp}
theorem Pb.below (h : Pb w g gr gp m n wr) (hb : Below wr.heap.size wr w') : Pb w g gr gp m n w' := ⟨h.mh.below hb, h.ms0, h.res.below hb, h.box.below hb, h.mo.below hb, h.low, h.lr, h.lp⟩
/-- a cut is added -/
theorem Pb.addC (h : Pb w g gr gp m n wr) (hl : n.cs.length ≤ 1000) (c : ByteArray) :
    ∃ A' ca' a1, (Builtin.append_ #[22, 22] 22 #[.slice n.A n.cs.length n.ca, .slice (some ⟨wr.heap.size, 0, none⟩) 1 1]).run Tryd.prog (wr.alloc (.cells #[.string c] 9)) = .ok (.slice A' (n.cs.length + 1) ca') a1 ∧
      Box a1 gp 25 #[.slice n.A n.cs.length n.ca, .slice n.O n.os.length n.co] ∧
      Pb w g gr gp m ⟨A', ca', n.cs ++ [c], n.O, n.co, n.os⟩ (a1.setCell ⟨gp, 0, none⟩ (.slice A' (n.cs.length + 1) ca')) := by
  obtain ⟨A', ca', a1, hrun, hor1, hbl1, hgr1, _⟩ := app_row (P := Tryd.prog) Tryd.underlying22 strInfo rfl wr w.heap.size 22 n.A n.ca _ h.mo.cuts [.string c] (by simp [Value.oneCell']) (by rw [List.length_map]; simp only [List.length_singleton]; omega) (by decide) h.mh.be.size
  have hal1 := (Below.refl wr.heap.size wr).alloc (Nat.le_refl _) (.cells #[.string c] 9)
  have h1 := h.below hal1
  have hX1 : n.cs.map Value.string ++ [Value.string c] = (n.cs ++ [c]).map Value.string := by simp
  rw [hX1] at hrun hor1
  rw [List.length_map, List.length_map, List.length_append, List.length_singleton] at hrun
  have hcty : ∀ b, (Value.slice n.A (n.cs.map Value.string).length n.ca).ownBlock = some b → Ty (wr.alloc (.cells #[.string c] 9)) b 9 := fun b hb => own_ty h1.mo.cuts hb
  have hbx1 := h1.box.grown hgr1 fun e => absurd ((hcty _ e.symm).inj h1.box.ty) (by decide)
  have hrs1 := h1.res.grown hgr1 fun e => absurd ((hcty _ e.symm).inj h1.res.ty) (by decide)
  have hmb1 := h1.mh.x0.grown hgr1 fun e => absurd ((hcty _ e.symm).inj h1.mh.x0.ty) (by decide)
  have how1 : OR a1 w.heap.size 3 n.O n.co (n.os.map (Value.int .i64)) := World.ownsRow.kept h1.mo.own hgr1 (rows_ne h1.mo.own h1.mo.cuts (by decide))
  have hb1 := hbl1 w.heap.size w (Nat.le_refl _) h.mh.be
  have hb2 : Below w.heap.size w (a1.setCell ⟨gp, 0, none⟩ (.slice A' (n.cs.length + 1) ca')) := below_set hb1 (by have := h.low; have := h.lr; have := h.lp; omega)
  refine ⟨A', ca', a1, hrun, hbx1, ⟨hmb1.other (by have := h.lr; have := h.lp; show gp ≠ g; omega) _, h.ms0.below hb2, hb2⟩, h.ms0, hrs1.other (by have := h.lp; show gp ≠ gr; omega) _, ?_, ⟨hor1.set hbx1.ty (by decide), how1.set hbx1.ty (by decide)⟩, h.low, h.lr, h.lp⟩
  simpa using hbx1.set 0 (.slice A' (n.cs.length + 1) ca')
/-- an owner is added -/
theorem Pb.addO (h : Pb w g gr gp m n wr) (hl : n.os.length ≤ 1000) (z : Int) :
    ∃ O' co' a1, (Builtin.append_ #[23, 23] 23 #[.slice n.O n.os.length n.co, .slice (some ⟨wr.heap.size, 0, none⟩) 1 1]).run Tryd.prog (wr.alloc (.cells #[.int .i64 z] 3)) = .ok (.slice O' (n.os.length + 1) co') a1 ∧
      Box a1 gp 25 #[.slice n.A n.cs.length n.ca, .slice n.O n.os.length n.co] ∧
      Pb w g gr gp m ⟨n.A, n.ca, n.cs, O', co', n.os ++ [z]⟩ (a1.setCell ⟨gp, 1, none⟩ (.slice O' (n.os.length + 1) co')) := by
  obtain ⟨O', co', a1, hrun, hor1, hbl1, hgr1, _⟩ := app_row (P := Tryd.prog) Tryd.underlying23 intInfo rfl wr w.heap.size 23 n.O n.co _ h.mo.own [.int .i64 z] (by simp [Value.oneCell']) (by rw [List.length_map]; simp only [List.length_singleton]; omega) (by decide) h.mh.be.size
  have hal1 := (Below.refl wr.heap.size wr).alloc (Nat.le_refl _) (.cells #[.int .i64 z] 3)
  have h1 := h.below hal1
  have hX1 : n.os.map (Value.int .i64) ++ [Value.int .i64 z] = (n.os ++ [z]).map (Value.int .i64) := by simp
  rw [hX1] at hrun hor1
  rw [List.length_map, List.length_map, List.length_append, List.length_singleton] at hrun
  have hcty : ∀ b, (Value.slice n.O (n.os.map (Value.int .i64)).length n.co).ownBlock = some b → Ty (wr.alloc (.cells #[.int .i64 z] 3)) b 3 := fun b hb => own_ty h1.mo.own hb
  have hbx1 := h1.box.grown hgr1 fun e => absurd ((hcty _ e.symm).inj h1.box.ty) (by decide)
  have hrs1 := h1.res.grown hgr1 fun e => absurd ((hcty _ e.symm).inj h1.res.ty) (by decide)
  have hmb1 := h1.mh.x0.grown hgr1 fun e => absurd ((hcty _ e.symm).inj h1.mh.x0.ty) (by decide)
  have how1 : OR a1 w.heap.size 9 n.A n.ca (n.cs.map Value.string) := World.ownsRow.kept h1.mo.cuts hgr1 (rows_ne h1.mo.cuts h1.mo.own (by decide))
  have hb1 := hbl1 w.heap.size w (Nat.le_refl _) h.mh.be
  have hb2 : Below w.heap.size w (a1.setCell ⟨gp, 1, none⟩ (.slice O' (n.os.length + 1) co')) := below_set hb1 (by have := h.low; have := h.lr; have := h.lp; omega)
  refine ⟨O', co', a1, hrun, hbx1, ⟨hmb1.other (by have := h.lr; have := h.lp; show gp ≠ g; omega) _, h.ms0.below hb2, hb2⟩, h.ms0, hrs1.other (by have := h.lp; show gp ≠ gr; omega) _, ?_, ⟨how1.set hbx1.ty (by decide), hor1.set hbx1.ty (by decide)⟩, h.low, h.lr, h.lp⟩
  simpa using hbx1.set 1 (.slice O' (n.os.length + 1) co')
end
/-- the result's box is written -/
theorem res_set {w wr : World} {gr : Nat} {a b : Value} {n : Mp} (hr : Box wr gr 25 #[a, b]) (hl : w.heap.size ≤ gr) (hn : MO wr w.heap.size n) (hb : Below w.heap.size w wr) (x y : Value) :
    MO ((wr.setCell ⟨gr, 0, none⟩ x).setCell ⟨gr, 1, none⟩ y) w.heap.size n ∧ Below w.heap.size w ((wr.setCell ⟨gr, 0, none⟩ x).setCell ⟨gr, 1, none⟩ y) :=
  ⟨(hn.set hr.ty).set (hr.set 0 x).ty, below_set (below_set hb hl) hl⟩
end Go.Proofs.YtoelnhnbefkfoaaDoor
