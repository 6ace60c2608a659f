/-
  The document's table grows by one (no body of the program in it).
-/
import Derived.Test.YtgcnbifgnaepnaaDoorPlPl
set_option linter.unusedVariables false
set_option linter.unusedSimpArgs false
namespace Go.Proofs.YtgcnbifgnaepnaaDoor
open Go.RowKit Go.WideMaps Go.Maps

theorem deedInfoL : (Tryd.prog.info? 36).map (fun i => (i.zero, i.size, i.bytes)) = some (some (.agg #[.slice none 0 0]), 1, 24) := by kernel_rfl
/-- the table and the document's table go together -/
def PSt (w1 : World) (g mb : Nat) (wr : World) : Prop := ∃ left dsm gl, TB wr w1.heap.size g (dsm : List Dl).length left ∧ MT wr w1.heap.size mb dsm gl ∧ Lk left (ddOf dsm) (goneF gl) ∧ Below w1.heap.size w1 wr
theorem getD_snoc (gl : List Bool) (i : Nat) : (gl ++ [false]).getD i false = gl.getD i false := by
  rw [List.getD_eq_getElem?_getD, List.getD_eq_getElem?_getD, List.getElem?_append]
  split
  · rfl
  · rename_i h
    rw [List.getElem?_eq_none (show gl.length ≤ i by omega)]
    cases hi : i - gl.length <;> simp
theorem OS.back {w w' : World} {B : Nat} {A : Option Addr} {l : List Opr} (h : OS w' B A l) (hb : Below B w w') : OS w B A l := fun i p hp => by
  obtain ⟨b, o, e, hlt, h1, h2, h3, h4⟩ := h i p hp
  exact ⟨b, o, e, hlt, (hb.cell hlt).symm.trans h1, (hb.cell hlt).symm.trans h2, (hb.cell hlt).symm.trans h3, (hb.cell hlt).symm.trans h4⟩
theorem VS.one_ {w : World} {b : Nat} {t : TypeId} {v : Value} (h : Box w b t #[v]) : VS w (some ⟨b, 0, none⟩) [v] := fun i u hu => by
  cases i with
  | zero => simp at hu; subst hu; exact ⟨b, 0, rfl, h.lt, h.cell 0 rfl⟩
  | succ i => simp at hu
/-- what is at hand before the two rows grow -/
structure Pre (w1 : World) (g mb gd : Nat) (left : List En) (dsm : List Dl) (gl : List Bool) (Am : Option Addr) (cm : Nat) (Gm : Option Addr) (cgm : Nat) (x : Dl) (W : World) : Prop where
  tb : TB W w1.heap.size g (dsm.length + 1) left
  mt : MTx W w1.heap.size mb dsm gl Am cm Gm cgm
  bx : Box W gd 36 #[.slice x.D x.d.length x.c]
  ap : Am.map (·.block) ≠ some gd
  be : Below w1.heap.size w1 W
theorem Pre.below {w1 : World} {g mb gd : Nat} {left : List En} {dsm : List Dl} {gl : List Bool} {Am : Option Addr} {cm : Nat} {Gm : Option Addr} {cgm : Nat} {x : Dl} {W W' : World} (h : Pre w1 g mb gd left dsm gl Am cm Gm cgm x W) (hb : Below W.heap.size W W') : Pre w1 g mb gd left dsm gl Am cm Gm cgm x W' :=
  ⟨h.tb.below hb, h.mt.below hb, h.bx.below hb, h.ap, h.be.trans (hb.mono h.be.size)⟩
/-- between the two -/
structure Mid (w1 : World) (g mb gd : Nat) (left : List En) (dsm : List Dl) (gl : List Bool) (Am : Option Addr) (cm : Nat) (Gm : Option Addr) (cgm : Nat) (x : Dl) (A' : Option Addr) (c' : Nat) (W : World) : Prop where
  tb : TB W w1.heap.size g (dsm.length + 1) left
  box : Box W mb 31 #[.slice Am dsm.length cm, .slice Gm gl.length cgm]
  deeds : OR W w1.heap.size 36 A' c' ((dsm ++ [x]).map dlV)
  gone : OR W w1.heap.size 4 Gm cgm (gl.map Value.bool)
  bx : Box W gd 36 #[.slice x.D x.d.length x.c]
  be : Below w1.heap.size w1 W
theorem Mid.below {w1 : World} {g mb gd : Nat} {left : List En} {dsm : List Dl} {gl : List Bool} {Am : Option Addr} {cm : Nat} {Gm : Option Addr} {cgm : Nat} {x : Dl} {A' : Option Addr} {c' : Nat} {W W' : World} (h : Mid w1 g mb gd left dsm gl Am cm Gm cgm x A' c' W) (hb : Below W.heap.size W W') : Mid w1 g mb gd left dsm gl Am cm Gm cgm x A' c' W' :=
  ⟨h.tb.below hb, h.box.below hb, h.deeds.below hb, h.gone.below hb, h.bx.below hb, h.be.trans (hb.mono h.be.size)⟩
section
variable {w1 : World} {g mb gd : Nat} {left : List En} {dsm : List Dl} {gl : List Bool} {Am : Option Addr} {cm : Nat} {Gm : Option Addr} {cgm : Nat} {x : Dl} {W : World}
theorem ob_ (A : Option Addr) (n c : Nat) : (Value.slice A n c).ownBlock = A.map (·.block) := by cases A <;> rfl
theorem Pre.grow (h : Pre w1 g mb gd left dsm gl Am cm Gm cgm x W) (S : Option Addr) (hS : VS W S [dlV x]) :
    ∃ A' c' W', (Builtin.append_ #[23, 23] 23 #[.slice Am dsm.length cm, .slice S 1 1]).run Tryd.prog W = .ok (.slice A' (dsm.length + 1) c') W' ∧ Mid w1 g mb gd left dsm gl Am cm Gm cgm x A' c' W' ∧ ∀ b cs, Box W b 4 cs → Box W' b 4 cs := by
  have hm := h.mt.most
  obtain ⟨A', c', W', hrun, ho, hg⟩ := app_srcS (P := Tryd.prog) Tryd.underlying23 deedInfoL rfl W w1.heap.size 23 Am cm _ h.mt.deeds S 1 [dlV x] hS (by simp [dlV, Value.oneCell']) (by simp; omega) (by decide) h.be.size
  rw [ob_, List.length_map] at *
  have hl : ((dsm.map dlV) ++ [dlV x]) = (dsm ++ [x]).map dlV := by simp
  rw [hl] at ho hrun
  rw [List.length_map, List.length_append] at hrun
  have hty : ∀ b, Am.map (·.block) = some b → Ty W b 36 := fun b hb => own_ty h.mt.deeds (by rw [ob_]; exact hb)
  have hlow : ∀ b, Am.map (·.block) = some b → w1.heap.size ≤ b := fun b hb => (World.ownsRow.lt h.mt.deeds b (by rw [ob_]; exact hb)).1
  refine ⟨A', c', W', hrun, ⟨h.tb.grown hg fun b hb => ⟨_, hty b hb, by decide, by decide, by decide, by decide⟩, ?_, ho, ?_, ?_, h.be.grown hg h.be.size hlow⟩, fun b cs hB => hB.grown hg fun e => absurd ((hty b e.symm).inj hB.ty) (by decide)⟩
  · refine h.mt.box.grown hg fun e => ?_
    exact absurd ((hty mb e.symm).inj h.mt.box.ty) (by decide)
  · refine h.mt.gone.kept hg ?_
    cases hb : Am.map (·.block) with
    | none => exact none_or _
    | some b => exact own_ne h.mt.gone (hty b hb) (by decide)
  · exact h.bx.grown hg fun e => h.ap e.symm
theorem Mid.grow {A' : Option Addr} {c' : Nat} (h : Mid w1 g mb gd left dsm gl Am cm Gm cgm x A' c' W) (hgl : gl.length = dsm.length) (hm : dsm.length < 60) (hlm : w1.heap.size ≤ mb) (hgood : ∀ y ∈ dsm ++ [x], OS w1 w1.heap.size y.D y.d ∧ chkD y.d = 0) (hLk : Lk left (ddOf (dsm ++ [x])) (goneF gl)) (S : Option Addr) (hS : VS W S [.bool false]) :
    ∃ G' cg' W', (Builtin.append_ #[29, 29] 29 #[.slice Gm gl.length cgm, .slice S 1 1]).run Tryd.prog W = .ok (.slice G' (gl.length + 1) cg') W' ∧ Box W' mb 31 #[.slice Am dsm.length cm, .slice Gm gl.length cgm] ∧ Box W' gd 36 #[.slice x.D x.d.length x.c] ∧ mb ≠ gd ∧
      PSt w1 g mb ((W'.setCell ⟨mb, 0, none⟩ (.slice A' (dsm.length + 1) c')).setCell ⟨mb, 1, none⟩ (.slice G' (gl.length + 1) cg')) := by
  obtain ⟨G', cg', W', hrun, ho, hg⟩ := app_srcS (P := Tryd.prog) Tryd.underlying29 boolInfo rfl W w1.heap.size 29 Gm cgm _ h.gone S 1 [.bool false] hS (by simp [Value.oneCell']) (by simp; omega) (by decide) h.be.size
  rw [ob_, List.length_map] at *
  have hl : ((gl.map Value.bool) ++ [Value.bool false]) = (gl ++ [false]).map Value.bool := by simp
  rw [hl] at ho hrun
  rw [List.length_map, List.length_append] at hrun
  have hty : ∀ b, Gm.map (·.block) = some b → Ty W b 4 := fun b hb => own_ty h.gone (by rw [ob_]; exact hb)
  have hlow : ∀ b, Gm.map (·.block) = some b → w1.heap.size ≤ b := fun b hb => (World.ownsRow.lt h.gone b (by rw [ob_]; exact hb)).1
  have hbox : Box W' mb 31 #[.slice Am dsm.length cm, .slice Gm gl.length cgm] := h.box.grown hg fun e => absurd ((hty mb e.symm).inj h.box.ty) (by decide)
  have hbx : Box W' gd 36 #[.slice x.D x.d.length x.c] := h.bx.grown hg fun e => absurd ((hty gd e.symm).inj h.bx.ty) (by decide)
  have hne : mb ≠ gd := fun e => by
    have h1 := h.box.ty
    rw [e] at h1
    exact absurd (h1.inj h.bx.ty) (by decide)
  have htb : TB W' w1.heap.size g (dsm.length + 1) left := h.tb.grown hg fun b hb => ⟨_, hty b hb, by decide, by decide, by decide, by decide⟩
  have hdd : OR W' w1.heap.size 36 A' c' ((dsm ++ [x]).map dlV) := h.deeds.kept hg (by
    cases hb : Gm.map (·.block) with
    | none => exact none_or _
    | some b => exact own_ne h.deeds (hty b hb) (by decide))
  have hbe := h.be.grown hg h.be.size hlow
  have hg1 := grown_setCell W' ⟨mb, 0, none⟩ (.slice A' (dsm.length + 1) c')
  have hg2 := grown_setCell (W'.setCell ⟨mb, 0, none⟩ (.slice A' (dsm.length + 1) c')) ⟨mb, 1, none⟩ (.slice G' (gl.length + 1) cg')
  have hg3 := grown_trans hg1 hg2
  have hbe3 := hbe.grown hg3 hbe.size fun b hb => by injection hb with hb; subst hb; exact hlm
  refine ⟨G', cg', W', hrun, hbox, hbx, hne, left, dsm ++ [x], gl ++ [false], ?_, ⟨A', c', G', cg', ?_, hlm, ?_, ?_, by simp [hgl], by simp; omega, fun y hy => ⟨(hgood y hy).1.below hbe3, (hgood y hy).2⟩⟩, ?_, hbe3⟩
  · rw [List.length_append]
    exact htb.grown hg3 fun b hb => by injection hb with hb; subst hb; exact ⟨_, hbox.ty, by decide, by decide, by decide, by decide⟩
  · have := (hbox.set 0 (.slice A' (dsm.length + 1) c')).set 1 (.slice G' (gl.length + 1) cg')
    simpa using this
  · exact hdd.kept hg3 (own_ne hdd hbox.ty (by decide))
  · exact World.ownsRow.kept ho hg3 (own_ne ho hbox.ty (by decide))
  · rw [show goneF (gl ++ [false]) = goneF gl from funext fun i => getD_snoc gl i]; exact hLk
end
/-- the cells that the two rows' growth reads -/
def Sx (mb gd : Nat) (vA vG vD : Value) (w : World) : Prop := w.cell? ⟨mb, 0, none⟩ = some vA ∧ w.cell? ⟨mb, 1, none⟩ = some vG ∧ w.cell? ⟨gd, 0, none⟩ = some vD
theorem sx_of {w : World} {mb gd : Nat} {t u : TypeId} {vA vG vD : Value} (h : Box w mb t #[vA, vG]) (k : Box w gd u #[vD]) : Sx mb gd vA vG vD w := ⟨h.cell 0 rfl, h.cell 1 rfl, k.cell 0 rfl⟩
end Go.Proofs.YtgcnbifgnaepnaaDoor
