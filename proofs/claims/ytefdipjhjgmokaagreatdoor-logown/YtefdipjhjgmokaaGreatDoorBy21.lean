/-
  (*parts.Parts).Do.
  While a function makes a map of a map: its argument, its result (no body of the program in it).
  parts.clone.
  Lists of keys: read and write sets, sorted and without duplicates (no program in it).
-/
import Derived.Test.YtefdipjhjgmokaaGreatDoorBy18
import Derived.Test.YtefdipjhjgmokaaGreatDoorBy19
import Derived.Test.YtefdipjhjgmokaaGreatDoorBy20
import Derived.Deep.RegionHeld3
import Derived.Test.YtefdipjhjgmokaaGreatDoorBy7
import Derived.Test.YtefdipjhjgmokaaGreatDoorBy2
import Derived.Test.YtefdipjhjgmokaaGreatDoorBy14
import Derived.Test.YtefdipjhjgmokaaGreatDoorBy1
import Derived.Lib.SlicesCompact
set_option linter.unusedVariables false
set_option linter.unusedSimpArgs false
namespace Go.Proofs.YtefdipjhjgmokaaGreatDoor
open Go.RowKit

/-- the parts are written anew -/
theorem PB.fill {w w5 : World} {B g : Nat} {m : Mp} {l l' : List Pr} {q q' : Dv} (h : PB w5 B g m l q) (hB : B ≤ w.heap.size) (hbe : Below w.heap.size w w5) (hq : q'.Own w5 w.heap.size m.cs m.os l' 4) (hl : Ok l') :
    PB ((((w5.setCell ⟨g, 2, none⟩ (q'.s m.cs m.os l' 0)).setCell ⟨g, 3, none⟩ (q'.s m.cs m.os l' 1)).setCell ⟨g, 4, none⟩ (q'.s m.cs m.os l' 2)).setCell ⟨g, 5, none⟩ (q'.s m.cs m.os l' 3)) B g m l' q' ∧
      w.grownBy ((((w5.setCell ⟨g, 2, none⟩ (q'.s m.cs m.os l' 0)).setCell ⟨g, 3, none⟩ (q'.s m.cs m.os l' 1)).setCell ⟨g, 4, none⟩ (q'.s m.cs m.os l' 2)).setCell ⟨g, 5, none⟩ (q'.s m.cs m.os l' 3)) (some g) := by
  have hgr := grown_box (w := w5) (g := g) [(2, q'.s m.cs m.os l' 0), (3, q'.s m.cs m.os l' 1), (4, q'.s m.cs m.os l' 2), (5, q'.s m.cs m.os l' 3)]
  simp only [List.foldl] at hgr
  have b4 := (((h.box.set 2 (q'.s m.cs m.os l' 0)).set 3 (q'.s m.cs m.os l' 1)).set 4 (q'.s m.cs m.os l' 2)).set 5 (q'.s m.cs m.os l' 3)
  exact ⟨⟨b4, h.mo.kept h.box.ty (by decide) (by decide) hgr, (hq.mono hB).kept h.box.ty (by decide) hgr, h.okm, hl, h.low⟩, grown_trans (grown_below hbe _) hgr⟩
/-- what Do hands back, and makes -/
def RetDo (w : World) (B g : Nat) (m : Mp) (r : VF × Bool) (e : Ending) (w' : World) : Prop :=
  e = .returned (.tuple #[.bool r.2, .int .i64 0]) ∧ ∃ l' q', PB w' B g m l' q' ∧ valOf l' = r.1 ∧ w.grownBy w' (some g)

set_option maxHeartbeats 2000000 in
set_option maxRecDepth 100000 in
theorem do_ok (B g : Nat) (m : Mp) (l : List Pr) (q : Dv) (D : Option Addr) (cd : Nat) (d : List Opr) (w : World) (h : PB w B g m l q) (hD : OS w w.heap.size D d) (hd : chkD d = 0) :
    Calls Tryz.prog 143 #[.pointer (some ⟨g, 0, none⟩), .agg #[.slice D d.length cd]] w (RetDo w B g m (doneV (valOf l) d)) := by
  have hb0 := (Below.refl w.heap.size w).alloc (Nat.le_refl _) (.cells #[.slice D d.length cd] 40)
  have y := Box.new w 40 #[.slice D d.length cd]
  have hP := h.below hb0
  have hD0 := hD.go hb0
  have hB : B ≤ w.heap.size := Nat.le_of_lt (Nat.lt_of_le_of_lt h.low h.box.lt)
  have HAL := hideP (fun (W : World) (h : PB W B g m l q) => all_ok B g m l q W h)
  have HRU := hideP (fun (W : World) (A : Option Addr) (c : Nat) (hA : OV W w.heap.size A c l) (h : PB W B g m l q) (hD : OS W W.heap.size D d) => run_ok A D c cd l d W hA.sv h.ok hD hd)
  generalize doneV (valOf l) d = r at HRU ⊢
  clear h hD hd
  go_enter Tryz.func143, Tryz.ntmps143
  go_wp2_with fail
  generalize w.alloc _ = w1 at hb0 hP hD0 y ⊢
  generalize hgd : w.heap.size = gd at y ⊢
  have hgd' : w.heap.size ≤ w1.heap.size := hb0.size
  replace hP := hP.below (Below.refl _ _).drew
  replace y := y.drew
  replace hD0 := hD0.go (Below.refl _ _).drew
  replace hb0 := hb0.drew
  go_region_held3 (fun W => W.cell? ⟨gd, 0, none⟩ = some (.slice D d.length cd)) (first | with_reducible exact y3.cell 0 rfl | with_reducible exact y2.cell 0 rfl | with_reducible exact y.cell 0 rfl) (first
    | (go_at_call 94; refine (HAL.out _ hP).mono ?_; rintro e w2 ⟨A2, c2, rfl, ho2, hb2⟩; have hP2 := hP.below hb2; have y2 := y.below hb2; have hD2 := hD0.go hb2; have hb2' := hb0.trans (hb2.mono hb0.size))
    | (go_at_call 101; refine (HRU.out _ A2 c2 (ho2.mono hgd') hP2 hD2).mono ?_; rintro e w3 ⟨A3, c3, l3, rfl, ho3, hok3, hv3, hb3⟩; have hP3 := hP2.below hb3; have y3 := y2.below hb3; have hb3' := hb2'.trans (hb3.mono hb2'.size)))
  have HV := hideP hv3
  have z1 := hP3.c0
  have z2 := hP3.c1
  clear hv3 hP hP2 hD0 hD2 hb0 hb2 hb2' hb3 y y2 y3 HAL HRU ho2 hgd
  go_wp2_with fail
  refine (divide_ok m A3 c3 l3 _ hP3.mo.ms ho3.sv.ps hP3.okm hok3).mono ?_
  rintro e w4 ⟨q', rfl, hq, hb4⟩
  have hP4 := hP3.below hb4
  have hb4' := hb3'.trans (hb4.mono hb3'.size)
  have hq4 := hq.mono hb3'.size
  clear hP3 hb3' hb4 hq ho3 z1 z2
  simp only [Dv.ar]
  have HFI := hideP (fun (W : World) (h : PB W B g m l q) (hbe : Below w.heap.size w W) (hq : q'.Own W w.heap.size m.cs m.os l3 4) => h.fill hB hbe hq hok3)
  obtain ⟨a0, n0, c0, e0⟩ : ∃ a n c, q'.s m.cs m.os l3 0 = .slice a n c := ⟨_, _, _, rfl⟩
  obtain ⟨a1, n1, c1, e1⟩ : ∃ a n c, q'.s m.cs m.os l3 1 = .slice a n c := ⟨_, _, _, rfl⟩
  obtain ⟨a2, n2, c2', e2⟩ : ∃ a n c, q'.s m.cs m.os l3 2 = .slice a n c := ⟨_, _, _, rfl⟩
  obtain ⟨a3, n3, c3', e3⟩ : ∃ a n c, q'.s m.cs m.os l3 3 = .slice a n c := ⟨_, _, _, rfl⟩
  rw [e0, e1, e2, e3] at HFI ⊢
  clear e0 e1 e2 e3 hok3
  have ha := (Below.refl w4.heap.size w4).alloc (Nat.le_refl _) (.cells #[.slice a0 n0 c0, .slice a1 n1 c1, .slice a2 n2 c2', .slice a3 n3 c3'] 192)
  have hP5 := hP4.below ha
  have hb5 := hb4'.trans (ha.mono hb4'.size)
  have hq5 := hq4.below ha
  have y := Box.new w4 192 #[.slice a0 n0 c0, .slice a1 n1 c1, .slice a2 n2 c2', .slice a3 n3 c3']
  have HF := hideP (HFI.out _ hP5 hb5 hq5)
  have o1 := hP5.box.set 2 (.slice a0 n0 c0)
  have o2 := o1.set 3 (.slice a1 n1 c1)
  have o3 := o2.set 4 (.slice a2 n2 c2')
  have f0 := hP5.box.frozen 2
  have f1 := o1.frozen 3
  have f2 := o2.frozen 4
  have f3 := o3.frozen 5
  have d0 := hP5.box.cell 2 rfl
  have d1 := o1.cell 3 (v := q.s m.cs m.os l 1) rfl
  have d2 := o2.cell 4 (v := q.s m.cs m.os l 2) rfl
  have d3 := o3.cell 5 (v := q.s m.cs m.os l 3) rfl
  have k0 := y.cell 0 (v := .slice a0 n0 c0) rfl
  have k1 := y.cell 1 (v := .slice a1 n1 c1) rfl
  have k2 := y.cell 2 (v := .slice a2 n2 c2') rfl
  have k3 := y.cell 3 (v := .slice a3 n3 c3') rfl
  clear o1 o2 o3 hP4 hq4 hb4' ha hP5 hb5 hq5 HFI y
  go_wp2_with fail
  go_ret2
  exact ⟨rfl, l3, q', HF.out.1, HV.out, HF.out.2⟩
end Go.Proofs.YtefdipjhjgmokaaGreatDoor

set_option linter.unusedVariables false
set_option linter.unusedSimpArgs false
namespace Go.Proofs.YtefdipjhjgmokaaGreatDoor
open Go.RowKit

/-- while a function runs that makes a map of a map -/
structure RH (w : World) (g : Nat) (m : Mp) (wr : World) : Prop where
  mh : MH w g m wr
  ms0 : MS w m
  res : Box wr (g + 1) 34 #[.slice none 0 0, .slice none 0 0]
  low : w.heap.size ≤ g
theorem RH.below {w wr w' : World} {g : Nat} {m : Mp} (h : RH w g m wr) (hb : Below wr.heap.size wr w') : RH w g m w' := ⟨h.mh.below hb, h.ms0, h.res.below hb, h.low⟩
theorem RH.alloc {w wr : World} {g : Nat} {m : Mp} {o : Obj} (h : RH w g m wr) : RH w g m (wr.alloc o) := h.below ((Below.refl _ _).alloc (Nat.le_refl _) _)
theorem RH.drew {w wr : World} {g : Nat} {m : Mp} (h : RH w g m wr) : RH w g m wr.drew := h.below (Below.refl _ _).drew
theorem RH.new {w : World} {m : Mp} (hm : MS w m) : RH w w.heap.size m ((w.alloc (.cells #[.slice m.A m.cs.length m.ca, .slice m.O m.os.length m.co] 34)).alloc (.cells #[.slice none 0 0, .slice none 0 0] 34)) := by
  have x1 := Box.new (w.alloc (.cells #[.slice m.A m.cs.length m.ca, .slice m.O m.os.length m.co] 34)) 34 #[.slice none 0 0, .slice none 0 0]
  simp only [World.size_alloc] at x1
  exact ⟨(MH.new hm).below ((Below.refl _ _).alloc (Nat.le_refl _) _), hm, x1, Nat.le_refl _⟩
/-- another block is written -/
theorem RH.other {w wr : World} {g : Nat} {m : Mp} (h : RH w g m wr) {b i : Nat} {v : Value} (hb : g + 1 < b) : RH w g m (wr.setCell ⟨b, i, none⟩ v) := by
  have hl := h.low
  have hbe : Below w.heap.size w (wr.setCell ⟨b, i, none⟩ v) := below_set h.mh.be (by omega)
  exact ⟨⟨h.mh.x0.other (by show b ≠ g; omega) _, h.ms0.below hbe, hbe⟩, h.ms0, h.res.other (by show b ≠ g + 1; omega) _, h.low⟩
/-- the end where an error is handed back -/
structure RE (w : World) (g : Nat) (wr : World) : Prop where
  f0 : wr.frozen? ⟨g + 1, 0, none⟩ = false
  f1 : (wr.setCell ⟨g + 1, 0, none⟩ (.slice none 0 0)).frozen? ⟨g + 1, 1, none⟩ = false
  d0 : wr.cell? ⟨g + 1, 0, none⟩ = some (.slice none 0 0)
  d1 : (wr.setCell ⟨g + 1, 0, none⟩ (.slice none 0 0)).cell? ⟨g + 1, 1, none⟩ = some (.slice none 0 0)
  q0 : ((wr.setCell ⟨g + 1, 0, none⟩ (.slice none 0 0)).setCell ⟨g + 1, 1, none⟩ (.slice none 0 0)).cell? ⟨g + 1, 0, none⟩ = some (.slice none 0 0)
  q1 : ((wr.setCell ⟨g + 1, 0, none⟩ (.slice none 0 0)).setCell ⟨g + 1, 1, none⟩ (.slice none 0 0)).cell? ⟨g + 1, 1, none⟩ = some (.slice none 0 0)
  fin : MO ((wr.setCell ⟨g + 1, 0, none⟩ (.slice none 0 0)).setCell ⟨g + 1, 1, none⟩ (.slice none 0 0)) w.heap.size noM ∧ Below w.heap.size w ((wr.setCell ⟨g + 1, 0, none⟩ (.slice none 0 0)).setCell ⟨g + 1, 1, none⟩ (.slice none 0 0))
theorem RH.re {w wr : World} {g : Nat} {m : Mp} (h : RH w g m wr) : RE w g wr :=
  have r := (h.res.set 0 (.slice none 0 0)).set 1 (.slice none 0 0)
  ⟨h.res.frozen 0, (h.res.set 0 (.slice none 0 0)).frozen 1, h.res.cell 0 rfl, (h.res.set 0 (.slice none 0 0)).cell 1 rfl, r.cell 0 rfl, r.cell 1 rfl, res_set (n := noM) h.res (by have := h.low; omega) (noM_mo _ _) h.mh.be _ _⟩
/-- the end where a map is handed back -/
structure RF (w : World) (g : Nat) (n : Mp) (wr : World) : Prop where
  f0 : wr.frozen? ⟨g + 1, 0, none⟩ = false
  f1 : (wr.setCell ⟨g + 1, 0, none⟩ (.slice n.A n.cs.length n.ca)).frozen? ⟨g + 1, 1, none⟩ = false
  d0 : wr.cell? ⟨g + 1, 0, none⟩ = some (.slice none 0 0)
  d1 : (wr.setCell ⟨g + 1, 0, none⟩ (.slice n.A n.cs.length n.ca)).cell? ⟨g + 1, 1, none⟩ = some (.slice none 0 0)
  q0 : ((wr.setCell ⟨g + 1, 0, none⟩ (.slice n.A n.cs.length n.ca)).setCell ⟨g + 1, 1, none⟩ (.slice n.O n.os.length n.co)).cell? ⟨g + 1, 0, none⟩ = some (.slice n.A n.cs.length n.ca)
  q1 : ((wr.setCell ⟨g + 1, 0, none⟩ (.slice n.A n.cs.length n.ca)).setCell ⟨g + 1, 1, none⟩ (.slice n.O n.os.length n.co)).cell? ⟨g + 1, 1, none⟩ = some (.slice n.O n.os.length n.co)
  fin : MO ((wr.setCell ⟨g + 1, 0, none⟩ (.slice n.A n.cs.length n.ca)).setCell ⟨g + 1, 1, none⟩ (.slice n.O n.os.length n.co)) w.heap.size n ∧ Below w.heap.size w ((wr.setCell ⟨g + 1, 0, none⟩ (.slice n.A n.cs.length n.ca)).setCell ⟨g + 1, 1, none⟩ (.slice n.O n.os.length n.co))
theorem RH.rf {w wr : World} {g : Nat} {m n : Mp} (h : RH w g m wr) (hn : MO wr w.heap.size n) : RF w g n wr :=
  have r := (h.res.set 0 (.slice n.A n.cs.length n.ca)).set 1 (.slice n.O n.os.length n.co)
  ⟨h.res.frozen 0, (h.res.set 0 (.slice n.A n.cs.length n.ca)).frozen 1, h.res.cell 0 rfl, (h.res.set 0 (.slice n.A n.cs.length n.ca)).cell 1 rfl, r.cell 0 rfl, r.cell 1 rfl, res_set h.res (by have := h.low; omega) hn h.mh.be _ _⟩
end Go.Proofs.YtefdipjhjgmokaaGreatDoor

set_option linter.unusedVariables false
set_option linter.unusedSimpArgs false
namespace Go.Proofs.YtefdipjhjgmokaaGreatDoor
open Go.RowKit

set_option maxHeartbeats 2000000 in
set_option maxRecDepth 100000 in
theorem clone_any (m : Mp) (w : World) (hm : MS w m) (h1 : m.cs.length ≤ 1000) (h2 : m.os.length ≤ 1000) :
    Calls Tryz.prog 136 #[.agg #[.slice m.A m.cs.length m.ca, .slice m.O m.os.length m.co]] w
      fun e w' => ∃ A ca O co, e = .returned (.agg #[.slice A m.cs.length ca, .slice O m.os.length co]) ∧ MO w' w.heap.size ⟨A, ca, m.cs, O, co, m.os⟩ ∧ Below w.heap.size w w' := by
  have hH := RH.new hm
  have HP1 := hideP (fun (W : World) (h : RH w w.heap.size m W) (o : Nat) (ho : o < W.heap.size) (c0 : W.cell? ⟨o, 0, none⟩ = some (.slice m.A m.cs.length m.ca)) =>
    show Calls Tryz.prog 139 #[.slice (some ⟨o, 0, none⟩) 1 1] W fun e w' => ∃ A c, e = .returned (.slice A m.cs.length c) ∧ OR w' w.heap.size 9 A c (m.cs.map Value.string) ∧ RH w w.heap.size m w' ∧ Below W.heap.size W w' from by
      have := sconcat_any o 0 1 [⟨m.A, m.ca, m.cs⟩] W ⟨ho, fun j s hj => by
        match j with
        | 0 => simp at hj; subst hj; simpa using c0
        | j + 1 => simp at hj, fun s hs => by
        simp at hs
        subst hs
        exact h.mh.ms.cuts⟩ (by simp [catS]; omega) (by simp)
      have e : catS [⟨m.A, m.ca, m.cs⟩] = m.cs := by simp [catS]
      rw [e] at this
      exact this.mono fun e w' ⟨A, c, h1, h2, h3⟩ => ⟨A, c, h1, h2.mono h.mh.be.size, h.below h3, h3⟩)
  have HP2 := hideP (fun (W : World) (h : RH w w.heap.size m W) (o : Nat) (ho : o < W.heap.size) (c0 : W.cell? ⟨o, 0, none⟩ = some (.slice m.O m.os.length m.co)) =>
    show Calls Tryz.prog 140 #[.slice (some ⟨o, 0, none⟩) 1 1] W fun e w' => ∃ A c, e = .returned (.slice A m.os.length c) ∧ OR w' w.heap.size 3 A c (m.os.map (Value.int .i64)) ∧ RH w w.heap.size m w' ∧ Below W.heap.size W w' from by
      have := iconcat_any o 0 1 [⟨m.O, m.co, m.os⟩] W ⟨ho, fun j s hj => by
        match j with
        | 0 => simp at hj; subst hj; simpa using c0
        | j + 1 => simp at hj, fun s hs => by
        simp at hs
        subst hs
        exact h.mh.ms.own.vs⟩ (by simp [catI]; omega) (by simp)
      have e : catI [⟨m.O, m.co, m.os⟩] = m.os := by simp [catI]
      rw [e] at this
      exact this.mono fun e w' ⟨A, c, h1, h2, h3⟩ => ⟨A, c, h1, h2.mono h.mh.be.size, h.below h3, h3⟩)
  have HS := hideP (fun (W : World) (h : RH w w.heap.size m W) => h.mh.c)
  have HS3 := hideP (fun (W : World) (h : Box W w.heap.size 34 #[.slice m.A m.cs.length m.ca, .slice m.O m.os.length m.co]) => show W.cell? ⟨w.heap.size, 0, none⟩ = some (.slice m.A m.cs.length m.ca) ∧ W.cell? ⟨w.heap.size, 1, none⟩ = some (.slice m.O m.os.length m.co) from ⟨h.cell 0 rfl, h.cell 1 rfl⟩)
  have HFIN := hideP (fun (W : World) (h : RH w w.heap.size m W) (A O : Option Addr) (ca co : Nat) (hA : OR W w.heap.size 9 A ca (m.cs.map Value.string)) (hO : OR W w.heap.size 3 O co (m.os.map (Value.int .i64))) => show RF w w.heap.size ⟨A, ca, m.cs, O, co, m.os⟩ W from h.rf ⟨hA, hO⟩)
  clear h1 h2
  go_enter Tryz.func136, Tryz.ntmps136
  go_wp2_with fail
  generalize (w.alloc _).alloc _ = w3 at hH ⊢
  generalize hg : w.heap.size = g at hH HP1 HP2 HS HS3 HFIN ⊢
  have hlt := hH.res.lt
  go_region_held3 (fun w' => w'.cell? ⟨g, 0, none⟩ = some (.slice m.A m.cs.length m.ca) ∧ w'.cell? ⟨g, 1, none⟩ = some (.slice m.O m.os.length m.co)) (first | with_reducible exact hS3 | (refine HS.out _ ?_; (repeat first | with_reducible exact hH2 | with_reducible exact hH1 | with_reducible exact hH | with_reducible apply RH.alloc | with_reducible apply RH.drew))) (first
    | (go_at_call 139
       refine (HP1.out _ (by repeat first | with_reducible exact hH | with_reducible apply RH.alloc | with_reducible apply RH.drew) _ (by simp <;> omega) (by first | exact cell_dr (cell_nw (by simp) rfl) | exact cell_dr (cell_ol (by simp <;> omega) (cell_nw (by simp) rfl)) | exact cell_nw (by simp) rfl)).mono ?_
       rintro e w4 ⟨A', ca', rfl, hA, hH1, hb4⟩)
    | (go_at_call 140
       first
         | (refine (HP2.out _ (by repeat first | with_reducible exact hH1 | with_reducible apply RH.alloc | with_reducible apply RH.drew) _ (by simp <;> omega) (by first | exact cell_dr (cell_nw (by simp) rfl) | exact cell_dr (cell_ol (by simp <;> omega) (cell_nw (by simp) rfl)) | exact cell_nw (by simp) rfl)).mono ?_)
         | (refine (HP2.out _ hH1 _ ?_ ((hb4.cell (by simp <;> omega)).trans (by first | exact cell_dr (cell_nw (by simp) rfl) | exact cell_dr (cell_ol (by simp <;> omega) (cell_nw (by simp) rfl)) | exact cell_nw (by simp) rfl))).mono ?_
            · refine Nat.lt_of_lt_of_le ?_ hb4.size; (simp <;> omega))
       rintro e w5 ⟨O', co', rfl, hO, hH2, hb5⟩
       have hb5' : Below w4.heap.size w4 w5 := by first | exact hb5 | exact ((Below.refl _ _).alloc (Nat.le_refl _) _).trans (hb5.mono (by simp))
       obtain ⟨f0, f1, d0, d1, q0, q1, hfin⟩ := HFIN.out w5 hH2 A' O' ca' co' (hA.below hb5') hO
       simp only at f1 d1 q0 q1 hfin
       have HF := hideP hfin
       have hx := ((hH2.mh.x0.other (a := ⟨g + 1, 0, none⟩) (by show g + 1 ≠ g; omega) (.slice A' m.cs.length ca')).other (a := ⟨g + 1, 1, none⟩) (by show g + 1 ≠ g; omega) (.slice O' m.os.length co'))
       have hS3 := HS3.out _ hx
       clear hfin hx))
  all_goals
    go_wp2_with fail
    exact bodyPost_ret (v := .agg #[.slice A' m.cs.length ca', .slice O' m.os.length co']) (by simp [results, Tryz.results136, go_sem, q0, q1]) rfl ⟨A', ca', O', co', rfl, HF.out.1, HF.out.2⟩
end Go.Proofs.YtefdipjhjgmokaaGreatDoor

set_option linter.unusedVariables false
set_option linter.unusedSimpArgs false
namespace Go.Proofs.YtefdipjhjgmokaaGreatDoor
open Go.RowKit

/-- what an operation reads, and writes -/
def rdO (o : Opr) : List ByteArray := if o.kind = 2 then [o.key] else if o.kind = 3 then [o.src] else if o.kind = 4 then [o.key] else if o.kind = 5 then [o.src, o.key] else []
def wrO (o : Opr) : List ByteArray := if o.kind = 4 then [] else if o.kind = 5 then [o.src, o.key] else [o.key]
def rdL (d : List Opr) : List ByteArray := d.flatMap rdO
def wrL (d : List Opr) : List ByteArray := d.flatMap wrO
theorem rdL_take {d : List Opr} {k : Nat} (h : k < d.length) : rdL (d.take (k + 1)) = rdL (d.take k) ++ rdO d[k] := by
  unfold rdL; rw [List.take_succ_eq_append_getElem h, List.flatMap_append]; simp
theorem wrL_take {d : List Opr} {k : Nat} (h : k < d.length) : wrL (d.take (k + 1)) = wrL (d.take k) ++ wrO d[k] := by
  unfold wrL; rw [List.take_succ_eq_append_getElem h, List.flatMap_append]; simp
theorem rdO_len (o : Opr) : (rdO o).length ≤ 2 := by
  unfold rdO
  split
  · simp
  · split
    · simp
    · split
      · simp
      · split <;> simp
theorem wrO_len (o : Opr) : (wrO o).length ≤ 2 := by
  unfold wrO
  split
  · simp
  · split <;> simp
theorem flat_len {f : Opr → List ByteArray} (hf : ∀ o, (f o).length ≤ 2) : ∀ d : List Opr, (d.flatMap f).length ≤ 2 * d.length
  | [] => by simp
  | o :: r => by have := flat_len hf r; have := hf o; simp [List.flatMap_cons] at *; omega
theorem rdL_len (d : List Opr) : (rdL d).length ≤ 2 * d.length := flat_len rdO_len d
theorem wrL_len (d : List Opr) : (wrL d).length ≤ 2 * d.length := flat_len wrO_len d

section
theorem get_bang {α : Type} [Inhabited α] (zs : List α) {m : Nat} (h : m < zs.length) : zs.toArray[m]! = zs[m] := by simp [getElem!_pos, h]
variable {α : Type} [Inhabited α] [DecidableEq α]
theorem upTo_mem (zs : List α) (m : Nat) (hm : m ≤ zs.length) (x : α) : x ∈ Lib.compactUpTo zs.toArray m ↔ x ∈ zs.take m := by
  induction m with
  | zero => simp [Lib.compactUpTo]
  | succ m ih =>
    have hlt : m < zs.length := by omega
    rw [Lib.compactUpTo_succ, List.take_succ_eq_append_getElem hlt, List.mem_append, List.mem_append, ih (by omega), get_bang zs hlt]
    cases hk : Lib.keeps zs.toArray m with
    | true => simp
    | false =>
      simp only [Lib.keeps, decide_eq_false_iff_not, not_or, Decidable.not_not] at hk
      have hp : m - 1 < zs.length := by omega
      rw [get_bang zs hlt, get_bang zs hp] at hk
      constructor
      · rintro (h | h)
        · exact .inl h
        · simp at h
      · rintro (h | h)
        · exact .inl h
        · simp at h
          refine .inl ?_
          rw [h, hk.2]
          exact List.mem_take_iff_getElem.2 ⟨m - 1, by omega, rfl⟩
end
theorem upTo_sorted (zs : List (List UInt8)) (hs : zs.Pairwise (fun a b => ¬ b < a)) (m : Nat) (hm : m ≤ zs.length) : (Lib.compactUpTo zs.toArray m).Pairwise (fun a b => a < b) := by
  induction m with
  | zero => simp [Lib.compactUpTo]
  | succ m ih =>
    have hlt : m < zs.length := by omega
    rw [Lib.compactUpTo_succ, get_bang zs hlt]
    refine List.pairwise_append.2 ⟨ih (by omega), ?_, ?_⟩
    · split <;> simp
    · intro a ha b hb
      cases hk : Lib.keeps zs.toArray m with
      | false => simp [hk] at hb
      | true =>
        simp [hk] at hb
        subst hb
        rw [upTo_mem zs m (by omega)] at ha
        obtain ⟨j, hj, rfl⟩ := List.mem_take_iff_getElem.1 ha
        simp only [Lib.keeps, decide_eq_true_eq] at hk
        rcases hk with h0 | hne
        · omega
        · rw [get_bang zs hlt, get_bang zs (by omega)] at hne
          have hp : m - 1 < zs.length := by omega
          have h1 : ¬ zs[m] < zs[m - 1] := List.pairwise_iff_getElem.1 hs (m - 1) m (by omega) hlt (by omega)
          have h2 : ¬ zs[m - 1] < zs[j] := by
            rcases Nat.lt_or_ge j (m - 1) with h | h
            · exact List.pairwise_iff_getElem.1 hs j (m - 1) (by omega) (by omega) h
            · have : j = m - 1 := by omega
              subst this; exact List.lt_irrefl _
          have h3 : zs[m - 1] < zs[m] := by
            by_cases h : zs[m - 1] < zs[m]
            · exact h
            · exact absurd (List.le_antisymm (show zs[m] ≤ zs[m - 1] from h) (show zs[m - 1] ≤ zs[m] from h1)) hne
          by_cases h4 : zs[j] < zs[m - 1]
          · exact List.lt_trans h4 h3
          · have := List.le_antisymm (show zs[j] ≤ zs[m - 1] from h2) (show zs[m - 1] ≤ zs[j] from h4)
            rw [this]; exact h3
/-- keys in order and without duplicates -/
def keysOf (l : List ByteArray) : List ByteArray := (Lib.compact ((l.map by8).mergeSort fun x y => decide (x ≤ y))).map fun s => ⟨s.toArray⟩
theorem keysOf_mem (l : List ByteArray) (k : ByteArray) : k ∈ keysOf l ↔ k ∈ l := by
  unfold keysOf Lib.compact
  have hl : ((l.map by8).mergeSort fun x y => decide (x ≤ y)).length = l.length := by simp
  constructor
  · intro h
    obtain ⟨s, hs, rfl⟩ := List.mem_map.1 h
    rw [upTo_mem _ _ (Nat.le_refl _), List.take_length, List.mem_mergeSort] at hs
    obtain ⟨x, hx, rfl⟩ := List.mem_map.1 hs
    exact hx
  · intro h
    refine List.mem_map.2 ⟨by8 k, ?_, rfl⟩
    rw [upTo_mem _ _ (Nat.le_refl _), List.take_length, List.mem_mergeSort]
    exact List.mem_map.2 ⟨k, h, rfl⟩
theorem keysOf_sorted (l : List ByteArray) : (keysOf l).Pairwise (fun a b => ltB a b = true) := by
  unfold keysOf Lib.compact
  rw [List.pairwise_map]
  have hs : ((l.map by8).mergeSort fun x y => decide (x ≤ y)).Pairwise (fun a b => ¬ b < a) := by
    have := List.pairwise_mergeSort (le := fun x y : List UInt8 => decide (x ≤ y)) (by intro a b c h1 h2; simp at *; exact List.le_trans h1 h2) (by intro a b; simp; exact List.le_total a b) (l.map by8)
    exact this.imp (by intro a b h; simpa using h)
  exact (upTo_sorted _ hs _ (Nat.le_refl _)).imp (by intro a b h; rw [ltB_iff]; exact h)
theorem keysOf_len (l : List ByteArray) : (keysOf l).length ≤ l.length := by
  unfold keysOf
  rw [List.length_map]
  have h : ∀ (zs : List (List UInt8)), (Lib.compact zs).length ≤ zs.length := fun zs => by
    unfold Lib.compact Lib.compactUpTo
    rw [List.length_map]
    exact Nat.le_trans (List.length_filter_le _ _) (by simp)
  exact Nat.le_trans (h _) (by simp)
/-- two sorted lists with the same keys are one -/
theorem sorted_ext {l m : List ByteArray} (hl : l.Pairwise (fun a b => ltB a b = true)) (hm : m.Pairwise (fun a b => ltB a b = true)) (h : ∀ k, k ∈ l ↔ k ∈ m) : l = m := by
  induction l generalizing m with
  | nil =>
    cases m with
    | nil => rfl
    | cons q s => exact absurd ((h q).2 (by simp)) (by simp)
  | cons p r ih =>
    cases m with
    | nil => exact absurd ((h p).1 (by simp)) (by simp)
    | cons q s =>
      have hl' := List.pairwise_cons.1 hl
      have hm' := List.pairwise_cons.1 hm
      have hpq : p = q := by
        rcases List.mem_cons.1 ((h p).1 (by simp)) with e | e
        · exact e
        · rcases List.mem_cons.1 ((h q).2 (by simp)) with e2 | e2
          · exact e2.symm
          · have a := hl'.1 q e2
            have b := hm'.1 p e
            rw [ltB_asymm a] at b; cases b
      subst hpq
      congr 1
      refine ih hl'.2 hm'.2 fun k => ?_
      constructor
      · intro hk
        rcases List.mem_cons.1 ((h k).1 (by simp [hk])) with e | e
        · exact absurd e.symm (ltB_ne (hl'.1 k hk))
        · exact e
      · intro hk
        rcases List.mem_cons.1 ((h k).2 (by simp [hk])) with e | e
        · exact absurd e.symm (ltB_ne (hm'.1 k hk))
        · exact e
end Go.Proofs.YtefdipjhjgmokaaGreatDoor
