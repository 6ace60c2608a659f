/-
  merge.clone.
-/
import Derived.Test.YtefdipjhjgmokaaGreatDoorBy3
import Derived.Test.YtefdipjhjgmokaaGreatDoorBy13
import Derived.Test.YtefdipjhjgmokaaGreatDoorBy14
import Derived.Deep.RegionHeld3
set_option linter.unusedVariables false
set_option linter.unusedSimpArgs false
namespace Go.Proofs.YtefdipjhjgmokaaGreatDoor
open Go.RowKit

/-- a copy is handed back -/
def RetCl (w : World) (x : Em) (e : Ending) (w' : World) : Prop := ∃ y : Em, e = .returned (emV y) ∧ entOf y = dropE (entOf x) ∧ EO w' w.heap.size y ∧ Below w.heap.size w w'
theorem OO.of_row {w : World} {B : Nat} {v : Value} {d : List Opr} (h : w.ownsRow B 71 4 v d.length (opCells d)) : ∃ A c, v = .slice A d.length c ∧ OO w B A c d := by
  rcases h.2 with ⟨rfl, h0⟩ | ⟨g, cap, cur, rfl, h2⟩
  · exact ⟨none, 0, by rw [h0], by unfold OO; rw [h0]; exact h0 ▸ h⟩
  · exact ⟨_, _, rfl, h⟩
/-- while a map is copied: the argument's box, the result's -/
structure CnH (w : World) (D : Option Addr) (c : Nat) (d : List Opr) (m : Mp) (wr : World) : Prop where
  x0 : Box wr w.heap.size 42 #[.slice D d.length c, .bool true, .slice m.A m.cs.length m.ca, .slice m.O m.os.length m.co]
  res : Box wr (w.heap.size + 1) 42 #[.slice none 0 0, .bool false, .slice none 0 0, .slice none 0 0]
  ms : MS wr m
  be : Below w.heap.size w wr
section
variable {w wr w' : World} {D : Option Addr} {c : Nat} {d : List Opr} {m : Mp}
theorem CnH.below (h : CnH w D c d m wr) (hb : Below wr.heap.size wr w') : CnH w D c d m w' := ⟨h.x0.below hb, h.res.below hb, h.ms.below hb, h.be.trans (hb.mono h.be.size)⟩
theorem CnH.alloc {o : Obj} (h : CnH w D c d m wr) : CnH w D c d m (wr.alloc o) := h.below ((Below.refl _ _).alloc (Nat.le_refl _) _)
theorem CnH.drew (h : CnH w D c d m wr) : CnH w D c d m wr.drew := h.below (Below.refl _ _).drew
theorem CnH.c_ (h : CnH w D c d m wr) : wr.cell? ⟨w.heap.size, 2, none⟩ = some (.slice m.A m.cs.length m.ca) ∧ wr.cell? ⟨w.heap.size, 3, none⟩ = some (.slice m.O m.os.length m.co) := ⟨h.x0.cell 2 rfl, h.x0.cell 3 rfl⟩
end
/-- the end: the result's box is written -/
structure CnE (w : World) (y : Em) (wr : World) : Prop where
  f0 : wr.frozen? ⟨w.heap.size + 1, 0, none⟩ = false
  f1 : (wr.setCell ⟨w.heap.size + 1, 0, none⟩ (.slice y.D y.d.length y.c)).frozen? ⟨w.heap.size + 1, 1, none⟩ = false
  f2 : ((wr.setCell ⟨w.heap.size + 1, 0, none⟩ (.slice y.D y.d.length y.c)).setCell ⟨w.heap.size + 1, 1, none⟩ (.bool y.isM)).frozen? ⟨w.heap.size + 1, 2, none⟩ = false
  f3 : (((wr.setCell ⟨w.heap.size + 1, 0, none⟩ (.slice y.D y.d.length y.c)).setCell ⟨w.heap.size + 1, 1, none⟩ (.bool y.isM)).setCell ⟨w.heap.size + 1, 2, none⟩ (.slice y.m.A y.m.cs.length y.m.ca)).frozen? ⟨w.heap.size + 1, 3, none⟩ = false
  d0 : wr.cell? ⟨w.heap.size + 1, 0, none⟩ = some (.slice none 0 0)
  d1 : (wr.setCell ⟨w.heap.size + 1, 0, none⟩ (.slice y.D y.d.length y.c)).cell? ⟨w.heap.size + 1, 1, none⟩ = some (.bool false)
  d2 : ((wr.setCell ⟨w.heap.size + 1, 0, none⟩ (.slice y.D y.d.length y.c)).setCell ⟨w.heap.size + 1, 1, none⟩ (.bool y.isM)).cell? ⟨w.heap.size + 1, 2, none⟩ = some (.slice none 0 0)
  d3 : (((wr.setCell ⟨w.heap.size + 1, 0, none⟩ (.slice y.D y.d.length y.c)).setCell ⟨w.heap.size + 1, 1, none⟩ (.bool y.isM)).setCell ⟨w.heap.size + 1, 2, none⟩ (.slice y.m.A y.m.cs.length y.m.ca)).cell? ⟨w.heap.size + 1, 3, none⟩ = some (.slice none 0 0)
  q0 : ((((wr.setCell ⟨w.heap.size + 1, 0, none⟩ (.slice y.D y.d.length y.c)).setCell ⟨w.heap.size + 1, 1, none⟩ (.bool y.isM)).setCell ⟨w.heap.size + 1, 2, none⟩ (.slice y.m.A y.m.cs.length y.m.ca)).setCell ⟨w.heap.size + 1, 3, none⟩ (.slice y.m.O y.m.os.length y.m.co)).cell? ⟨w.heap.size + 1, 0, none⟩ = some (.slice y.D y.d.length y.c)
  q1 : ((((wr.setCell ⟨w.heap.size + 1, 0, none⟩ (.slice y.D y.d.length y.c)).setCell ⟨w.heap.size + 1, 1, none⟩ (.bool y.isM)).setCell ⟨w.heap.size + 1, 2, none⟩ (.slice y.m.A y.m.cs.length y.m.ca)).setCell ⟨w.heap.size + 1, 3, none⟩ (.slice y.m.O y.m.os.length y.m.co)).cell? ⟨w.heap.size + 1, 1, none⟩ = some (.bool y.isM)
  q2 : ((((wr.setCell ⟨w.heap.size + 1, 0, none⟩ (.slice y.D y.d.length y.c)).setCell ⟨w.heap.size + 1, 1, none⟩ (.bool y.isM)).setCell ⟨w.heap.size + 1, 2, none⟩ (.slice y.m.A y.m.cs.length y.m.ca)).setCell ⟨w.heap.size + 1, 3, none⟩ (.slice y.m.O y.m.os.length y.m.co)).cell? ⟨w.heap.size + 1, 2, none⟩ = some (.slice y.m.A y.m.cs.length y.m.ca)
  q3 : ((((wr.setCell ⟨w.heap.size + 1, 0, none⟩ (.slice y.D y.d.length y.c)).setCell ⟨w.heap.size + 1, 1, none⟩ (.bool y.isM)).setCell ⟨w.heap.size + 1, 2, none⟩ (.slice y.m.A y.m.cs.length y.m.ca)).setCell ⟨w.heap.size + 1, 3, none⟩ (.slice y.m.O y.m.os.length y.m.co)).cell? ⟨w.heap.size + 1, 3, none⟩ = some (.slice y.m.O y.m.os.length y.m.co)
  fin : EO ((((wr.setCell ⟨w.heap.size + 1, 0, none⟩ (.slice y.D y.d.length y.c)).setCell ⟨w.heap.size + 1, 1, none⟩ (.bool y.isM)).setCell ⟨w.heap.size + 1, 2, none⟩ (.slice y.m.A y.m.cs.length y.m.ca)).setCell ⟨w.heap.size + 1, 3, none⟩ (.slice y.m.O y.m.os.length y.m.co)) w.heap.size y ∧ Below w.heap.size w ((((wr.setCell ⟨w.heap.size + 1, 0, none⟩ (.slice y.D y.d.length y.c)).setCell ⟨w.heap.size + 1, 1, none⟩ (.bool y.isM)).setCell ⟨w.heap.size + 1, 2, none⟩ (.slice y.m.A y.m.cs.length y.m.ca)).setCell ⟨w.heap.size + 1, 3, none⟩ (.slice y.m.O y.m.os.length y.m.co))
theorem cn_end {w wr : World} {y : Em} (hr : Box wr (w.heap.size + 1) 42 #[.slice none 0 0, .bool false, .slice none 0 0, .slice none 0 0]) (hy : EO wr w.heap.size y) (hb : Below w.heap.size w wr) : CnE w y wr := by
  obtain ⟨⟨c0, c1, c2, c3⟩, ⟨f0, f1, f2, f3⟩, R⟩ := box_four hr (.slice y.D y.d.length y.c) (.bool y.isM) (.slice y.m.A y.m.cs.length y.m.ca) (.slice y.m.O y.m.os.length y.m.co)
  exact ⟨f0, f1, f2, f3, c0, c1, c2, c3, R.cell 0 rfl, R.cell 1 rfl, R.cell 2 rfl, R.cell 3 rfl, eo_four hr (Nat.le_succ _) hy hb _ _ _ _⟩

set_option maxHeartbeats 2000000 in
set_option maxRecDepth 100000 in
theorem mclone_deed (D : Option Addr) (c : Nat) (d : List Opr) (m : Mp) (w : World) (hx : ES w ⟨D, c, d, false, m⟩) (hl : d.length ≤ 1000000) :
    Calls Tryz.prog 91 #[.agg #[.slice D d.length c, .bool false, .slice m.A m.cs.length m.ca, .slice m.O m.os.length m.co]] w (RetCl w ⟨D, c, d, false, m⟩) := by
  have b0 := ((Below.refl w.heap.size w).alloc (Nat.le_refl _) (.cells #[.slice D d.length c, .bool false, .slice m.A m.cs.length m.ca, .slice m.O m.os.length m.co] 42)).alloc (by simp) (.cells #[.slice none 0 0, .bool false, .slice none 0 0, .slice none 0 0] 42)
  have x0 := (Box.new w 42 #[.slice D d.length c, .bool false, .slice m.A m.cs.length m.ca, .slice m.O m.os.length m.co]).alloc (.cells #[.slice none 0 0, .bool false, .slice none 0 0, .slice none 0 0] 42)
  have x1 := Box.new (w.alloc (.cells #[.slice D d.length c, .bool false, .slice m.A m.cs.length m.ca, .slice m.O m.os.length m.co] 42)) 42 #[.slice none 0 0, .bool false, .slice none 0 0, .slice none 0 0]
  simp only [World.size_alloc] at x1
  have c0 := x0.cell 0 (v := .slice D d.length c) rfl
  have c1 := x0.cell 1 (v := .bool false) rfl
  have hx1 := hx.ops.go b0
  have hsz : ((w.alloc (.cells #[.slice D d.length c, .bool false, .slice m.A m.cs.length m.ca, .slice m.O m.os.length m.co] 42)).alloc (.cells #[.slice none 0 0, .bool false, .slice none 0 0, .slice none 0 0] 42)).heap.size = w.heap.size + 2 := by simp
  go_enter Tryz.func91, Tryz.ntmps91
  go_wp2_with fail
  generalize (w.alloc _).alloc _ = w1 at b0 x0 x1 c0 c1 hx1 hsz ⊢
  have al := (Below.refl w1.heap.size w1).alloc (Nat.le_refl _) (.cells #[.slice D d.length c] 38)
  have HO := hideP (oconcat1 w1 (w.heap.size + 2) hsz.symm D d.length c d rfl hx1 (by omega))
  refine HO.out.mono ?_
  clear HO
  rintro e w2 ⟨v, rfl, hrow, hb2⟩
  obtain ⟨A', c', rfl, hoo⟩ := OO.of_row hrow
  have hb2' := b0.trans ((al.trans (hb2.mono (by simp))).mono b0.size)
  have x2 := (x1.below al).below hb2
  have hE := cn_end (y := ⟨A', c', d, false, noM⟩) x2 ⟨hoo.mono (by simp; omega), noM_mo _ _⟩ hb2'
  obtain ⟨f0, f1, f2, f3, d0, d1, d2, d3, q0, q1, q2, q3, hfin⟩ := hE
  have HF := hideP hfin
  clear hfin hrow hoo x0 x1 x2 hb2 hb2' al b0 hx1 hx c0 c1
  unfold noM at *
  simp only [List.length_nil] at *
  go_wp2_with fail
  exact bodyPost_ret (v := emV ⟨A', c', d, false, noM⟩) (by simp [results, Tryz.results91, go_sem, q0, q1, q2, q3, emV, emC, noM]) rfl ⟨⟨A', c', d, false, noM⟩, rfl, rfl, HF.out.1, HF.out.2⟩
set_option maxHeartbeats 4000000 in
set_option maxRecDepth 100000 in
theorem mclone_map (D : Option Addr) (c : Nat) (d : List Opr) (m : Mp) (w : World) (hx : ES w ⟨D, c, d, true, m⟩) (h1 : m.cs.length ≤ 1000) (h2 : m.os.length ≤ 1000) :
    Calls Tryz.prog 91 #[.agg #[.slice D d.length c, .bool true, .slice m.A m.cs.length m.ca, .slice m.O m.os.length m.co]] w (RetCl w ⟨D, c, d, true, m⟩) := by
  have hH : CnH w D c d m _ := ⟨(Box.new w 42 #[.slice D d.length c, .bool true, .slice m.A m.cs.length m.ca, .slice m.O m.os.length m.co]).alloc (.cells #[.slice none 0 0, .bool false, .slice none 0 0, .slice none 0 0] 42), by
    have := Box.new (w.alloc (.cells #[.slice D d.length c, .bool true, .slice m.A m.cs.length m.ca, .slice m.O m.os.length m.co] 42)) 42 #[.slice none 0 0, .bool false, .slice none 0 0, .slice none 0 0]
    simp only [World.size_alloc] at this
    exact this, hx.map.below (((Below.refl w.heap.size w).alloc (Nat.le_refl _) _).alloc (by simp) _), ((Below.refl w.heap.size w).alloc (Nat.le_refl _) _).alloc (by simp) _⟩
  have HP1 := hideP (fun (W : World) (h : CnH w D c d m W) (o : Nat) (ho : o < W.heap.size) (c0 : W.cell? ⟨o, 0, none⟩ = some (.slice m.A m.cs.length m.ca)) =>
    show Calls Tryz.prog 139 #[.slice (some ⟨o, 0, none⟩) 1 1] W fun e w' => ∃ A c0, e = .returned (.slice A m.cs.length c0) ∧ OR w' w.heap.size 9 A c0 (m.cs.map Value.string) ∧ CnH w D c d m w' ∧ Below W.heap.size W w' from by
      have := sconcat_any o 0 1 [⟨m.A, m.ca, m.cs⟩] W ⟨ho, fun j s hj => by
        match j with
        | 0 => simp at hj; subst hj; simpa using c0
        | j + 1 => simp at hj, fun s hs => by
        simp at hs
        subst hs
        exact h.ms.cuts⟩ (by simp [catS]; omega) (by simp)
      have e : catS [⟨m.A, m.ca, m.cs⟩] = m.cs := by simp [catS]
      rw [e] at this
      exact this.mono fun e w' ⟨A, c, h1, h2, h3⟩ => ⟨A, c, h1, h2.mono h.be.size, h.below h3, h3⟩)
  have HP2 := hideP (fun (W : World) (h : CnH w D c d m W) (o : Nat) (ho : o < W.heap.size) (c0 : W.cell? ⟨o, 0, none⟩ = some (.slice m.O m.os.length m.co)) =>
    show Calls Tryz.prog 140 #[.slice (some ⟨o, 0, none⟩) 1 1] W fun e w' => ∃ A c0, e = .returned (.slice A m.os.length c0) ∧ OR w' w.heap.size 3 A c0 (m.os.map (Value.int .i64)) ∧ CnH w D c d m w' ∧ Below W.heap.size W w' from by
      have := iconcat_any o 0 1 [⟨m.O, m.co, m.os⟩] W ⟨ho, fun j s hj => by
        match j with
        | 0 => simp at hj; subst hj; simpa using c0
        | j + 1 => simp at hj, fun s hs => by
        simp at hs
        subst hs
        exact h.ms.own.vs⟩ (by simp [catI]; omega) (by simp)
      have e : catI [⟨m.O, m.co, m.os⟩] = m.os := by simp [catI]
      rw [e] at this
      exact this.mono fun e w' ⟨A, c, h1, h2, h3⟩ => ⟨A, c, h1, h2.mono h.be.size, h.below h3, h3⟩)
  have HS := hideP (fun (W : World) (h : CnH w D c d m W) => h.c_)
  have HS3 := hideP (fun (W : World) (h : Box W w.heap.size 42 #[.slice D d.length c, .bool true, .slice m.A m.cs.length m.ca, .slice m.O m.os.length m.co]) => show W.cell? ⟨w.heap.size, 2, none⟩ = some (.slice m.A m.cs.length m.ca) ∧ W.cell? ⟨w.heap.size, 3, none⟩ = some (.slice m.O m.os.length m.co) from ⟨h.cell 2 rfl, h.cell 3 rfl⟩)
  have HFIN := hideP (fun (W : World) (h : CnH w D c d m W) (A O : Option Addr) (ca co : Nat) (hA : OR W w.heap.size 9 A ca (m.cs.map Value.string)) (hO : OR W w.heap.size 3 O co (m.os.map (Value.int .i64))) => show CnE w ⟨none, 0, [], true, ⟨A, ca, m.cs, O, co, m.os⟩⟩ W from cn_end h.res ⟨OO.nil _ _, ⟨hA, hO⟩⟩ h.be)
  have c1 := hH.x0.cell 1 (v := .bool true) rfl
  have c2 := hH.c_.1
  have c3 := hH.c_.2
  clear h1 h2 hx
  go_enter Tryz.func91, Tryz.ntmps91
  go_wp2_with fail
  generalize (w.alloc _).alloc _ = w3 at hH c1 c2 c3 ⊢
  generalize hg : w.heap.size = g at hH HP1 HP2 HS HS3 HFIN c1 c2 c3 ⊢
  have hlt := hH.res.lt
  clear c1 c2 c3
  rw [hg] at hlt
  go_region_held3 (fun w' => w'.cell? ⟨g, 2, none⟩ = some (.slice m.A m.cs.length m.ca) ∧ w'.cell? ⟨g, 3, none⟩ = some (.slice m.O m.os.length m.co)) (first | with_reducible exact hS3 | (refine HS.out _ ?_; (repeat first | with_reducible exact hH2 | with_reducible exact hH1 | with_reducible exact hH | with_reducible apply CnH.alloc | with_reducible apply CnH.drew))) (first
    | (go_at_call 139
       refine (HP1.out _ (by repeat first | with_reducible exact hH | with_reducible apply CnH.alloc | with_reducible apply CnH.drew) _ (by simp <;> omega) (by first | exact cell_dr (cell_nw (by simp) rfl) | exact cell_dr (cell_ol (by simp <;> omega) (cell_nw (by simp) rfl)) | exact cell_nw (by simp) rfl)).mono ?_
       rintro e w4 ⟨A', ca', rfl, hA, hH1, hb4⟩)
    | (go_at_call 140
       first
         | (refine (HP2.out _ (by repeat first | with_reducible exact hH1 | with_reducible apply CnH.alloc | with_reducible apply CnH.drew) _ (by simp <;> omega) (by first | exact cell_dr (cell_nw (by simp) rfl) | exact cell_dr (cell_ol (by simp <;> omega) (cell_nw (by simp) rfl)) | exact cell_nw (by simp) rfl)).mono ?_)
         | (refine (HP2.out _ hH1 _ ?_ ((hb4.cell (by simp <;> omega)).trans (by first | exact cell_dr (cell_nw (by simp) rfl) | exact cell_dr (cell_ol (by simp <;> omega) (cell_nw (by simp) rfl)) | exact cell_nw (by simp) rfl))).mono ?_
            · refine Nat.lt_of_lt_of_le ?_ hb4.size; (simp <;> omega))
       rintro e w5 ⟨O', co', rfl, hO, hH2, hb5⟩
       have hb5' : Below w4.heap.size w4 w5 := by first | exact hb5 | exact ((Below.refl _ _).alloc (Nat.le_refl _) _).trans (hb5.mono (by simp))
       have hE := HFIN.out w5 hH2 A' O' ca' co' (hA.below hb5') hO
       obtain ⟨f0, f1, f2, f3, d0, d1, d2, d3, q0, q1, q2, q3, hfin⟩ := hE
       simp only [List.length_nil, hg] at f0 f1 f2 f3 d0 d1 d2 d3 q0 q1 q2 q3 hfin
       have HF := hideP hfin
       have hx := (((hH2.x0.other (a := ⟨g + 1, 0, none⟩) (by show g + 1 ≠ w.heap.size; omega) (.slice none 0 0)).other (a := ⟨g + 1, 1, none⟩) (by show g + 1 ≠ w.heap.size; omega) (.bool true)).other (a := ⟨g + 1, 2, none⟩) (by show g + 1 ≠ w.heap.size; omega) (.slice A' m.cs.length ca')).other (a := ⟨g + 1, 3, none⟩) (by show g + 1 ≠ w.heap.size; omega) (.slice O' m.os.length co')
       rw [hg] at hx
       have hS3 := HS3.out _ hx
       clear hfin hx))
  all_goals
    go_wp2_with fail
    exact bodyPost_ret (v := emV ⟨none, 0, [], true, ⟨A', ca', m.cs, O', co', m.os⟩⟩) (by simp [results, Tryz.results91, go_sem, q0, q1, q2, q3, emV, emC]) rfl ⟨⟨none, 0, [], true, ⟨A', ca', m.cs, O', co', m.os⟩⟩, rfl, rfl, by rw [hg]; exact HF.out.1, by rw [hg]; exact HF.out.2⟩
theorem mclone_any (x : Em) (w : World) (hx : ES w x) (hc : chkE (entOf x) = 0) :
    Calls Tryz.prog 91 #[emV x] w (RetCl w x) := by
  obtain ⟨D, c, d, isM, m⟩ := x
  cases isM
  · have h : chkD d = 0 := hc
    exact mclone_deed D c d m w hx (by have := (chkD_zero.1 h).2.1; omega)
  · have h : OkM m.cs m.os := chkM_ok.1 hc
    exact mclone_map D c d m w hx (by have := h.few; omega) (by have := h.few; have := h.len; omega)
end Go.Proofs.YtefdipjhjgmokaaGreatDoor
