/-
  merge.clone.
  (*merge.Merge).Add.
-/
import Derived.Test.YtefdipjhjgmokaaGreatDoorBw3
import Derived.Test.YtefdipjhjgmokaaGreatDoorBw14
import Derived.Test.YtefdipjhjgmokaaGreatDoorBw15
import Derived.Deep.RegionHeld3
set_option linter.unusedVariables false
set_option linter.unusedSimpArgs false
namespace Go.Proofs.YtefdipjhjgmokaaGreatDoor
open Go.RowKit

/-- a copy is handed back -/
def RetCl (w : World) (x : Em) (e : Ending) (w' : World) : Prop := ∃ y : Em, e = .returned (emV y) ∧ entOf y = dropE (entOf x) ∧ EO w' w.heap.size y ∧ Below w.heap.size w w'
theorem OO.of_row {w : World} {B : Nat} {v : Value} {d : List Opr} (h : w.ownsRow B 71 4 v d.length (opCells d)) : ∃ A c, v = .slice A d.length c ∧ OO w B A c d := by
  rcases h.2 with ⟨rfl, h0⟩ | ⟨g, cap, cur, rfl, h2⟩
  · exact ⟨none, 0, by rw [h0], by unfold OO; rw [h0]; exact h0 ▸ h⟩
  · exact ⟨_, _, rfl, h⟩
/-- while a map is copied: the argument's box, the result's -/
structure CnH (w : World) (D : Option Addr) (c : Nat) (d : List Opr) (m : Mp) (wr : World) : Prop where
  x0 : Box wr w.heap.size 42 #[.slice D d.length c, .bool true, .slice m.A m.cs.length m.ca, .slice m.O m.os.length m.co]
  res : Box wr (w.heap.size + 1) 42 #[.slice none 0 0, .bool false, .slice none 0 0, .slice none 0 0]
  ms : MS wr m
  be : Below w.heap.size w wr
section
variable {w wr w' : World} {D : Option Addr} {c : Nat} {d : List Opr} {m : Mp}
theorem CnH.below (h : CnH w D c d m wr) (hb : Below wr.heap.size wr w') : CnH w D c d m w' := ⟨h.x0.below hb, h.res.below hb, h.ms.below hb, h.be.trans (hb.mono h.be.size)⟩
theorem CnH.alloc {o : Obj} (h : CnH w D c d m wr) : CnH w D c d m (wr.alloc o) := h.below ((Below.refl _ _).alloc (Nat.le_refl _) _)
theorem CnH.drew (h : CnH w D c d m wr) : CnH w D c d m wr.drew := h.below (Below.refl _ _).drew
theorem CnH.c_ (h : CnH w D c d m wr) : wr.cell? ⟨w.heap.size, 2, none⟩ = some (.slice m.A m.cs.length m.ca) ∧ wr.cell? ⟨w.heap.size, 3, none⟩ = some (.slice m.O m.os.length m.co) := ⟨h.x0.cell 2 rfl, h.x0.cell 3 rfl⟩
end
/-- the end: the result's box is written -/
structure CnE (w : World) (y : Em) (wr : World) : Prop where
  f0 : wr.frozen? ⟨w.heap.size + 1, 0, none⟩ = false
  f1 : (wr.setCell ⟨w.heap.size + 1, 0, none⟩ (.slice y.D y.d.length y.c)).frozen? ⟨w.heap.size + 1, 1, none⟩ = false
  f2 : ((wr.setCell ⟨w.heap.size + 1, 0, none⟩ (.slice y.D y.d.length y.c)).setCell ⟨w.heap.size + 1, 1, none⟩ (.bool y.isM)).frozen? ⟨w.heap.size + 1, 2, none⟩ = false
  f3 : (((wr.setCell ⟨w.heap.size + 1, 0, none⟩ (.slice y.D y.d.length y.c)).setCell ⟨w.heap.size + 1, 1, none⟩ (.bool y.isM)).setCell ⟨w.heap.size + 1, 2, none⟩ (.slice y.m.A y.m.cs.length y.m.ca)).frozen? ⟨w.heap.size + 1, 3, none⟩ = false
  d0 : wr.cell? ⟨w.heap.size + 1, 0, none⟩ = some (.slice none 0 0)
  d1 : (wr.setCell ⟨w.heap.size + 1, 0, none⟩ (.slice y.D y.d.length y.c)).cell? ⟨w.heap.size + 1, 1, none⟩ = some (.bool false)
  d2 : ((wr.setCell ⟨w.heap.size + 1, 0, none⟩ (.slice y.D y.d.length y.c)).setCell ⟨w.heap.size + 1, 1, none⟩ (.bool y.isM)).cell? ⟨w.heap.size + 1, 2, none⟩ = some (.slice none 0 0)
  d3 : (((wr.setCell ⟨w.heap.size + 1, 0, none⟩ (.slice y.D y.d.length y.c)).setCell ⟨w.heap.size + 1, 1, none⟩ (.bool y.isM)).setCell ⟨w.heap.size + 1, 2, none⟩ (.slice y.m.A y.m.cs.length y.m.ca)).cell? ⟨w.heap.size + 1, 3, none⟩ = some (.slice none 0 0)
  q0 : ((((wr.setCell ⟨w.heap.size + 1, 0, none⟩ (.slice y.D y.d.length y.c)).setCell ⟨w.heap.size + 1, 1, none⟩ (.bool y.isM)).setCell ⟨w.heap.size + 1, 2, none⟩ (.slice y.m.A y.m.cs.length y.m.ca)).setCell ⟨w.heap.size + 1, 3, none⟩ (.slice y.m.O y.m.os.length y.m.co)).cell? ⟨w.heap.size + 1, 0, none⟩ = some (.slice y.D y.d.length y.c)
  q1 : ((((wr.setCell ⟨w.heap.size + 1, 0, none⟩ (.slice y.D y.d.length y.c)).setCell ⟨w.heap.size + 1, 1, none⟩ (.bool y.isM)).setCell ⟨w.heap.size + 1, 2, none⟩ (.slice y.m.A y.m.cs.length y.m.ca)).setCell ⟨w.heap.size + 1, 3, none⟩ (.slice y.m.O y.m.os.length y.m.co)).cell? ⟨w.heap.size + 1, 1, none⟩ = some (.bool y.isM)
  q2 : ((((wr.setCell ⟨w.heap.size + 1, 0, none⟩ (.slice y.D y.d.length y.c)).setCell ⟨w.heap.size + 1, 1, none⟩ (.bool y.isM)).setCell ⟨w.heap.size + 1, 2, none⟩ (.slice y.m.A y.m.cs.length y.m.ca)).setCell ⟨w.heap.size + 1, 3, none⟩ (.slice y.m.O y.m.os.length y.m.co)).cell? ⟨w.heap.size + 1, 2, none⟩ = some (.slice y.m.A y.m.cs.length y.m.ca)
  q3 : ((((wr.setCell ⟨w.heap.size + 1, 0, none⟩ (.slice y.D y.d.length y.c)).setCell ⟨w.heap.size + 1, 1, none⟩ (.bool y.isM)).setCell ⟨w.heap.size + 1, 2, none⟩ (.slice y.m.A y.m.cs.length y.m.ca)).setCell ⟨w.heap.size + 1, 3, none⟩ (.slice y.m.O y.m.os.length y.m.co)).cell? ⟨w.heap.size + 1, 3, none⟩ = some (.slice y.m.O y.m.os.length y.m.co)
  fin : EO ((((wr.setCell ⟨w.heap.size + 1, 0, none⟩ (.slice y.D y.d.length y.c)).setCell ⟨w.heap.size + 1, 1, none⟩ (.bool y.isM)).setCell ⟨w.heap.size + 1, 2, none⟩ (.slice y.m.A y.m.cs.length y.m.ca)).setCell ⟨w.heap.size + 1, 3, none⟩ (.slice y.m.O y.m.os.length y.m.co)) w.heap.size y ∧ Below w.heap.size w ((((wr.setCell ⟨w.heap.size + 1, 0, none⟩ (.slice y.D y.d.length y.c)).setCell ⟨w.heap.size + 1, 1, none⟩ (.bool y.isM)).setCell ⟨w.heap.size + 1, 2, none⟩ (.slice y.m.A y.m.cs.length y.m.ca)).setCell ⟨w.heap.size + 1, 3, none⟩ (.slice y.m.O y.m.os.length y.m.co))
theorem cn_end {w wr : World} {y : Em} (hr : Box wr (w.heap.size + 1) 42 #[.slice none 0 0, .bool false, .slice none 0 0, .slice none 0 0]) (hy : EO wr w.heap.size y) (hb : Below w.heap.size w wr) : CnE w y wr := by
  obtain ⟨⟨c0, c1, c2, c3⟩, ⟨f0, f1, f2, f3⟩, R⟩ := box_four hr (.slice y.D y.d.length y.c) (.bool y.isM) (.slice y.m.A y.m.cs.length y.m.ca) (.slice y.m.O y.m.os.length y.m.co)
  exact ⟨f0, f1, f2, f3, c0, c1, c2, c3, R.cell 0 rfl, R.cell 1 rfl, R.cell 2 rfl, R.cell 3 rfl, eo_four hr (Nat.le_succ _) hy hb _ _ _ _⟩

set_option maxHeartbeats 2000000 in
set_option maxRecDepth 100000 in
theorem mclone_deed (D : Option Addr) (c : Nat) (d : List Opr) (m : Mp) (w : World) (hx : ES w ⟨D, c, d, false, m⟩) (hl : d.length ≤ 1000000) :
    Calls Tryz.prog 91 #[.agg #[.slice D d.length c, .bool false, .slice m.A m.cs.length m.ca, .slice m.O m.os.length m.co]] w (RetCl w ⟨D, c, d, false, m⟩) := by
  have b0 := ((Below.refl w.heap.size w).alloc (Nat.le_refl _) (.cells #[.slice D d.length c, .bool false, .slice m.A m.cs.length m.ca, .slice m.O m.os.length m.co] 42)).alloc (by simp) (.cells #[.slice none 0 0, .bool false, .slice none 0 0, .slice none 0 0] 42)
  have x0 := (Box.new w 42 #[.slice D d.length c, .bool false, .slice m.A m.cs.length m.ca, .slice m.O m.os.length m.co]).alloc (.cells #[.slice none 0 0, .bool false, .slice none 0 0, .slice none 0 0] 42)
  have x1 := Box.new (w.alloc (.cells #[.slice D d.length c, .bool false, .slice m.A m.cs.length m.ca, .slice m.O m.os.length m.co] 42)) 42 #[.slice none 0 0, .bool false, .slice none 0 0, .slice none 0 0]
  simp only [World.size_alloc] at x1
  have c0 := x0.cell 0 (v := .slice D d.length c) rfl
  have c1 := x0.cell 1 (v := .bool false) rfl
  have hx1 := hx.ops.go b0
  have hsz : ((w.alloc (.cells #[.slice D d.length c, .bool false, .slice m.A m.cs.length m.ca, .slice m.O m.os.length m.co] 42)).alloc (.cells #[.slice none 0 0, .bool false, .slice none 0 0, .slice none 0 0] 42)).heap.size = w.heap.size + 2 := by simp
  go_enter Tryz.func91, Tryz.ntmps91
  go_wp2_with fail
  generalize (w.alloc _).alloc _ = w1 at b0 x0 x1 c0 c1 hx1 hsz ⊢
  have al := (Below.refl w1.heap.size w1).alloc (Nat.le_refl _) (.cells #[.slice D d.length c] 38)
  have HO := hideP (oconcat1 w1 (w.heap.size + 2) hsz.symm D d.length c d rfl hx1 (by omega))
  refine HO.out.mono ?_
  clear HO
  rintro e w2 ⟨v, rfl, hrow, hb2⟩
  obtain ⟨A', c', rfl, hoo⟩ := OO.of_row hrow
  have hb2' := b0.trans ((al.trans (hb2.mono (by simp))).mono b0.size)
  have x2 := (x1.below al).below hb2
  have hE := cn_end (y := ⟨A', c', d, false, noM⟩) x2 ⟨hoo.mono (by simp; omega), noM_mo _ _⟩ hb2'
  obtain ⟨f0, f1, f2, f3, d0, d1, d2, d3, q0, q1, q2, q3, hfin⟩ := hE
  have HF := hideP hfin
  clear hfin hrow hoo x0 x1 x2 hb2 hb2' al b0 hx1 hx c0 c1
  unfold noM at *
  simp only [List.length_nil] at *
  go_wp2_with fail
  exact bodyPost_ret (v := emV ⟨A', c', d, false, noM⟩) (by simp [results, Tryz.results91, go_sem, q0, q1, q2, q3, emV, emC, noM]) rfl ⟨⟨A', c', d, false, noM⟩, rfl, rfl, HF.out.1, HF.out.2⟩
set_option maxHeartbeats 4000000 in
set_option maxRecDepth 100000 in
theorem mclone_map (D : Option Addr) (c : Nat) (d : List Opr) (m : Mp) (w : World) (hx : ES w ⟨D, c, d, true, m⟩) (h1 : m.cs.length ≤ 1000) (h2 : m.os.length ≤ 1000) :
    Calls Tryz.prog 91 #[.agg #[.slice D d.length c, .bool true, .slice m.A m.cs.length m.ca, .slice m.O m.os.length m.co]] w (RetCl w ⟨D, c, d, true, m⟩) := by
  have hH : CnH w D c d m _ := ⟨(Box.new w 42 #[.slice D d.length c, .bool true, .slice m.A m.cs.length m.ca, .slice m.O m.os.length m.co]).alloc (.cells #[.slice none 0 0, .bool false, .slice none 0 0, .slice none 0 0] 42), by
    have := Box.new (w.alloc (.cells #[.slice D d.length c, .bool true, .slice m.A m.cs.length m.ca, .slice m.O m.os.length m.co] 42)) 42 #[.slice none 0 0, .bool false, .slice none 0 0, .slice none 0 0]
    simp only [World.size_alloc] at this
    exact this, hx.map.below (((Below.refl w.heap.size w).alloc (Nat.le_refl _) _).alloc (by simp) _), ((Below.refl w.heap.size w).alloc (Nat.le_refl _) _).alloc (by simp) _⟩
  have HP1 := hideP (fun (W : World) (h : CnH w D c d m W) (o : Nat) (ho : o < W.heap.size) (c0 : W.cell? ⟨o, 0, none⟩ = some (.slice m.A m.cs.length m.ca)) =>
    show Calls Tryz.prog 139 #[.slice (some ⟨o, 0, none⟩) 1 1] W fun e w' => ∃ A c0, e = .returned (.slice A m.cs.length c0) ∧ OR w' w.heap.size 9 A c0 (m.cs.map Value.string) ∧ CnH w D c d m w' ∧ Below W.heap.size W w' from by
      have := sconcat_any o 0 1 [⟨m.A, m.ca, m.cs⟩] W ⟨ho, fun j s hj => by
        match j with
        | 0 => simp at hj; subst hj; simpa using c0
        | j + 1 => simp at hj, fun s hs => by
        simp at hs
        subst hs
        exact h.ms.cuts⟩ (by simp [catS]; omega) (by simp)
      have e : catS [⟨m.A, m.ca, m.cs⟩] = m.cs := by simp [catS]
      rw [e] at this
      exact this.mono fun e w' ⟨A, c, h1, h2, h3⟩ => ⟨A, c, h1, h2.mono h.be.size, h.below h3, h3⟩)
  have HP2 := hideP (fun (W : World) (h : CnH w D c d m W) (o : Nat) (ho : o < W.heap.size) (c0 : W.cell? ⟨o, 0, none⟩ = some (.slice m.O m.os.length m.co)) =>
    show Calls Tryz.prog 140 #[.slice (some ⟨o, 0, none⟩) 1 1] W fun e w' => ∃ A c0, e = .returned (.slice A m.os.length c0) ∧ OR w' w.heap.size 3 A c0 (m.os.map (Value.int .i64)) ∧ CnH w D c d m w' ∧ Below W.heap.size W w' from by
      have := iconcat_any o 0 1 [⟨m.O, m.co, m.os⟩] W ⟨ho, fun j s hj => by
        match j with
        | 0 => simp at hj; subst hj; simpa using c0
        | j + 1 => simp at hj, fun s hs => by
        simp at hs
        subst hs
        exact h.ms.own.vs⟩ (by simp [catI]; omega) (by simp)
      have e : catI [⟨m.O, m.co, m.os⟩] = m.os := by simp [catI]
      rw [e] at this
      exact this.mono fun e w' ⟨A, c, h1, h2, h3⟩ => ⟨A, c, h1, h2.mono h.be.size, h.below h3, h3⟩)
  have HS := hideP (fun (W : World) (h : CnH w D c d m W) => h.c_)
  have HS3 := hideP (fun (W : World) (h : Box W w.heap.size 42 #[.slice D d.length c, .bool true, .slice m.A m.cs.length m.ca, .slice m.O m.os.length m.co]) => show W.cell? ⟨w.heap.size, 2, none⟩ = some (.slice m.A m.cs.length m.ca) ∧ W.cell? ⟨w.heap.size, 3, none⟩ = some (.slice m.O m.os.length m.co) from ⟨h.cell 2 rfl, h.cell 3 rfl⟩)
  have HFIN := hideP (fun (W : World) (h : CnH w D c d m W) (A O : Option Addr) (ca co : Nat) (hA : OR W w.heap.size 9 A ca (m.cs.map Value.string)) (hO : OR W w.heap.size 3 O co (m.os.map (Value.int .i64))) => show CnE w ⟨none, 0, [], true, ⟨A, ca, m.cs, O, co, m.os⟩⟩ W from cn_end h.res ⟨OO.nil _ _, ⟨hA, hO⟩⟩ h.be)
  have c1 := hH.x0.cell 1 (v := .bool true) rfl
  have c2 := hH.c_.1
  have c3 := hH.c_.2
  clear h1 h2 hx
  go_enter Tryz.func91, Tryz.ntmps91
  go_wp2_with fail
  generalize (w.alloc _).alloc _ = w3 at hH c1 c2 c3 ⊢
  generalize hg : w.heap.size = g at hH HP1 HP2 HS HS3 HFIN c1 c2 c3 ⊢
  have hlt := hH.res.lt
  clear c1 c2 c3
  rw [hg] at hlt
  go_region_held3 (fun w' => w'.cell? ⟨g, 2, none⟩ = some (.slice m.A m.cs.length m.ca) ∧ w'.cell? ⟨g, 3, none⟩ = some (.slice m.O m.os.length m.co)) (first | with_reducible exact hS3 | (refine HS.out _ ?_; (repeat first | with_reducible exact hH2 | with_reducible exact hH1 | with_reducible exact hH | with_reducible apply CnH.alloc | with_reducible apply CnH.drew))) (first
    | (go_at_call 139
       refine (HP1.out _ (by repeat first | with_reducible exact hH | with_reducible apply CnH.alloc | with_reducible apply CnH.drew) _ (by simp <;> omega) (by first | exact cell_dr (cell_nw (by simp) rfl) | exact cell_dr (cell_ol (by simp <;> omega) (cell_nw (by simp) rfl)) | exact cell_nw (by simp) rfl)).mono ?_
       rintro e w4 ⟨A', ca', rfl, hA, hH1, hb4⟩)
    | (go_at_call 140
       first
         | (refine (HP2.out _ (by repeat first | with_reducible exact hH1 | with_reducible apply CnH.alloc | with_reducible apply CnH.drew) _ (by simp <;> omega) (by first | exact cell_dr (cell_nw (by simp) rfl) | exact cell_dr (cell_ol (by simp <;> omega) (cell_nw (by simp) rfl)) | exact cell_nw (by simp) rfl)).mono ?_)
         | (refine (HP2.out _ hH1 _ ?_ ((hb4.cell (by simp <;> omega)).trans (by first | exact cell_dr (cell_nw (by simp) rfl) | exact cell_dr (cell_ol (by simp <;> omega) (cell_nw (by simp) rfl)) | exact cell_nw (by simp) rfl))).mono ?_
            · refine Nat.lt_of_lt_of_le ?_ hb4.size; (simp <;> omega))
       rintro e w5 ⟨O', co', rfl, hO, hH2, hb5⟩
       have hb5' : Below w4.heap.size w4 w5 := by first | exact hb5 | exact ((Below.refl _ _).alloc (Nat.le_refl _) _).trans (hb5.mono (by simp))
       have hE := HFIN.out w5 hH2 A' O' ca' co' (hA.below hb5') hO
       obtain ⟨f0, f1, f2, f3, d0, d1, d2, d3, q0, q1, q2, q3, hfin⟩ := hE
       simp only [List.length_nil, hg] at f0 f1 f2 f3 d0 d1 d2 d3 q0 q1 q2 q3 hfin
       have HF := hideP hfin
       have hx := (((hH2.x0.other (a := ⟨g + 1, 0, none⟩) (by show g + 1 ≠ w.heap.size; omega) (.slice none 0 0)).other (a := ⟨g + 1, 1, none⟩) (by show g + 1 ≠ w.heap.size; omega) (.bool true)).other (a := ⟨g + 1, 2, none⟩) (by show g + 1 ≠ w.heap.size; omega) (.slice A' m.cs.length ca')).other (a := ⟨g + 1, 3, none⟩) (by show g + 1 ≠ w.heap.size; omega) (.slice O' m.os.length co')
       rw [hg] at hx
       have hS3 := HS3.out _ hx
       clear hfin hx))
  all_goals
    go_wp2_with fail
    exact bodyPost_ret (v := emV ⟨none, 0, [], true, ⟨A', ca', m.cs, O', co', m.os⟩⟩) (by simp [results, Tryz.results91, go_sem, q0, q1, q2, q3, emV, emC]) rfl ⟨⟨none, 0, [], true, ⟨A', ca', m.cs, O', co', m.os⟩⟩, rfl, rfl, by rw [hg]; exact HF.out.1, by rw [hg]; exact HF.out.2⟩
theorem mclone_any (x : Em) (w : World) (hx : ES w x) (hc : chkE (entOf x) = 0) :
    Calls Tryz.prog 91 #[emV x] w (RetCl w x) := by
  obtain ⟨D, c, d, isM, m⟩ := x
  cases isM
  · have h : chkD d = 0 := hc
    exact mclone_deed D c d m w hx (by have := (chkD_zero.1 h).2.1; omega)
  · have h : OkM m.cs m.os := chkM_ok.1 hc
    exact mclone_map D c d m w hx (by have := h.few; omega) (by have := h.few; have := h.len; omega)
end Go.Proofs.YtefdipjhjgmokaaGreatDoor

set_option linter.unusedVariables false
set_option linter.unusedSimpArgs false
namespace Go.Proofs.YtefdipjhjgmokaaGreatDoor
open Go.RowKit

theorem below_dn {B : Nat} {a w : World} (h : Below B a w) (n : Nat) : Below B a (w.drewN n) := ⟨h.os, h.tape, h.output, h.size, h.block⟩
theorem addQ_none {ct : List (List (List Ent))} {i : Int} {x : Ent} (h : ¬ (0 ≤ i ∧ i < (ct.length : Int))) : addQ ct i x = 4 ∧ addC ct i x = ct := by
  have hq : addQ ct i x = 4 := by unfold addQ; rw [if_neg h]
  exact ⟨hq, by unfold addC; rw [if_neg (by rw [hq]; decide)]⟩
theorem addQ_bad {ct : List (List (List Ent))} {i : Int} {x : Ent} (h : 0 ≤ i ∧ i < (ct.length : Int)) (hc : chkE x ≠ 0) : addQ ct i x = chkE x ∧ addC ct i x = ct := by
  have hq : addQ ct i x = chkE x := by unfold addQ; rw [if_pos h, if_neg hc]
  exact ⟨hq, by unfold addC; rw [if_neg (by rw [hq]; exact hc)]⟩
theorem addQ_full {ct : List (List (List Ent))} {i : Int} {x : Ent} (h : 0 ≤ i ∧ i < (ct.length : Int)) (hc : chkE x = 0) (ht : 60 ≤ totM ct) : addQ ct i x = 2 ∧ addC ct i x = ct := by
  have hq : addQ ct i x = 2 := by unfold addQ; rw [if_pos h, if_pos hc, if_pos ht]
  exact ⟨hq, by unfold addC; rw [if_neg (by rw [hq]; decide)]⟩
theorem addQ_ok {ct : List (List (List Ent))} {i : Nat} {x : Ent} (h : i < ct.length) (hc : chkE x = 0) (ht : totM ct < 60) : addQ ct (i : Int) x = 0 ∧ addC ct (i : Int) x = addM ct i (dropE x) := by
  have hq : addQ ct (i : Int) x = 0 := by unfold addQ; rw [if_pos (by omega), if_pos hc, if_neg (by omega)]
  exact ⟨hq, by unfold addC; rw [if_pos hq, Int.toNat_natCast]⟩
theorem Gm.add {ins : List In} {added i k : Nat} {x : In} {b : Bt} (h : Gm ins added) (hi : ins[i]? = some x) (hk : x.bs[k]? = some b) (hkl : k = x.bs.length - 1) (ha : added < 60) (A : Option Addr) (c : Nat) (y : Em) : Gm (ins.set i ⟨x.A, x.c, x.bs.set k ⟨A, c, b.es ++ [y]⟩⟩) (added + 1) :=
  ⟨fun e => h.ne (by have := congrArg List.length e; simp at this; exact this), by simpa using h.few, fun j z hz => by
    rw [List.getElem?_set] at hz
    by_cases e : i = j
    · subst e
      rw [if_pos rfl, if_pos (List.getElem?_eq_some_iff.1 hi).1] at hz
      injection hz with hz
      subst hz
      simpa using h.bs i x hi
    · rw [if_neg e] at hz; exact h.bs j z hz, by
    rw [ct_add hi hk hkl, tot_add (b := ctI x) (entOf y) (by simp [ctM, hi]) (fun e => by have := congrArg List.length e; simp [ctI] at this; rw [this] at hk; simp at hk), h.cnt], by omega⟩
set_option maxHeartbeats 4000000 in
set_option maxRecDepth 100000 in
theorem madd_any (s : Ms) (B : Nat) (i : Int) (x : Em) (w : World) (h : s.Ok w B) (hx : ES w x) :
    Calls Tryz.prog 14 #[.pointer (some ⟨s.g, 0, none⟩), .int .i64 i, emV x] w fun e w' => ∃ s', e = .returned (.int .i64 (addQ s.ct i (entOf x))) ∧ s.To w B s' w' (addC s.ct i (entOf x)) := by
  have b0 := (Below.refl w.heap.size w).alloc (Nat.le_refl _) (.cells (emC x) 42)
  have x0 := Box.new w 42 (emC x)
  have hx1 := hx.below b0
  have h1 := h.below b0
  have HH := hideP (has_any B s.g s.x s.AI s.cI s.ins s.added i _ h1.mg)
  have hlen : s.ct.length = s.ins.length := by simp [Ms.ct, ctM]
  have e0 := x0.cell 0 (v := .slice x.D x.d.length x.c) rfl
  have e1 := x0.cell 1 (v := .bool x.isM) rfl
  have e2 := x0.cell 2 (v := .slice x.m.A x.m.cs.length x.m.ca) rfl
  have e3 := x0.cell 3 (v := .slice x.m.O x.m.os.length x.m.co) rfl
  by_cases hin : 0 ≤ i ∧ i < (s.ins.length : Int)
  · rw [decide_eq_true hin] at HH
    have HK := hideP (mcheck_any x _ hx1)
    by_cases hck : chkE (entOf x) = 0
    · rw [hck] at HK
      by_cases hful : 60 ≤ s.added
      · obtain ⟨q1, q2⟩ := addQ_full (ct := s.ct) (i := i) (x := entOf x) (by rw [hlen]; exact hin) hck (by have := h.gm.cnt; unfold Ms.ct; omega)
        rw [q1, q2]
        have HT := hideP (fun (w' : World) (hb : Below _ _ w') => show s.To w B s w' s.ct from Ms.To.same h (b0.trans (hb.mono b0.size)))
        have HA := hideP (fun (w' : World) (hb : Below _ _ w') => (h1.below hb).mg.c1)
        have d1 : (60 : Int) ≤ (s.added : Int) := by omega
        clear h h1 hx hx1 hin q1 q2 hlen hck x0 b0
        unfold emV at HK ⊢
        unfold emC at HH HK HT HA e0 e1 e2 e3
        go_enter Tryz.func14, Tryz.ntmps14
        go_wp2_with fail
        refine HH.out.mono ?_
        rintro e w' ⟨rfl, rfl⟩
        go_wp2_with fail
        refine HK.out.mono ?_
        rintro e w2 ⟨rfl, hb2⟩
        have c1 := HA.out w2 hb2
        go_wp2_with fail
        go_ret
        exact ⟨s, rfl, HT.out w2 hb2⟩
      · obtain ⟨n, rfl⟩ : ∃ n : Nat, i = n := ⟨i.toNat, by omega⟩
        have hn : n < s.ins.length := by omega
        obtain ⟨q1, q2⟩ := addQ_ok (ct := s.ct) (i := n) (x := entOf x) (by rw [hlen]; exact hn) hck (by have := h.gm.cnt; unfold Ms.ct; omega)
        rw [q1, q2]
        obtain ⟨xi, hxi⟩ : ∃ x, s.ins[n]? = some x := ⟨_, List.getElem?_eq_getElem hn⟩
        obtain ⟨k, hk⟩ := h.mg.pos hxi
        obtain ⟨b, hbk⟩ : ∃ b, xi.bs[k]? = some b := ⟨_, List.getElem?_eq_getElem (by omega)⟩
        have hxb := h.gm.bs n xi hxi
        have hes := h.gm.es hxi hbk
        obtain ⟨gi, hAI, _⟩ := h.mg.cell_ hxi
        obtain ⟨gx, hXA, _⟩ := h.mg.bcell hxi hbk
        have HC := hideP (fun W => closed_any xi.A xi.bs.length xi.c k hk (by omega) W)
        have g1 : (0 : Int) ≤ (n : Int) := by omega
        have g2 : (n : Int) < (s.ins.length : Int) := by omega
        have g3 : (0 : Int) ≤ (k : Int) := by omega
        have g4 : (k : Int) < (xi.bs.length : Int) := by omega
        have d1 : ¬ (60 : Int) ≤ (s.added : Int) := by omega
        have d2 : IntKind.i64.wrap ((s.added : Int) + 1) = ((s.added + 1 : Nat) : Int) := by simp only [IntKind.wrap_i64]; omega
        -- the cells, in whatever world behind the call
        have HCE := hideP (fun (W : World) (hb : Below w.heap.size w W) => show W.cell? ⟨s.g, 0, none⟩ = some (.slice s.AI s.ins.length s.cI) ∧ W.cell? ⟨s.g, 1, none⟩ = some (.int .i64 (s.added : Int)) ∧ W.cell? ⟨gi, n, none⟩ = some (.slice xi.A xi.bs.length xi.c) ∧ W.cell? ⟨gx, k, none⟩ = some (.slice b.A b.es.length b.c) from by
          have hW := h.below hb
          obtain ⟨_, e, p0⟩ := hW.mg.cell_ hxi
          rw [hAI] at e; injection e with e; injection e with e; subst e
          obtain ⟨_, e, p1⟩ := hW.mg.bcell hxi hbk
          rw [hXA] at e; injection e with e; injection e with e; subst e
          exact ⟨hW.mg.c0, hW.mg.c1, p0, p1⟩)
        have HXE := hideP (fun (W : World) (hb : Below (w.alloc (.cells (emC x) 42)).heap.size (w.alloc (.cells (emC x) 42)) W) => show ((W.cell? ⟨w.heap.size, 0, none⟩ = some (.slice x.D x.d.length x.c) ∧ W.cell? ⟨w.heap.size, 1, none⟩ = some (.bool x.isM)) ∧ W.cell? ⟨w.heap.size, 2, none⟩ = some (.slice x.m.A x.m.cs.length x.m.ca) ∧ W.cell? ⟨w.heap.size, 3, none⟩ = some (.slice x.m.O x.m.os.length x.m.co)) ∧ Below w.heap.size w W from
          ⟨⟨⟨(x0.below hb).cell 0 rfl, (x0.below hb).cell 1 rfl⟩, (x0.below hb).cell 2 rfl, (x0.below hb).cell 3 rfl⟩, b0.trans (hb.mono b0.size)⟩)
        have HCL := hideP (fun (W : World) (hb : Below (w.alloc (.cells (emC x) 42)).heap.size (w.alloc (.cells (emC x) 42)) W) => mclone_any x W (hx1.below hb) hck)
        have HAD := hideP (fun (W : World) (hb : Below w.heap.size w W) (y : Em) (hy : EO W w.heap.size y) (hye : entOf y = dropE (entOf x)) =>
          show ∃ A' c' w5 m1, (Builtin.append_ #[144, 144] 144 #[.slice b.A b.es.length b.c, .slice (some ⟨W.heap.size, 0, none⟩) 1 1]).run Tryz.prog (W.alloc (.cells (emC y) 42)) = .ok (.slice A' m1 c') w5 ∧
            w5.cell? ⟨gx, k, none⟩ = some (.slice b.A b.es.length b.c) ∧ w5.frozen? ⟨gx, k, none⟩ = false ∧
            (w5.setCell ⟨gx, k, none⟩ (.slice A' m1 c')).cell? ⟨s.g, 1, none⟩ = some (.int .i64 (s.added : Int)) ∧ (w5.setCell ⟨gx, k, none⟩ (.slice A' m1 c')).frozen? ⟨s.g, 1, none⟩ = false ∧
            ∃ s' : Ms, s.To w B s' ((w5.setCell ⟨gx, k, none⟩ (.slice A' m1 c')).setCell ⟨s.g, 1, none⟩ (.int .i64 ((s.added + 1 : Nat) : Int))) (addM s.ct n (dropE (entOf x))) from by
          have hb' := hb
          obtain ⟨A', c', w5, gx', hrun, e, q0, q1, q2, q3, hMG, hFr, hF⟩ := (h.below hb').mg.add hxi hbk (h.below hb').size (by omega) y (hy.mono h.size) (fun o ho => hx.bd o (by
            have e : y.d = (dropE (entOf x)).d := congrArg Ent.d hye
            rw [e] at ho
            unfold dropE at ho
            split at ho
            · simp at ho
            · exact ho)) (by rw [hye]; exact ⟨by rw [chkE_drop]; exact hck, dropE_twice _⟩) 144
          rw [hXA] at e; injection e with e; injection e with e; subst e
          have hGm := h.gm.add hxi hbk (by omega) (by omega) A' c' y
          have hct : ctM (s.ins.set n ⟨xi.A, xi.c, xi.bs.set k ⟨A', c', b.es ++ [y]⟩⟩) = addM s.ct n (dropE (entOf x)) := by rw [← hye]; exact ct_add hxi hbk (by omega) A' c' y
          exact ⟨A', c', w5, _, hrun, q0, q1, q2, q3, ⟨s.g, s.x, s.AI, s.cI, s.ins.set n ⟨xi.A, xi.c, xi.bs.set k ⟨A', c', b.es ++ [y]⟩⟩, s.added + 1⟩, rfl, rfl, ⟨hMG, hGm⟩, hct, (Fr.of_below hb').comp hFr, fun q hq => (hF q hq).imp id fun e => Nat.le_trans hb'.size e⟩)
        rw [hAI] at HCE
        clear h h1 hx hx1 hin q1 q2 hlen hck x0 hxi hbk hk hxb hes hAI
        rw [hXA] at HCE HC
        clear hXA
        unfold emV at HK HCL ⊢
        unfold emC at HH HK HCL HXE e0 e1 e2 e3 b0 ⊢
        generalize b.A = bA at HCE HAD
        generalize b.es.length = bn at HCE HAD
        generalize b.c = bc at HCE HAD
        generalize xi.bs.length = xn at HCE HC g4
        generalize xi.c = xc at HCE HC
        go_enter Tryz.func14, Tryz.ntmps14
        go_wp2_with fail
        generalize w.alloc _ = w1 at HH HK HCL HXE e0 e1 e2 e3 b0 ⊢
        refine HH.out.mono ?_
        rintro e w' ⟨rfl, rfl⟩
        go_wp2_with fail
        refine HK.out.mono ?_
        rintro e w2 ⟨rfl, hb2⟩
        clear HH HK e0 e1 e2 e3
        obtain ⟨⟨⟨e0, e1⟩, e2, e3⟩, b2⟩ := HXE.out w2 hb2
        obtain ⟨c0, c1, c2, c3⟩ := HCE.out w2 b2
        go_wp2_with fail
        go_quiet ((go_at_call 90; exact (HC.out _).mono fun e w' h => ⟨h.1, _, h.2.symm⟩))
        have b3 : Below w.heap.size w (w2.drewN nq) := below_dn b2 nq
        have hb3 : Below w1.heap.size w1 (w2.drewN nq) := below_dn hb2 nq
        clear e0 e1 e2 e3 c0 c1 c2 c3 b2 hb2 HC
        generalize w2.drewN nq = w3 at b3 hb3 ⊢
        obtain ⟨⟨⟨e0, e1⟩, e2, e3⟩, _⟩ := HXE.out w3 hb3
        obtain ⟨c0, c1, c2, c3⟩ := HCE.out w3 b3
        have HCL3 := hideP (HCL.out w3.drew hb3.drew)
        have HW4 := hideP (fun (w4 : World) (hb4 : Below w3.drew.heap.size w3.drew w4) => show Below w.heap.size w w4 from b3.drew.trans (hb4.mono b3.drew.size))
        have hsz3 : w.heap.size ≤ w3.drew.heap.size := b3.drew.size
        clear HCL HXE b3 hb3
        go_wp2_with fail
        go_region_law (first
          | (refine step_append_runM _ rfl _ _ _ _ rfl _ _ rfl rfl _ _ HR.out ?_)
          | (go_simp
             go_at_call 91
             refine HCL3.out.mono ?_
             rintro e w4 ⟨y, rfl, hye, hy, hb4⟩
             have b4 := HW4.out w4 hb4
             obtain ⟨A', c', w5, m1, hrun, k1, k2, k3, k4, s', hT⟩ := HAD.out w4 b4 y (hy.mono hsz3) hye
             have HR := hideP hrun
             have HT := hideP hT
             obtain ⟨_, _, _, c4⟩ := HCE.out w4 b4
             obtain ⟨_, _, _, c5⟩ := HCE.out _ (b4.alloc b4.size (.cells (emC y) 42))
             unfold emC at HR c5
             unfold emV emC
             clear hrun hT))
        all_goals
          go_wp2_with fail
          go_ret
          exact ⟨s', rfl, HT.out⟩
    · obtain ⟨q1, q2⟩ := addQ_bad (ct := s.ct) (i := i) (x := entOf x) (by rw [hlen]; exact hin) hck
      rw [q1, q2]
      have HT := hideP (fun (w' : World) (hb : Below _ _ w') => show s.To w B s w' s.ct from Ms.To.same h (b0.trans (hb.mono b0.size)))
      have d1 : (chkE (entOf x) != 0) = true := by simpa using hck
      clear h h1 hx hx1 hin q1 q2 hlen hck x0 b0
      unfold emV at HK ⊢
      unfold emC at HH HK HT e0 e1 e2 e3 ⊢
      generalize chkE (entOf x) = q at HK d1 ⊢
      go_enter Tryz.func14, Tryz.ntmps14
      go_wp2_with fail
      refine HH.out.mono ?_
      rintro e w' ⟨rfl, rfl⟩
      go_wp2_with fail
      refine HK.out.mono ?_
      rintro e w2 ⟨rfl, hb2⟩
      go_wp2_with fail
      go_ret
      exact ⟨s, rfl, HT.out w2 hb2⟩
  · rw [decide_eq_false hin] at HH
    obtain ⟨q1, q2⟩ := addQ_none (ct := s.ct) (i := i) (x := entOf x) (by rw [hlen]; exact hin)
    rw [q1, q2]
    have HT := hideP (show s.To w B s _ s.ct from Ms.To.same h b0)
    clear h h1 hx hx1 hin q1 q2 hlen x0 b0
    unfold emV
    unfold emC at HH HT e0 e1 e2 e3 ⊢
    go_enter Tryz.func14, Tryz.ntmps14
    go_wp2_with fail
    refine HH.out.mono ?_
    rintro e w' ⟨rfl, rfl⟩
    go_wp2_with fail
    go_ret
    exact ⟨s, rfl, HT.out⟩
end Go.Proofs.YtefdipjhjgmokaaGreatDoor
