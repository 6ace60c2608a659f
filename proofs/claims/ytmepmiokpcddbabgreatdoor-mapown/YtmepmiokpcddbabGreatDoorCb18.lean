/-
  parts.divide.
  parts.clone.
  parts.New and Map.
  An array's elements by number.
  store.find: what it answers.
-/
import Derived.Test.YtmepmiokpcddbabGreatDoorCb8
import Derived.Test.YtmepmiokpcddbabGreatDoorCb17
import Derived.Test.YtmepmiokpcddbabGreatDoorCb12
import Derived.Test.YtmepmiokpcddbabGreatDoorCb13
import Derived.Deep.RegionHeld3
import Derived.Test.YtmepmiokpcddbabGreatDoorCb1
set_option linter.unusedVariables false
set_option linter.unusedSimpArgs false
namespace Go.Proofs.YtmepmiokpcddbabGreatDoor
open Go.RowKit

/-- while the parts are made -/
structure DvH (w : World) (g : Nat) (m : Mp) (l : List Pr) (q : Dv) (k : Nat) (wr : World) : Prop where
  mh : MH w g m wr
  res : Box wr (g + 1) 136 #[.slice none 0 0, .slice none 0 0, .slice none 0 0, .slice none 0 0]
  box : Box wr (g + 2) 136 (q.up m.cs m.os l k)
  own : q.Own wr w.heap.size m.cs m.os l k
  low : w.heap.size ≤ g
section
variable {w wr w' : World} {g k : Nat} {m : Mp} {l : List Pr} {q : Dv}
theorem DvH.below (h : DvH w g m l q k wr) (hb : Below wr.heap.size wr w') : DvH w g m l q k w' := ⟨h.mh.below hb, h.res.below hb, h.box.below hb, h.own.below hb, h.low⟩
theorem DvH.step (h : DvH w g m l q k wr) (hm : MS w m) (hk : k < 4) {A : Option Addr} {c : Nat} (hov : OV wr w.heap.size A c (ptL m.cs m.os (k : Int) l)) : DvH w g m l (q.put k A c) (k + 1) (wr.setCell ⟨g + 2, k, none⟩ (.slice A (ptL m.cs m.os (k : Int) l).length c)) := by
  have hb := below_set (i := k) (v := .slice A (ptL m.cs m.os (k : Int) l).length c) h.mh.be (show w.heap.size ≤ g + 2 by have := h.low; omega)
  refine ⟨⟨h.mh.x0.other (by show g + 2 ≠ g; omega) _, hm.below hb, hb⟩, h.res.other (by show g + 2 ≠ g + 1; omega) _, ?_, (h.own.put hov).kept h.box.ty (by decide) (grown_set _ _ _ _), h.low⟩
  have := h.box.set k (.slice A (ptL m.cs m.os (k : Int) l).length c)
  rw [Dv.up_put hk] at this
  exact this
end
def DvI (w : World) (g : Nat) (m : Mp) (l : List Pr) (i : Value) (wr : World) : Prop := ∃ (k : Nat) (q : Dv), k ≤ 4 ∧ i = .int .i64 k ∧ DvH w g m l q k wr

set_option maxHeartbeats 1000000 in
set_option maxRecDepth 100000 in
theorem divide_ok (m : Mp) (A : Option Addr) (c : Nat) (l : List Pr) (w : World) (hm : MS w m) (hA : PS w w.heap.size A l) (hok : OkM m.cs m.os) (hokl : Ok l) :
    Calls Tryz.prog 95 #[.agg #[.slice m.A m.cs.length m.ca, .slice m.O m.os.length m.co], .slice A l.length c] w
      fun e w' => ∃ q : Dv, e = .returned (.tuple #[.agg (q.ar m.cs m.os l), .int .i64 0]) ∧ q.Own w' w.heap.size m.cs m.os l 4 ∧ Below w.heap.size w w' := by
  have hsm := hokl.small
  have b1 := (Below.refl w.heap.size w).alloc (Nat.le_refl _) (.cells #[.slice m.A m.cs.length m.ca, .slice m.O m.os.length m.co] 28)
  have hH := ((MH.new hm).alloc (o := .cells #[.slice none 0 0, .slice none 0 0, .slice none 0 0, .slice none 0 0] 136)).alloc (o := .cells #[.slice none 0 0, .slice none 0 0, .slice none 0 0, .slice none 0 0] 136)
  have x1 := (Box.new (w.alloc (.cells #[.slice m.A m.cs.length m.ca, .slice m.O m.os.length m.co] 28)) 136 #[.slice none 0 0, .slice none 0 0, .slice none 0 0, .slice none 0 0]).alloc (.cells #[.slice none 0 0, .slice none 0 0, .slice none 0 0, .slice none 0 0] 136)
  have x2 := Box.new ((w.alloc (.cells #[.slice m.A m.cs.length m.ca, .slice m.O m.os.length m.co] 28)).alloc (.cells #[.slice none 0 0, .slice none 0 0, .slice none 0 0, .slice none 0 0] 136)) 136 #[.slice none 0 0, .slice none 0 0, .slice none 0 0, .slice none 0 0]
  simp only [World.size_alloc] at x1 x2
  have hD : DvH w w.heap.size m l noD 0 _ := ⟨hH, x1, x2, fun j hj => absurd hj (by omega), Nat.le_refl _⟩
  clear x1 x2 b1 hH
  go_enter Tryz.func95, Tryz.ntmps95
  go_wp2_with fail
  generalize ((w.alloc _).alloc _).alloc _ = w1 at hD ⊢
  generalize hg : w.heap.size = g at hD ⊢
  go_loopw [10] (DvI w g m l) (fun i _ => 4 - (intOf i).toNat)
  case atStart => exact ⟨0, noD, by omega, rfl, hD⟩
  case round =>
    obtain ⟨k, q, hk, rfl, h⟩ := hrel
    clear hD
    by_cases hlt : k < 4
    · have g1 : (k : Int) < 4 := by omega
      have g2 : (0 : Int) ≤ (k : Int) := by omega
      obtain ⟨z1, z2⟩ := h.mh.c
      have HPT := hideP (shpart_any m A c l (k : Int) wr h.mh.ms ((hA.below h.mh.be).more h.mh.be.size) hok.l2 (by omega))
      rw [partV_ok (chkM_ok.2 hok) (chk_ok.2 hokl) (ownB_iff.2 (by omega))] at HPT
      go_wp2_with fail
      refine HPT.out.mono ?_
      rintro e w2 ⟨Ap, cp, rfl, hov, hb2⟩
      simp only at hov ⊢
      have hbe := h.mh.be.size
      replace h := h.below hb2
      have f1 := h.box.frozen k
      have c1 := h.box.cell k (Dv.up_at hlt hlt)
      clear hb2 z1 z2 HPT
      have HN := hideP (h.step hm hlt (hov.mono hbe))
      clear hov
      go_wp2_with fail
      go_roundw
      case rel => exact ⟨k + 1, q.put k Ap cp, by omega, by go_num, HN.out⟩
      case measure => simp [intOf]; omega
    · have hk4 : k = 4 := by omega
      have h4 : DvH w g m l q 4 wr := hk4 ▸ h
      clear h hk4
      have y0 := h4.box.cell 0 (v := q.s m.cs m.os l 0) rfl
      have y1 := h4.box.cell 1 (v := q.s m.cs m.os l 1) rfl
      have y2 := h4.box.cell 2 (v := q.s m.cs m.os l 2) rfl
      have y3 := h4.box.cell 3 (v := q.s m.cs m.os l 3) rfl
      have o := h4.res
      have HN := hideP (fun (xs : List (Nat × Value)) => show q.Own (xs.foldl (fun w x => w.setCell ⟨g + 1, x.1, none⟩ x.2) wr) w.heap.size m.cs m.os l 4 ∧ Below w.heap.size w (xs.foldl (fun w x => w.setCell ⟨g + 1, x.1, none⟩ x.2) wr) from
        ⟨h4.own.kept h4.res.ty (by decide) (grown_box xs), Below.kept h4.mh.be (by have := h4.low; omega) (grown_box xs)⟩)
      clear hm hA h4
      have HA := hideP (show #[q.s m.cs m.os l 0, q.s m.cs m.os l 1, q.s m.cs m.os l 2, q.s m.cs m.os l 3] = q.ar m.cs m.os l from rfl)
      have HL := hideP (HN.out [(0, q.s m.cs m.os l 0), (1, q.s m.cs m.os l 1), (2, q.s m.cs m.os l 2), (3, q.s m.cs m.os l 3)])
      simp only [List.foldl] at HL
      obtain ⟨a0, n0, c0, e0⟩ : ∃ a n c, q.s m.cs m.os l 0 = .slice a n c := ⟨_, _, _, rfl⟩
      rw [e0] at y0 HA HL
      obtain ⟨a1, n1, c1, e1⟩ : ∃ a n c, q.s m.cs m.os l 1 = .slice a n c := ⟨_, _, _, rfl⟩
      rw [e1] at y1 HA HL
      obtain ⟨a2, n2, c2, e2⟩ : ∃ a n c, q.s m.cs m.os l 2 = .slice a n c := ⟨_, _, _, rfl⟩
      rw [e2] at y2 HA HL
      obtain ⟨a3, n3, c3, e3⟩ : ∃ a n c, q.s m.cs m.os l 3 = .slice a n c := ⟨_, _, _, rfl⟩
      rw [e3] at y3 HA HL
      have o1 := o.set 0 (.slice a0 n0 c0)
      have o2 := o1.set 1 (.slice a1 n1 c1)
      have o3 := o2.set 2 (.slice a2 n2 c2)
      have o4 := o3.set 3 (.slice a3 n3 c3)
      have f0 := o.frozen 0
      have f1 := o1.frozen 1
      have f2 := o2.frozen 2
      have f3 := o3.frozen 3
      have d0 := o.cell 0 (v := .slice none 0 0) rfl
      have d1 := o1.cell 1 (v := .slice none 0 0) rfl
      have d2 := o2.cell 2 (v := .slice none 0 0) rfl
      have d3 := o3.cell 3 (v := .slice none 0 0) rfl
      have q0 := o4.cell 0 (v := .slice a0 n0 c0) rfl
      have q1 := o4.cell 1 (v := .slice a1 n1 c1) rfl
      have q2 := o4.cell 2 (v := .slice a2 n2 c2) rfl
      have q3 := o4.cell 3 (v := .slice a3 n3 c3) rfl
      clear o o1 o2 o3 o4 HN e0 e1 e2 e3
      go_wp2_with fail
      exact bodyPost_ret (v := .tuple #[.agg #[.slice a0 n0 c0, .slice a1 n1 c1, .slice a2 n2 c2, .slice a3 n3 c3], .int .i64 0]) (by simp [results, Tryz.results95, go_sem, q0, q1, q2, q3]) rfl ⟨q, by rw [HA.out], HL.out⟩
/-- the four slices, each spelt out -/
def Dv4 (q : Dv) (cs : List ByteArray) (os : List Int) (l : List Pr) (v0 v1 v2 v3 : Value) : Prop := q.s cs os l 0 = v0 ∧ q.s cs os l 1 = v1 ∧ q.s cs os l 2 = v2 ∧ q.s cs os l 3 = v3
def RetDv (w : World) (cs : List ByteArray) (os : List Int) (l : List Pr) (e : Ending) (w' : World) : Prop :=
  ∃ (q : Dv) (a0 a1 a2 a3 : Option Addr) (n0 n1 n2 n3 c0 c1 c2 c3 : Nat), e = .returned (.tuple #[.agg #[.slice a0 n0 c0, .slice a1 n1 c1, .slice a2 n2 c2, .slice a3 n3 c3], .int .i64 0]) ∧ Dv4 q cs os l (.slice a0 n0 c0) (.slice a1 n1 c1) (.slice a2 n2 c2) (.slice a3 n3 c3) ∧ q.Own w' w.heap.size cs os l 4 ∧ Below w.heap.size w w'
theorem divide_4 (m : Mp) (A : Option Addr) (c : Nat) (l : List Pr) (w : World) (hm : MS w m) (hA : PS w w.heap.size A l) (hok : OkM m.cs m.os) (hokl : Ok l) :
    Calls Tryz.prog 95 #[.agg #[.slice m.A m.cs.length m.ca, .slice m.O m.os.length m.co], .slice A l.length c] w (RetDv w m.cs m.os l) := by
  refine (divide_ok m A c l w hm hA hok hokl).mono ?_
  rintro e w' ⟨q, rfl, h1, h2⟩
  exact ⟨q, _, _, _, _, _, _, _, _, _, _, _, _, rfl, ⟨rfl, rfl, rfl, rfl⟩, h1, h2⟩
end Go.Proofs.YtmepmiokpcddbabGreatDoor

set_option linter.unusedVariables false
set_option linter.unusedSimpArgs false
namespace Go.Proofs.YtmepmiokpcddbabGreatDoor
open Go.RowKit

set_option maxHeartbeats 2000000 in
set_option maxRecDepth 100000 in
theorem clone_any (m : Mp) (w : World) (hm : MS w m) (h1 : m.cs.length ≤ 1000) (h2 : m.os.length ≤ 1000) :
    Calls Tryz.prog 96 #[.agg #[.slice m.A m.cs.length m.ca, .slice m.O m.os.length m.co]] w
      fun e w' => ∃ A ca O co, e = .returned (.agg #[.slice A m.cs.length ca, .slice O m.os.length co]) ∧ MO w' w.heap.size ⟨A, ca, m.cs, O, co, m.os⟩ ∧ Below w.heap.size w w' := by
  have hH := RH.new hm
  have HP1 := hideP (fun (W : World) (h : RH w w.heap.size m W) (o : Nat) (ho : o < W.heap.size) (c0 : W.cell? ⟨o, 0, none⟩ = some (.slice m.A m.cs.length m.ca)) =>
    show Calls Tryz.prog 91 #[.slice (some ⟨o, 0, none⟩) 1 1] W fun e w' => ∃ A c, e = .returned (.slice A m.cs.length c) ∧ OR w' w.heap.size 9 A c (m.cs.map Value.string) ∧ RH w w.heap.size m w' ∧ Below W.heap.size W w' from by
      have := sconcat_any o 0 1 [⟨m.A, m.ca, m.cs⟩] W ⟨ho, fun j s hj => by
        match j with
        | 0 => simp at hj; subst hj; simpa using c0
        | j + 1 => simp at hj, fun s hs => by
        simp at hs
        subst hs
        exact h.mh.ms.cuts⟩ (by simp [catS]; omega) (by simp)
      have e : catS [⟨m.A, m.ca, m.cs⟩] = m.cs := by simp [catS]
      rw [e] at this
      exact this.mono fun e w' ⟨A, c, h1, h2, h3⟩ => ⟨A, c, h1, h2.mono h.mh.be.size, h.below h3, h3⟩)
  have HP2 := hideP (fun (W : World) (h : RH w w.heap.size m W) (o : Nat) (ho : o < W.heap.size) (c0 : W.cell? ⟨o, 0, none⟩ = some (.slice m.O m.os.length m.co)) =>
    show Calls Tryz.prog 92 #[.slice (some ⟨o, 0, none⟩) 1 1] W fun e w' => ∃ A c, e = .returned (.slice A m.os.length c) ∧ OR w' w.heap.size 3 A c (m.os.map (Value.int .i64)) ∧ RH w w.heap.size m w' ∧ Below W.heap.size W w' from by
      have := iconcat_any o 0 1 [⟨m.O, m.co, m.os⟩] W ⟨ho, fun j s hj => by
        match j with
        | 0 => simp at hj; subst hj; simpa using c0
        | j + 1 => simp at hj, fun s hs => by
        simp at hs
        subst hs
        exact h.mh.ms.own.vs⟩ (by simp [catI]; omega) (by simp)
      have e : catI [⟨m.O, m.co, m.os⟩] = m.os := by simp [catI]
      rw [e] at this
      exact this.mono fun e w' ⟨A, c, h1, h2, h3⟩ => ⟨A, c, h1, h2.mono h.mh.be.size, h.below h3, h3⟩)
  have HS := hideP (fun (W : World) (h : RH w w.heap.size m W) => h.mh.c)
  have HS3 := hideP (fun (W : World) (h : Box W w.heap.size 28 #[.slice m.A m.cs.length m.ca, .slice m.O m.os.length m.co]) => show W.cell? ⟨w.heap.size, 0, none⟩ = some (.slice m.A m.cs.length m.ca) ∧ W.cell? ⟨w.heap.size, 1, none⟩ = some (.slice m.O m.os.length m.co) from ⟨h.cell 0 rfl, h.cell 1 rfl⟩)
  have HFIN := hideP (fun (W : World) (h : RH w w.heap.size m W) (A O : Option Addr) (ca co : Nat) (hA : OR W w.heap.size 9 A ca (m.cs.map Value.string)) (hO : OR W w.heap.size 3 O co (m.os.map (Value.int .i64))) => show RF w w.heap.size ⟨A, ca, m.cs, O, co, m.os⟩ W from h.rf ⟨hA, hO⟩)
  clear h1 h2
  go_enter Tryz.func96, Tryz.ntmps96
  go_wp2_with fail
  generalize (w.alloc _).alloc _ = w3 at hH ⊢
  generalize hg : w.heap.size = g at hH HP1 HP2 HS HS3 HFIN ⊢
  have hlt := hH.res.lt
  go_region_held3 (fun w' => w'.cell? ⟨g, 0, none⟩ = some (.slice m.A m.cs.length m.ca) ∧ w'.cell? ⟨g, 1, none⟩ = some (.slice m.O m.os.length m.co)) (first | with_reducible exact hS3 | (refine HS.out _ ?_; (repeat first | with_reducible exact hH2 | with_reducible exact hH1 | with_reducible exact hH | with_reducible apply RH.alloc | with_reducible apply RH.drew))) (first
    | (go_at_call 91
       refine (HP1.out _ (by repeat first | with_reducible exact hH | with_reducible apply RH.alloc | with_reducible apply RH.drew) _ (by simp <;> omega) (by first | exact cell_dr (cell_nw (by simp) rfl) | exact cell_dr (cell_ol (by simp <;> omega) (cell_nw (by simp) rfl)) | exact cell_nw (by simp) rfl)).mono ?_
       rintro e w4 ⟨A', ca', rfl, hA, hH1, hb4⟩)
    | (go_at_call 92
       first
         | (refine (HP2.out _ (by repeat first | with_reducible exact hH1 | with_reducible apply RH.alloc | with_reducible apply RH.drew) _ (by simp <;> omega) (by first | exact cell_dr (cell_nw (by simp) rfl) | exact cell_dr (cell_ol (by simp <;> omega) (cell_nw (by simp) rfl)) | exact cell_nw (by simp) rfl)).mono ?_)
         | (refine (HP2.out _ hH1 _ ?_ ((hb4.cell (by simp <;> omega)).trans (by first | exact cell_dr (cell_nw (by simp) rfl) | exact cell_dr (cell_ol (by simp <;> omega) (cell_nw (by simp) rfl)) | exact cell_nw (by simp) rfl))).mono ?_
            · refine Nat.lt_of_lt_of_le ?_ hb4.size; (simp <;> omega))
       rintro e w5 ⟨O', co', rfl, hO, hH2, hb5⟩
       have hb5' : Below w4.heap.size w4 w5 := by first | exact hb5 | exact ((Below.refl _ _).alloc (Nat.le_refl _) _).trans (hb5.mono (by simp))
       obtain ⟨f0, f1, d0, d1, q0, q1, hfin⟩ := HFIN.out w5 hH2 A' O' ca' co' (hA.below hb5') hO
       simp only at f1 d1 q0 q1 hfin
       have HF := hideP hfin
       have hx := ((hH2.mh.x0.other (a := ⟨g + 1, 0, none⟩) (by show g + 1 ≠ g; omega) (.slice A' m.cs.length ca')).other (a := ⟨g + 1, 1, none⟩) (by show g + 1 ≠ g; omega) (.slice O' m.os.length co'))
       have hS3 := HS3.out _ hx
       clear hfin hx))
  all_goals
    go_wp2_with fail
    exact bodyPost_ret (v := .agg #[.slice A' m.cs.length ca', .slice O' m.os.length co']) (by simp [results, Tryz.results96, go_sem, q0, q1]) rfl ⟨A', ca', O', co', rfl, HF.out.1, HF.out.2⟩
end Go.Proofs.YtmepmiokpcddbabGreatDoor

set_option linter.unusedVariables false
set_option linter.unusedSimpArgs false
namespace Go.Proofs.YtmepmiokpcddbabGreatDoor
open Go.RowKit

/-- while New runs -/
structure NwH (w : World) (g : Nat) (m : Mp) (l : List Pr) (q : Dv) (wr : World) : Prop where
  mh : MH w g m wr
  own : q.Own wr w.heap.size m.cs m.os l 4
  low : w.heap.size ≤ g
theorem NwH.below {w wr w' : World} {g : Nat} {m : Mp} {l : List Pr} {q : Dv} (h : NwH w g m l q wr) (hb : Below wr.heap.size wr w') : NwH w g m l q w' := ⟨h.mh.below hb, h.own.below hb, h.low⟩
/-- a partitioned store is handed back -/
def RetNw (w : World) (cs : List ByteArray) (os : List Int) (l : List Pr) (e : Ending) (w' : World) : Prop :=
  ∃ (g : Nat) (A : Option Addr) (ca : Nat) (O : Option Addr) (co : Nat) (q : Dv), e = .returned (.tuple #[.pointer (some ⟨g, 0, none⟩), .int .i64 0]) ∧ PB w' w.heap.size g ⟨A, ca, cs, O, co, os⟩ l q ∧ Below w.heap.size w w'

set_option maxHeartbeats 2000000 in
set_option maxRecDepth 100000 in
theorem new_ok (m : Mp) (A : Option Addr) (c : Nat) (l : List Pr) (w : World) (hm : MS w m) (hA : PS w w.heap.size A l) (hok : OkM m.cs m.os) (hokl : Ok l) :
    Calls Tryz.prog 39 #[.agg #[.slice m.A m.cs.length m.ca, .slice m.O m.os.length m.co], .slice A l.length c] w (RetNw w m.cs m.os l) := by
  have hH := MH.new hm
  have hps := (hA.below hH.be).more hH.be.size
  obtain ⟨z1, z2⟩ := hH.c
  go_enter Tryz.func39, Tryz.ntmps39
  go_wp2_with fail
  generalize w.alloc _ = w1 at hH hps z1 z2 ⊢
  generalize hg : w.heap.size = g at hH z1 z2 ⊢
  refine (divide_ok m A c l _ hH.ms hps hok hokl).mono ?_
  rintro e w2 ⟨q, rfl, hq, hb2⟩
  have hN : NwH w g m l q w2 := ⟨hH.below hb2, hq.mono hH.be.size, by omega⟩
  clear hH hps hb2 z1 z2 hq hA
  simp only [Dv.ar]
  obtain ⟨a0, n0, c0, e0⟩ : ∃ a n c, q.s m.cs m.os l 0 = .slice a n c := ⟨_, _, _, rfl⟩
  obtain ⟨a1, n1, c1, e1⟩ : ∃ a n c, q.s m.cs m.os l 1 = .slice a n c := ⟨_, _, _, rfl⟩
  obtain ⟨a2, n2, c2, e2⟩ : ∃ a n c, q.s m.cs m.os l 2 = .slice a n c := ⟨_, _, _, rfl⟩
  obtain ⟨a3, n3, c3, e3⟩ : ∃ a n c, q.s m.cs m.os l 3 = .slice a n c := ⟨_, _, _, rfl⟩
  rw [e0, e1, e2, e3]
  have HE := hideP (show q.s m.cs m.os l 0 = .slice a0 n0 c0 ∧ q.s m.cs m.os l 1 = .slice a1 n1 c1 ∧ q.s m.cs m.os l 2 = .slice a2 n2 c2 ∧ q.s m.cs m.os l 3 = .slice a3 n3 c3 from ⟨e0, e1, e2, e3⟩)
  clear e0 e1 e2 e3
  have hN3 := hN.below ((Below.refl _ _).alloc (Nat.le_refl _) (.cells #[.slice a0 n0 c0, .slice a1 n1 c1, .slice a2 n2 c2, .slice a3 n3 c3] 136))
  have y := Box.new w2 136 #[.slice a0 n0 c0, .slice a1 n1 c1, .slice a2 n2 c2, .slice a3 n3 c3]
  clear hN
  go_wp2_with fail
  generalize w2.alloc _ = w3 at hN3 y ⊢
  generalize w2.heap.size = gd at y ⊢
  have HS := hideP (fun (W : World) (h : NwH w g m l q W) (y : Box W gd 136 #[.slice a0 n0 c0, .slice a1 n1 c1, .slice a2 n2 c2, .slice a3 n3 c3]) =>
    show (W.cell? ⟨g, 0, none⟩ = some (.slice m.A m.cs.length m.ca) ∧ W.cell? ⟨g, 1, none⟩ = some (.slice m.O m.os.length m.co)) ∧ W.cell? ⟨gd, 0, none⟩ = some (.slice a0 n0 c0) ∧ W.cell? ⟨gd, 1, none⟩ = some (.slice a1 n1 c1) ∧ W.cell? ⟨gd, 2, none⟩ = some (.slice a2 n2 c2) ∧ W.cell? ⟨gd, 3, none⟩ = some (.slice a3 n3 c3) from
      ⟨h.mh.c, y.cell 0 rfl, y.cell 1 rfl, y.cell 2 rfl, y.cell 3 rfl⟩)
  have HCL := hideP (fun (W : World) (h : NwH w g m l q W) => clone_any m W h.mh.ms (by have := hok.few; omega) (by have := hok.few; have := hok.len; omega))
  have HFIN := hideP (fun (W : World) (h : NwH w g m l q W) (A' : Option Addr) (ca' : Nat) (O' : Option Addr) (co' : Nat) (hn : MO W w.heap.size ⟨A', ca', m.cs, O', co', m.os⟩) =>
    show RetNw w m.cs m.os l (.returned (.tuple #[.pointer (some ⟨W.heap.size, 0, none⟩), .int .i64 0])) (W.alloc (.cells #[.slice A' m.cs.length ca', .slice O' m.os.length co', .slice a0 n0 c0, .slice a1 n1 c1, .slice a2 n2 c2, .slice a3 n3 c3] 141)) from by
      have hb := (Below.refl W.heap.size W).alloc (Nat.le_refl _) (.cells #[.slice A' m.cs.length ca', .slice O' m.os.length co', .slice a0 n0 c0, .slice a1 n1 c1, .slice a2 n2 c2, .slice a3 n3 c3] 141)
      refine ⟨W.heap.size, A', ca', O', co', q, rfl, ⟨?_, hn.below hb, h.own.below hb, hok, hokl, h.mh.be.size⟩, h.mh.be.trans (hb.mono h.mh.be.size)⟩
      obtain ⟨e0, e1, e2, e3⟩ := HE.out
      simp only [e0, e1, e2, e3]
      exact Box.new _ _ _)
  replace hN3 := hN3.below (Below.refl _ _).drew
  replace y := y.drew
  have hlow := hN3.low
  clear HE hok hokl
  go_region_held3 (fun W => (W.cell? ⟨g, 0, none⟩ = some (.slice m.A m.cs.length m.ca) ∧ W.cell? ⟨g, 1, none⟩ = some (.slice m.O m.os.length m.co)) ∧ W.cell? ⟨gd, 0, none⟩ = some (.slice a0 n0 c0) ∧ W.cell? ⟨gd, 1, none⟩ = some (.slice a1 n1 c1) ∧ W.cell? ⟨gd, 2, none⟩ = some (.slice a2 n2 c2) ∧ W.cell? ⟨gd, 3, none⟩ = some (.slice a3 n3 c3)) (first | with_reducible exact HS.out _ hN4 y4 | with_reducible exact HS.out _ hN3 y | with_reducible exact hS5) (first
    | (go_at_call 96; refine (HCL.out _ hN3).mono ?_; rintro e w4 ⟨A', ca', O', co', rfl, hn, hb4⟩; have hN4 := hN3.below hb4; have y4 := y.below hb4; have HF := hideP (HFIN.out w4 hN4 A' ca' O' co' (hn.mono hN3.mh.be.size)); have hS5 := HS.out _ (hN4.below ((Below.refl _ _).alloc (Nat.le_refl _) (.cells #[.slice A' m.cs.length ca', .slice O' m.os.length co', .slice a0 n0 c0, .slice a1 n1 c1, .slice a2 n2 c2, .slice a3 n3 c3] 141))) (y4.alloc _)))
  all_goals
    go_wp2_with fail
    go_ret2
    exact HF.out
end Go.Proofs.YtmepmiokpcddbabGreatDoor

set_option linter.unusedVariables false
set_option linter.unusedSimpArgs false
namespace Go.Proofs.YtmepmiokpcddbabGreatDoor
open Go.RowKit

set_option maxRecDepth 100000 in
theorem idx4 (q : Dv) (cs : List ByteArray) (os : List Int) (l : List Pr) {k : Nat} (hk : k < 4) (w : World) :
    (Instr.index 136 (.agg #[q.s cs os l 0, q.s cs os l 1, q.s cs os l 2, q.s cs os l 3]) (.int .i64 (k : Int))).run Tryz.prog w = .ok (q.s cs os l k) w := by
  have hu := run_underlying (w := w) Tryz.underlying136
  rcases lt4 hk with rfl | rfl | rfl | rfl <;> simp [Instr.index, asIntOf, hu, part, go_sem]
end Go.Proofs.YtmepmiokpcddbabGreatDoor

set_option linter.unusedVariables false
set_option linter.unusedSimpArgs false
namespace Go.Proofs.YtmepmiokpcddbabGreatDoor
open Go.RowKit

set_option maxHeartbeats 400000 in
set_option maxRecDepth 100000 in
theorem compareString_any (a b : ByteArray) (w : World) :
    Calls Tryz.prog 235 #[.string a, .string b] w fun e w' => e = .returned (.int .i64 (cmpB a b)) ∧ w = w' := by
  go_enter Tryz.func235, Tryz.ntmps235
  go_wp2
  rw [run_callFunc_extern Tryz.func236 (by kernel_rfl) (by kernel_rfl) (by kernel_rfl) (e := Extern.BytealgCompare.compare) (by kernel_rfl), Lib.run_compareString]
  simp only [Result.andThen]
  rw [Oper.upon_value]
  go_wp2
  go_ret
  exact ⟨rfl, rfl⟩

set_option maxHeartbeats 400000 in
theorem compare_any (a b : ByteArray) (w : World) :
    Calls Tryz.prog 233 #[.string a, .string b] w fun e w' => e = .returned (.int .i64 (cmpB a b)) ∧ w = w' := by
  go_enter Tryz.func233, Tryz.ntmps233
  go_wp2_with fail
  refine (compareString_any _ _ _).mono ?_
  rintro e w' ⟨rfl, rfl⟩
  go_wp2_with fail
  go_ret
  exact ⟨rfl, rfl⟩

set_option maxHeartbeats 400000 in
theorem find1_any (a b : ByteArray) (n : Int) (w : World) :
    Calls Tryz.prog 232 #[.agg #[.string a, .int .i64 n], .string b] w fun e w' => e = .returned (.int .i64 (cmpB a b)) ∧ w.alloc (.cells #[.string a, .int .i64 n] 65) = w' := by
  go_enter Tryz.func232, Tryz.ntmps232
  go_wp2_with fail
  refine (compare_any _ _ _).mono ?_
  rintro e w' ⟨rfl, rfl⟩
  go_wp2_with fail
  go_ret
  exact ⟨rfl, rfl⟩

set_option maxHeartbeats 400000 in
set_option maxRecDepth 100000 in
theorem search_any (A : Option Addr) (c : Nat) (l : List Pr) (key : ByteArray) (q : Nat) (w : World) (hA : PS w w.heap.size A l) (hl : l.length < 4611686018427387904) (hq : At l key q) :
    Calls Tryz.prog 231 #[.slice A l.length c, .string key, .func (.func 232) #[] #[]] w fun e w' =>
      e = .returned (.tuple #[.int .i64 q, .bool (fnd l key q)]) ∧ Below w.heap.size w w' := by
  go_enter Tryz.func231, Tryz.ntmps231
  go_wp2
  go_loopw [9, 10] (fun i j wr => ∃ (a b : Nat), a ≤ q ∧ q ≤ b ∧ b ≤ l.length ∧ i = .int .i64 a ∧ j = .int .i64 b ∧ Below w.heap.size w wr) (fun i j _ => (intOf j - intOf i).toNat)
  case atStart => exact ⟨0, l.length, Nat.zero_le _, hq.le, Nat.le_refl _, rfl, rfl, Below.refl _ _⟩
  case round =>
    obtain ⟨a, b, h1, h2, h3, rfl, rfl, hb⟩ := hrel
    by_cases hlt : a < b
    · have hm : (a + b) / 2 < l.length := by omega
      obtain ⟨bl, o, rfl, hbl, c1, c2⟩ := hA.below hb ((a + b) / 2) _ (List.getElem?_eq_getElem hm)
      have HL := hideP (hq.lo ((a + b) / 2) hm)
      have HH := hideP (hq.hi ((a + b) / 2) hm)
      clear hA hq
      generalize l[(a + b) / 2] = p at c1 c2 HL HH
      have HB := (hb.alloc hb.size (.cells #[.string p.1, .int .i64 p.2] 65))
      have g1 : (0 : Int) ≤ ((a : Int) + (b : Int)) / 2 := by omega
      have g2 : ((a : Int) + (b : Int)) / 2 < (l.length : Int) := by omega
      cases hc : ltB p.1 key
      · have d : decide (cmpB p.1 key < 0) = false := by rw [decide_eq_false_iff_not, cmpB_neg, hc]; simp
        have hqm : q ≤ (a + b) / 2 := by
          rcases Nat.lt_or_ge ((a + b) / 2) q with h | h
          · rw [HL.out h] at hc; cases hc
          · exact h
        clear hc
        go_wp2_with fail
        refine (find1_any _ _ _ _).mono ?_
        rintro e w' ⟨rfl, rfl⟩
        go_wp2_with fail
        go_roundw
        case rel => exact ⟨a, (a + b) / 2, h1, hqm, by omega, rfl, by go_num, HB⟩
        case measure => simp [intOf]; omega
      · have d : decide (cmpB p.1 key < 0) = true := by rw [decide_eq_true_iff, cmpB_neg, hc]
        have hqm : (a + b) / 2 < q := by
          rcases Nat.lt_or_ge ((a + b) / 2) q with h | h
          · exact h
          · rw [HH.out h] at hc; cases hc
        clear hc
        go_wp2_with fail
        refine (find1_any _ _ _ _).mono ?_
        rintro e w' ⟨rfl, rfl⟩
        go_wp2_with fail
        go_roundw
        case rel => exact ⟨(a + b) / 2 + 1, b, by omega, h2, h3, by go_num, rfl, HB⟩
        case measure => simp [intOf]; omega
    · obtain rfl : a = q := by omega
      obtain rfl : a = b := by omega
      clear h1 h2 hlt
      by_cases hlt : a < l.length
      · obtain ⟨bl, o, rfl, hbl, c1, c2⟩ := hA.below hb a _ (List.getElem?_eq_getElem hlt)
        have HF := hideP (show fnd l key a = (cmpB (l[a]).1 key == 0) by simp [fnd, hlt])
        clear hA hq
        generalize l[a] = p at c1 c2 HF
        have HB := (hb.alloc hb.size (.cells #[.string p.1, .int .i64 p.2] 65))
        go_wp2_with fail
        refine (find1_any _ _ _ _).mono ?_
        rintro e w' ⟨rfl, rfl⟩
        go_wp2_with fail
        go_ret2
        exact ⟨ret_ib rfl HF.out.symm, HB⟩
      · have HF := hideP (show fnd l key a = false by simp [fnd, hlt])
        go_wp2_with fail
        go_ret2
        exact ⟨ret_ib rfl HF.out.symm, hb⟩

set_option maxHeartbeats 400000 in
theorem find_any (A : Option Addr) (c : Nat) (l : List Pr) (key : ByteArray) (q : Nat) (w : World) (hA : PS w w.heap.size A l) (hl : l.length < 4611686018427387904) (hq : At l key q) :
    Calls Tryz.prog 222 #[.slice A l.length c, .string key] w fun e w' => e = .returned (.tuple #[.int .i64 q, .bool (fnd l key q)]) ∧ Below w.heap.size w w' := by
  go_enter Tryz.func222, Tryz.ntmps222
  go_wp2_with fail
  refine (search_any A c l key q _ hA hl hq).mono ?_
  rintro e w' ⟨rfl, hb⟩
  go_wp2_with fail
  go_ret2
  exact ⟨rfl, hb⟩
end Go.Proofs.YtmepmiokpcddbabGreatDoor
