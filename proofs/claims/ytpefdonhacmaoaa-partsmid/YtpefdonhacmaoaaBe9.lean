/-
  parts.divide.
  While a function makes a map of a map: its argument, its result (no body of the program in it).
  Cells of blocks that are made (no program in it).
-/
import Derived.Test.YtpefdonhacmaoaaBe7
import Derived.Test.YtpefdonhacmaoaaBe8
import Derived.Test.YtpefdonhacmaoaaBe5
import Derived.Test.YtpefdonhacmaoaaBe4
set_option linter.unusedVariables false
set_option linter.unusedSimpArgs false
namespace Go.Proofs.Ytpefdonhacmaoaa
open Go.RowKit

/-- while the parts are made -/
structure DvH (w : World) (g : Nat) (m : Mp) (l : List Pr) (q : Dv) (k : Nat) (wr : World) : Prop where
  mh : MH w g m wr
  res : Box wr (g + 1) 62 #[.slice none 0 0, .slice none 0 0, .slice none 0 0, .slice none 0 0]
  box : Box wr (g + 2) 62 (q.up m.cs m.os l k)
  own : q.Own wr w.heap.size m.cs m.os l k
  low : w.heap.size ≤ g
section
variable {w wr w' : World} {g k : Nat} {m : Mp} {l : List Pr} {q : Dv}
theorem DvH.below (h : DvH w g m l q k wr) (hb : Below wr.heap.size wr w') : DvH w g m l q k w' := ⟨h.mh.below hb, h.res.below hb, h.box.below hb, h.own.below hb, h.low⟩
theorem DvH.step (h : DvH w g m l q k wr) (hm : MS w m) (hk : k < 4) {A : Option Addr} {c : Nat} (hov : OV wr w.heap.size A c (ptL m.cs m.os (k : Int) l)) : DvH w g m l (q.put k A c) (k + 1) (wr.setCell ⟨g + 2, k, none⟩ (.slice A (ptL m.cs m.os (k : Int) l).length c)) := by
  have hb := below_set (i := k) (v := .slice A (ptL m.cs m.os (k : Int) l).length c) h.mh.be (show w.heap.size ≤ g + 2 by have := h.low; omega)
  refine ⟨⟨h.mh.x0.other (by show g + 2 ≠ g; omega) _, hm.below hb, hb⟩, h.res.other (by show g + 2 ≠ g + 1; omega) _, ?_, (h.own.put hov).kept h.box.ty (by decide) (grown_set _ _ _ _), h.low⟩
  have := h.box.set k (.slice A (ptL m.cs m.os (k : Int) l).length c)
  rw [Dv.up_put hk] at this
  exact this
end
def DvI (w : World) (g : Nat) (m : Mp) (l : List Pr) (i : Value) (wr : World) : Prop := ∃ (k : Nat) (q : Dv), k ≤ 4 ∧ i = .int .i64 k ∧ DvH w g m l q k wr

set_option maxHeartbeats 1000000 in
set_option maxRecDepth 100000 in
theorem divide_ok (m : Mp) (A : Option Addr) (c : Nat) (l : List Pr) (w : World) (hm : MS w m) (hA : PS w w.heap.size A l) (hok : OkM m.cs m.os) (hokl : Ok l) :
    Calls Try.prog 21 #[.agg #[.slice m.A m.cs.length m.ca, .slice m.O m.os.length m.co], .slice A l.length c] w
      fun e w' => ∃ q : Dv, e = .returned (.tuple #[.agg (q.ar m.cs m.os l), .int .i64 0]) ∧ q.Own w' w.heap.size m.cs m.os l 4 ∧ Below w.heap.size w w' := by
  have hsm := hokl.small
  have b1 := (Below.refl w.heap.size w).alloc (Nat.le_refl _) (.cells #[.slice m.A m.cs.length m.ca, .slice m.O m.os.length m.co] 27)
  have hH := ((MH.new hm).alloc (o := .cells #[.slice none 0 0, .slice none 0 0, .slice none 0 0, .slice none 0 0] 62)).alloc (o := .cells #[.slice none 0 0, .slice none 0 0, .slice none 0 0, .slice none 0 0] 62)
  have x1 := (Box.new (w.alloc (.cells #[.slice m.A m.cs.length m.ca, .slice m.O m.os.length m.co] 27)) 62 #[.slice none 0 0, .slice none 0 0, .slice none 0 0, .slice none 0 0]).alloc (.cells #[.slice none 0 0, .slice none 0 0, .slice none 0 0, .slice none 0 0] 62)
  have x2 := Box.new ((w.alloc (.cells #[.slice m.A m.cs.length m.ca, .slice m.O m.os.length m.co] 27)).alloc (.cells #[.slice none 0 0, .slice none 0 0, .slice none 0 0, .slice none 0 0] 62)) 62 #[.slice none 0 0, .slice none 0 0, .slice none 0 0, .slice none 0 0]
  simp only [World.size_alloc] at x1 x2
  have hD : DvH w w.heap.size m l noD 0 _ := ⟨hH, x1, x2, fun j hj => absurd hj (by omega), Nat.le_refl _⟩
  clear x1 x2 b1 hH
  go_enter Try.func21, Try.ntmps21
  go_wp2_with fail
  generalize ((w.alloc _).alloc _).alloc _ = w1 at hD ⊢
  generalize hg : w.heap.size = g at hD ⊢
  go_loopw [10] (DvI w g m l) (fun i _ => 4 - (intOf i).toNat)
  case atStart => exact ⟨0, noD, by omega, rfl, hD⟩
  case round =>
    obtain ⟨k, q, hk, rfl, h⟩ := hrel
    clear hD
    by_cases hlt : k < 4
    · have g1 : (k : Int) < 4 := by omega
      have g2 : (0 : Int) ≤ (k : Int) := by omega
      obtain ⟨z1, z2⟩ := h.mh.c
      have HPT := hideP (shpart_any m A c l (k : Int) wr h.mh.ms ((hA.below h.mh.be).more h.mh.be.size) hok.l2 (by omega))
      rw [partV_ok (chkM_ok.2 hok) (chk_ok.2 hokl) (ownB_iff.2 (by omega))] at HPT
      go_wp2_with fail
      refine HPT.out.mono ?_
      rintro e w2 ⟨Ap, cp, rfl, hov, hb2⟩
      simp only at hov ⊢
      have hbe := h.mh.be.size
      replace h := h.below hb2
      have f1 := h.box.frozen k
      have c1 := h.box.cell k (Dv.up_at hlt hlt)
      clear hb2 z1 z2 HPT
      have HN := hideP (h.step hm hlt (hov.mono hbe))
      clear hov
      go_wp2_with fail
      go_roundw
      case rel => exact ⟨k + 1, q.put k Ap cp, by omega, by go_num, HN.out⟩
      case measure => simp [intOf]; omega
    · have hk4 : k = 4 := by omega
      have h4 : DvH w g m l q 4 wr := hk4 ▸ h
      clear h hk4
      have y0 := h4.box.cell 0 (v := q.s m.cs m.os l 0) rfl
      have y1 := h4.box.cell 1 (v := q.s m.cs m.os l 1) rfl
      have y2 := h4.box.cell 2 (v := q.s m.cs m.os l 2) rfl
      have y3 := h4.box.cell 3 (v := q.s m.cs m.os l 3) rfl
      have o := h4.res
      have HN := hideP (fun (xs : List (Nat × Value)) => show q.Own (xs.foldl (fun w x => w.setCell ⟨g + 1, x.1, none⟩ x.2) wr) w.heap.size m.cs m.os l 4 ∧ Below w.heap.size w (xs.foldl (fun w x => w.setCell ⟨g + 1, x.1, none⟩ x.2) wr) from
        ⟨h4.own.kept h4.res.ty (by decide) (grown_box xs), Below.kept h4.mh.be (by have := h4.low; omega) (grown_box xs)⟩)
      clear hm hA h4
      have HA := hideP (show #[q.s m.cs m.os l 0, q.s m.cs m.os l 1, q.s m.cs m.os l 2, q.s m.cs m.os l 3] = q.ar m.cs m.os l from rfl)
      have HL := hideP (HN.out [(0, q.s m.cs m.os l 0), (1, q.s m.cs m.os l 1), (2, q.s m.cs m.os l 2), (3, q.s m.cs m.os l 3)])
      simp only [List.foldl] at HL
      obtain ⟨a0, n0, c0, e0⟩ : ∃ a n c, q.s m.cs m.os l 0 = .slice a n c := ⟨_, _, _, rfl⟩
      rw [e0] at y0 HA HL
      obtain ⟨a1, n1, c1, e1⟩ : ∃ a n c, q.s m.cs m.os l 1 = .slice a n c := ⟨_, _, _, rfl⟩
      rw [e1] at y1 HA HL
      obtain ⟨a2, n2, c2, e2⟩ : ∃ a n c, q.s m.cs m.os l 2 = .slice a n c := ⟨_, _, _, rfl⟩
      rw [e2] at y2 HA HL
      obtain ⟨a3, n3, c3, e3⟩ : ∃ a n c, q.s m.cs m.os l 3 = .slice a n c := ⟨_, _, _, rfl⟩
      rw [e3] at y3 HA HL
      have o1 := o.set 0 (.slice a0 n0 c0)
      have o2 := o1.set 1 (.slice a1 n1 c1)
      have o3 := o2.set 2 (.slice a2 n2 c2)
      have o4 := o3.set 3 (.slice a3 n3 c3)
      have f0 := o.frozen 0
      have f1 := o1.frozen 1
      have f2 := o2.frozen 2
      have f3 := o3.frozen 3
      have d0 := o.cell 0 (v := .slice none 0 0) rfl
      have d1 := o1.cell 1 (v := .slice none 0 0) rfl
      have d2 := o2.cell 2 (v := .slice none 0 0) rfl
      have d3 := o3.cell 3 (v := .slice none 0 0) rfl
      have q0 := o4.cell 0 (v := .slice a0 n0 c0) rfl
      have q1 := o4.cell 1 (v := .slice a1 n1 c1) rfl
      have q2 := o4.cell 2 (v := .slice a2 n2 c2) rfl
      have q3 := o4.cell 3 (v := .slice a3 n3 c3) rfl
      clear o o1 o2 o3 o4 HN e0 e1 e2 e3
      go_wp2_with fail
      exact bodyPost_ret (v := .tuple #[.agg #[.slice a0 n0 c0, .slice a1 n1 c1, .slice a2 n2 c2, .slice a3 n3 c3], .int .i64 0]) (by simp [results, Try.results21, go_sem, q0, q1, q2, q3]) rfl ⟨q, by rw [HA.out], HL.out⟩
/-- the four slices, each spelt out -/
def Dv4 (q : Dv) (cs : List ByteArray) (os : List Int) (l : List Pr) (v0 v1 v2 v3 : Value) : Prop := q.s cs os l 0 = v0 ∧ q.s cs os l 1 = v1 ∧ q.s cs os l 2 = v2 ∧ q.s cs os l 3 = v3
def RetDv (w : World) (cs : List ByteArray) (os : List Int) (l : List Pr) (e : Ending) (w' : World) : Prop :=
  ∃ (q : Dv) (a0 a1 a2 a3 : Option Addr) (n0 n1 n2 n3 c0 c1 c2 c3 : Nat), e = .returned (.tuple #[.agg #[.slice a0 n0 c0, .slice a1 n1 c1, .slice a2 n2 c2, .slice a3 n3 c3], .int .i64 0]) ∧ Dv4 q cs os l (.slice a0 n0 c0) (.slice a1 n1 c1) (.slice a2 n2 c2) (.slice a3 n3 c3) ∧ q.Own w' w.heap.size cs os l 4 ∧ Below w.heap.size w w'
theorem divide_4 (m : Mp) (A : Option Addr) (c : Nat) (l : List Pr) (w : World) (hm : MS w m) (hA : PS w w.heap.size A l) (hok : OkM m.cs m.os) (hokl : Ok l) :
    Calls Try.prog 21 #[.agg #[.slice m.A m.cs.length m.ca, .slice m.O m.os.length m.co], .slice A l.length c] w (RetDv w m.cs m.os l) := by
  refine (divide_ok m A c l w hm hA hok hokl).mono ?_
  rintro e w' ⟨q, rfl, h1, h2⟩
  exact ⟨q, _, _, _, _, _, _, _, _, _, _, _, _, rfl, ⟨rfl, rfl, rfl, rfl⟩, h1, h2⟩
end Go.Proofs.Ytpefdonhacmaoaa

set_option linter.unusedVariables false
set_option linter.unusedSimpArgs false
namespace Go.Proofs.Ytpefdonhacmaoaa
open Go.RowKit

/-- while a function runs that makes a map of a map -/
structure RH (w : World) (g : Nat) (m : Mp) (wr : World) : Prop where
  mh : MH w g m wr
  ms0 : MS w m
  res : Box wr (g + 1) 27 #[.slice none 0 0, .slice none 0 0]
  low : w.heap.size ≤ g
theorem RH.below {w wr w' : World} {g : Nat} {m : Mp} (h : RH w g m wr) (hb : Below wr.heap.size wr w') : RH w g m w' := ⟨h.mh.below hb, h.ms0, h.res.below hb, h.low⟩
theorem RH.alloc {w wr : World} {g : Nat} {m : Mp} {o : Obj} (h : RH w g m wr) : RH w g m (wr.alloc o) := h.below ((Below.refl _ _).alloc (Nat.le_refl _) _)
theorem RH.drew {w wr : World} {g : Nat} {m : Mp} (h : RH w g m wr) : RH w g m wr.drew := h.below (Below.refl _ _).drew
theorem RH.new {w : World} {m : Mp} (hm : MS w m) : RH w w.heap.size m ((w.alloc (.cells #[.slice m.A m.cs.length m.ca, .slice m.O m.os.length m.co] 27)).alloc (.cells #[.slice none 0 0, .slice none 0 0] 27)) := by
  have x1 := Box.new (w.alloc (.cells #[.slice m.A m.cs.length m.ca, .slice m.O m.os.length m.co] 27)) 27 #[.slice none 0 0, .slice none 0 0]
  simp only [World.size_alloc] at x1
  exact ⟨(MH.new hm).below ((Below.refl _ _).alloc (Nat.le_refl _) _), hm, x1, Nat.le_refl _⟩
/-- another block is written -/
theorem RH.other {w wr : World} {g : Nat} {m : Mp} (h : RH w g m wr) {b i : Nat} {v : Value} (hb : g + 1 < b) : RH w g m (wr.setCell ⟨b, i, none⟩ v) := by
  have hl := h.low
  have hbe : Below w.heap.size w (wr.setCell ⟨b, i, none⟩ v) := below_set h.mh.be (by omega)
  exact ⟨⟨h.mh.x0.other (by show b ≠ g; omega) _, h.ms0.below hbe, hbe⟩, h.ms0, h.res.other (by show b ≠ g + 1; omega) _, h.low⟩
/-- the end where an error is handed back -/
structure RE (w : World) (g : Nat) (wr : World) : Prop where
  f0 : wr.frozen? ⟨g + 1, 0, none⟩ = false
  f1 : (wr.setCell ⟨g + 1, 0, none⟩ (.slice none 0 0)).frozen? ⟨g + 1, 1, none⟩ = false
  d0 : wr.cell? ⟨g + 1, 0, none⟩ = some (.slice none 0 0)
  d1 : (wr.setCell ⟨g + 1, 0, none⟩ (.slice none 0 0)).cell? ⟨g + 1, 1, none⟩ = some (.slice none 0 0)
  q0 : ((wr.setCell ⟨g + 1, 0, none⟩ (.slice none 0 0)).setCell ⟨g + 1, 1, none⟩ (.slice none 0 0)).cell? ⟨g + 1, 0, none⟩ = some (.slice none 0 0)
  q1 : ((wr.setCell ⟨g + 1, 0, none⟩ (.slice none 0 0)).setCell ⟨g + 1, 1, none⟩ (.slice none 0 0)).cell? ⟨g + 1, 1, none⟩ = some (.slice none 0 0)
  fin : MO ((wr.setCell ⟨g + 1, 0, none⟩ (.slice none 0 0)).setCell ⟨g + 1, 1, none⟩ (.slice none 0 0)) w.heap.size noM ∧ Below w.heap.size w ((wr.setCell ⟨g + 1, 0, none⟩ (.slice none 0 0)).setCell ⟨g + 1, 1, none⟩ (.slice none 0 0))
theorem RH.re {w wr : World} {g : Nat} {m : Mp} (h : RH w g m wr) : RE w g wr :=
  have r := (h.res.set 0 (.slice none 0 0)).set 1 (.slice none 0 0)
  ⟨h.res.frozen 0, (h.res.set 0 (.slice none 0 0)).frozen 1, h.res.cell 0 rfl, (h.res.set 0 (.slice none 0 0)).cell 1 rfl, r.cell 0 rfl, r.cell 1 rfl, res_set (n := noM) h.res (by have := h.low; omega) (noM_mo _ _) h.mh.be _ _⟩
/-- the end where a map is handed back -/
structure RF (w : World) (g : Nat) (n : Mp) (wr : World) : Prop where
  f0 : wr.frozen? ⟨g + 1, 0, none⟩ = false
  f1 : (wr.setCell ⟨g + 1, 0, none⟩ (.slice n.A n.cs.length n.ca)).frozen? ⟨g + 1, 1, none⟩ = false
  d0 : wr.cell? ⟨g + 1, 0, none⟩ = some (.slice none 0 0)
  d1 : (wr.setCell ⟨g + 1, 0, none⟩ (.slice n.A n.cs.length n.ca)).cell? ⟨g + 1, 1, none⟩ = some (.slice none 0 0)
  q0 : ((wr.setCell ⟨g + 1, 0, none⟩ (.slice n.A n.cs.length n.ca)).setCell ⟨g + 1, 1, none⟩ (.slice n.O n.os.length n.co)).cell? ⟨g + 1, 0, none⟩ = some (.slice n.A n.cs.length n.ca)
  q1 : ((wr.setCell ⟨g + 1, 0, none⟩ (.slice n.A n.cs.length n.ca)).setCell ⟨g + 1, 1, none⟩ (.slice n.O n.os.length n.co)).cell? ⟨g + 1, 1, none⟩ = some (.slice n.O n.os.length n.co)
  fin : MO ((wr.setCell ⟨g + 1, 0, none⟩ (.slice n.A n.cs.length n.ca)).setCell ⟨g + 1, 1, none⟩ (.slice n.O n.os.length n.co)) w.heap.size n ∧ Below w.heap.size w ((wr.setCell ⟨g + 1, 0, none⟩ (.slice n.A n.cs.length n.ca)).setCell ⟨g + 1, 1, none⟩ (.slice n.O n.os.length n.co))
theorem RH.rf {w wr : World} {g : Nat} {m n : Mp} (h : RH w g m wr) (hn : MO wr w.heap.size n) : RF w g n wr :=
  have r := (h.res.set 0 (.slice n.A n.cs.length n.ca)).set 1 (.slice n.O n.os.length n.co)
  ⟨h.res.frozen 0, (h.res.set 0 (.slice n.A n.cs.length n.ca)).frozen 1, h.res.cell 0 rfl, (h.res.set 0 (.slice n.A n.cs.length n.ca)).cell 1 rfl, r.cell 0 rfl, r.cell 1 rfl, res_set h.res (by have := h.low; omega) hn h.mh.be _ _⟩
end Go.Proofs.Ytpefdonhacmaoaa

set_option linter.unusedVariables false
set_option linter.unusedSimpArgs false
namespace Go.Proofs.Ytpefdonhacmaoaa
open Go.RowKit

theorem cell_nw {w : World} {cs : Array Value} {t : TypeId} {g i : Nat} {v : Value} (hg : g = w.heap.size) (h : cs[i]? = some v) : (w.alloc (.cells cs t)).cell? ⟨g, i, none⟩ = some v := by
  subst hg; exact (Box.new w t cs).cell i h
theorem cell_ol {w : World} {o : Obj} {p : Addr} {v : Value} (hlt : p.block < w.heap.size) (h : w.cell? p = some v) : (w.alloc o).cell? p = some v := (((Below.refl w.heap.size w).alloc (Nat.le_refl _) o).cell hlt).trans h
theorem cell_dr {w : World} {p : Addr} {v : Value} (h : w.cell? p = some v) : w.drew.cell? p = some v := h
end Go.Proofs.Ytpefdonhacmaoaa
