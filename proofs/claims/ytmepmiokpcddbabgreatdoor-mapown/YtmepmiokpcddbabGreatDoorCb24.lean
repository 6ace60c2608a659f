/-
  (*parts.Parts).Turn.
  (*parts.Parts).Map.
-/
import Derived.Test.YtmepmiokpcddbabGreatDoorCb20
import Derived.Test.YtmepmiokpcddbabGreatDoorCb18
import Derived.Test.YtmepmiokpcddbabGreatDoorCb17
import Derived.Test.YtmepmiokpcddbabGreatDoorCb23
import Derived.Deep.RegionHeld3
import Derived.Deep.DeepCutAuto
import Derived.Test.YtmepmiokpcddbabGreatDoorCb8
set_option linter.unusedVariables false
set_option linter.unusedSimpArgs false
namespace Go.Proofs.YtmepmiokpcddbabGreatDoor
open Go.RowKit

/-- while Turn runs: the partitioned store, the new map in its box -/
structure TuH (w : World) (B g : Nat) (m : Mp) (l : List Pr) (q : Dv) (g3 : Nat) (n : Mp) (wr : World) : Prop where
  pb : PB wr B g m l q
  x3 : Box wr g3 28 #[.slice n.A n.cs.length n.ca, .slice n.O n.os.length n.co]
  ms0 : MS w n
  be : Below w.heap.size w wr
section
variable {w wr w' : World} {B g g3 gx : Nat} {m n : Mp} {l : List Pr} {q : Dv}
theorem TuH.below (h : TuH w B g m l q g3 n wr) (hb : Below wr.heap.size wr w') : TuH w B g m l q g3 n w' := ⟨h.pb.below hb, h.x3.below hb, h.ms0, h.be.trans (hb.mono h.be.size)⟩
theorem TuH.alloc {o : Obj} (h : TuH w B g m l q g3 n wr) : TuH w B g m l q g3 n (wr.alloc o) := h.below ((Below.refl _ _).alloc (Nat.le_refl _) _)
theorem TuH.drew (h : TuH w B g m l q g3 n wr) : TuH w B g m l q g3 n wr.drew := h.below (Below.refl _ _).drew
theorem TuH.ms (h : TuH w B g m l q g3 n wr) : MS wr n := h.ms0.below h.be
theorem TuH.c (h : TuH w B g m l q g3 n wr) : wr.cell? ⟨g3, 0, none⟩ = some (.slice n.A n.cs.length n.ca) ∧ wr.cell? ⟨g3, 1, none⟩ = some (.slice n.O n.os.length n.co) := ⟨h.x3.cell 0 rfl, h.x3.cell 1 rfl⟩
/-- the box of the new parts is written -/
theorem TuH.kept (h : TuH w B g m l q g3 n wr) (ht : Ty wr gx 136) (hl : w.heap.size ≤ gx) (hg : wr.grownBy w' (some gx)) : TuH w B g m l q g3 n w' :=
  ⟨h.pb.kept (ty_ne h.pb.box.ty ht (by decide)) ht (by decide) (by decide) (by decide) hg, h.x3.kept (ty_ne h.x3.ty ht (by decide)) hg, h.ms0, Below.kept h.be hl hg⟩
end
/-- behind the making of the new parts -/
structure TuK (w : World) (B g : Nat) (m : Mp) (l : List Pr) (q : Dv) (g3 : Nat) (n : Mp) (gx : Nat) (q' : Dv) (wr : World) : Prop where
  h : TuH w B g m l q g3 n wr
  x : Box wr gx 136 (q'.ar n.cs n.os l)
  own : q'.Own wr w.heap.size n.cs n.os l 4
theorem TuK.below {w wr w' : World} {B g g3 gx : Nat} {m n : Mp} {l : List Pr} {q q' : Dv} (h : TuK w B g m l q g3 n gx q' wr) (hb : Below wr.heap.size wr w') : TuK w B g m l q g3 n gx q' w' := ⟨h.h.below hb, h.x.below hb, h.own.below hb⟩
def TuRel (w : World) (B g : Nat) (m : Mp) (l : List Pr) (q : Dv) (g3 : Nat) (n : Mp) (v6 v7 : Value) (wr : World) : Prop :=
  ∃ gx q', v6 = .pointer (some ⟨gx, 0, none⟩) ∧ v7 = .int .i64 0 ∧ TuK w B g m l q g3 n gx q' wr
/-- the box is filled that was made ahead -/
theorem TuH.fill {w wr : World} {B g g3 gx : Nat} {m n : Mp} {l : List Pr} {q q' : Dv} (h : TuH w B g m l q g3 n wr) (hl : w.heap.size ≤ gx) (hx : Box wr gx 136 #[.slice none 0 0, .slice none 0 0, .slice none 0 0, .slice none 0 0]) (hq : q'.Own wr w.heap.size n.cs n.os l 4) :
    TuK w B g m l q g3 n gx q' ((((wr.setCell ⟨gx, 0, none⟩ (q'.s n.cs n.os l 0)).setCell ⟨gx, 1, none⟩ (q'.s n.cs n.os l 1)).setCell ⟨gx, 2, none⟩ (q'.s n.cs n.os l 2)).setCell ⟨gx, 3, none⟩ (q'.s n.cs n.os l 3)) := by
  have hgr := grown_box (w := wr) (g := gx) [(0, q'.s n.cs n.os l 0), (1, q'.s n.cs n.os l 1), (2, q'.s n.cs n.os l 2), (3, q'.s n.cs n.os l 3)]
  simp only [List.foldl] at hgr
  exact ⟨h.kept hx.ty hl hgr, (((hx.set 0 (q'.s n.cs n.os l 0)).set 1 (q'.s n.cs n.os l 1)).set 2 (q'.s n.cs n.os l 2)).set 3 (q'.s n.cs n.os l 3), hq.kept hx.ty (by decide) hgr⟩
theorem TuK.new {w wr : World} {B g g3 : Nat} {m n : Mp} {l : List Pr} {q q' : Dv} {v0 v1 v2 v3 : Value} (h : TuH w B g m l q g3 n wr) (hd : Dv4 q' n.cs n.os l v0 v1 v2 v3) (hq : q'.Own wr w.heap.size n.cs n.os l 4) : TuK w B g m l q g3 n wr.heap.size q' (wr.alloc (.cells #[v0, v1, v2, v3] 136)) := by
  obtain ⟨rfl, rfl, rfl, rfl⟩ := hd
  exact ⟨h.alloc, Box.new _ _ _, hq.below ((Below.refl _ _).alloc (Nat.le_refl _) _)⟩
/-- what Turn hands back, and makes -/
def RetTu (w : World) (B g : Nat) (cs : List ByteArray) (os : List Int) (l : List Pr) (k : Nat) (e : Ending) (w' : World) : Prop :=
  e = .returned (.tuple #[.int .i64 (k : Int), .int .i64 0]) ∧ ∃ A ca O co q', PB w' B g ⟨A, ca, cs, O, co, os⟩ l q' ∧ w.grownBy w' (some g)
/-- the same, and the owners lie in a new block -/
def RetTuF (w : World) (B g : Nat) (cs : List ByteArray) (os : List Int) (l : List Pr) (k : Nat) (e : Ending) (w' : World) : Prop :=
  e = .returned (.tuple #[.int .i64 (k : Int), .int .i64 0]) ∧ ∃ A ca O co q', PB w' B g ⟨A, ca, cs, O, co, os⟩ l q' ∧ w.grownBy w' (some g) ∧ ∀ a, O = some a ∨ A = some a → w.heap.size ≤ a.block
/-- the end: map and parts are written anew -/
structure TuE (w : World) (B g : Nat) (m : Mp) (l : List Pr) (q : Dv) (n : Mp) (A : Option Addr) (ca : Nat) (O : Option Addr) (co : Nat) (v0 v1 v2 v3 : Value) (wr : World) : Prop where
  f0 : wr.frozen? ⟨g, 0, none⟩ = false
  f1 : (wr.setCell ⟨g, 0, none⟩ (.slice A n.cs.length ca)).frozen? ⟨g, 1, none⟩ = false
  f2 : ((wr.setCell ⟨g, 0, none⟩ (.slice A n.cs.length ca)).setCell ⟨g, 1, none⟩ (.slice O n.os.length co)).frozen? ⟨g, 2, none⟩ = false
  f3 : (((wr.setCell ⟨g, 0, none⟩ (.slice A n.cs.length ca)).setCell ⟨g, 1, none⟩ (.slice O n.os.length co)).setCell ⟨g, 2, none⟩ v0).frozen? ⟨g, 3, none⟩ = false
  f4 : ((((wr.setCell ⟨g, 0, none⟩ (.slice A n.cs.length ca)).setCell ⟨g, 1, none⟩ (.slice O n.os.length co)).setCell ⟨g, 2, none⟩ v0).setCell ⟨g, 3, none⟩ v1).frozen? ⟨g, 4, none⟩ = false
  f5 : (((((wr.setCell ⟨g, 0, none⟩ (.slice A n.cs.length ca)).setCell ⟨g, 1, none⟩ (.slice O n.os.length co)).setCell ⟨g, 2, none⟩ v0).setCell ⟨g, 3, none⟩ v1).setCell ⟨g, 4, none⟩ v2).frozen? ⟨g, 5, none⟩ = false
  d0 : wr.cell? ⟨g, 0, none⟩ = some (.slice m.A m.cs.length m.ca)
  d1 : (wr.setCell ⟨g, 0, none⟩ (.slice A n.cs.length ca)).cell? ⟨g, 1, none⟩ = some (.slice m.O m.os.length m.co)
  d2 : ((wr.setCell ⟨g, 0, none⟩ (.slice A n.cs.length ca)).setCell ⟨g, 1, none⟩ (.slice O n.os.length co)).cell? ⟨g, 2, none⟩ = some (q.s m.cs m.os l 0)
  d3 : (((wr.setCell ⟨g, 0, none⟩ (.slice A n.cs.length ca)).setCell ⟨g, 1, none⟩ (.slice O n.os.length co)).setCell ⟨g, 2, none⟩ v0).cell? ⟨g, 3, none⟩ = some (q.s m.cs m.os l 1)
  d4 : ((((wr.setCell ⟨g, 0, none⟩ (.slice A n.cs.length ca)).setCell ⟨g, 1, none⟩ (.slice O n.os.length co)).setCell ⟨g, 2, none⟩ v0).setCell ⟨g, 3, none⟩ v1).cell? ⟨g, 4, none⟩ = some (q.s m.cs m.os l 2)
  d5 : (((((wr.setCell ⟨g, 0, none⟩ (.slice A n.cs.length ca)).setCell ⟨g, 1, none⟩ (.slice O n.os.length co)).setCell ⟨g, 2, none⟩ v0).setCell ⟨g, 3, none⟩ v1).setCell ⟨g, 4, none⟩ v2).cell? ⟨g, 5, none⟩ = some (q.s m.cs m.os l 3)
  fin : ∃ q', PB ((((((wr.setCell ⟨g, 0, none⟩ (.slice A n.cs.length ca)).setCell ⟨g, 1, none⟩ (.slice O n.os.length co)).setCell ⟨g, 2, none⟩ v0).setCell ⟨g, 3, none⟩ v1).setCell ⟨g, 4, none⟩ v2).setCell ⟨g, 5, none⟩ v3) B g ⟨A, ca, n.cs, O, co, n.os⟩ l q' ∧
    w.grownBy ((((((wr.setCell ⟨g, 0, none⟩ (.slice A n.cs.length ca)).setCell ⟨g, 1, none⟩ (.slice O n.os.length co)).setCell ⟨g, 2, none⟩ v0).setCell ⟨g, 3, none⟩ v1).setCell ⟨g, 4, none⟩ v2).setCell ⟨g, 5, none⟩ v3) (some g) ∧ ∀ a, O = some a ∨ A = some a → w.heap.size ≤ a.block
theorem TuK.fin {w wr : World} {B g g3 gx : Nat} {m n : Mp} {l : List Pr} {q q' : Dv} {A O : Option Addr} {ca co : Nat} {v0 v1 v2 v3 : Value} (h : TuK w B g m l q g3 n gx q' wr) (hB : B ≤ w.heap.size) (hok : OkM n.cs n.os) (ho : MO wr w.heap.size ⟨A, ca, n.cs, O, co, n.os⟩) (hd : Dv4 q' n.cs n.os l v0 v1 v2 v3) : TuE w B g m l q n A ca O co v0 v1 v2 v3 wr := by
  obtain ⟨rfl, rfl, rfl, rfl⟩ := hd
  have b := h.h.pb.box
  have o1 := b.set 0 (.slice A n.cs.length ca)
  have o2 := o1.set 1 (.slice O n.os.length co)
  have o3 := o2.set 2 (q'.s n.cs n.os l 0)
  have o4 := o3.set 3 (q'.s n.cs n.os l 1)
  have o5 := o4.set 4 (q'.s n.cs n.os l 2)
  have o6 := o5.set 5 (q'.s n.cs n.os l 3)
  have hgr := grown_box (w := wr) (g := g) [(0, .slice A n.cs.length ca), (1, .slice O n.os.length co), (2, q'.s n.cs n.os l 0), (3, q'.s n.cs n.os l 1), (4, q'.s n.cs n.os l 2), (5, q'.s n.cs n.os l 3)]
  simp only [List.foldl] at hgr
  exact ⟨b.frozen 0, o1.frozen 1, o2.frozen 2, o3.frozen 3, o4.frozen 4, o5.frozen 5, b.cell 0 rfl, o1.cell 1 rfl, o2.cell 2 rfl, o3.cell 3 rfl, o4.cell 4 rfl, o5.cell 5 rfl, q',
    ⟨o6, (ho.mono hB).kept b.ty (by decide) (by decide) hgr, (h.own.mono hB).kept b.ty (by decide) hgr, hok, h.h.pb.ok, h.h.pb.low⟩, grown_trans (grown_below h.h.be _) hgr, fun a ha => ha.elim (fun e => (World.ownsRow.lt ho.own a.block (by rw [e]; rfl)).1) fun e => (World.ownsRow.lt ho.cuts a.block (by rw [e]; rfl)).1⟩
def TuI (w : World) (B g : Nat) (m : Mp) (l : List Pr) (q : Dv) (g3 : Nat) (n : Mp) (gx : Nat) (q' : Dv) (v8 v27 : Value) (wr : World) : Prop :=
  ∃ k : Nat, k ≤ 4 ∧ v27 = .int .i64 k ∧ v8 = .int .i64 (movN m.cs m.os n.cs n.os (upL m.cs m.os (k : Int) l) : Nat) ∧ TuK w B g m l q g3 n gx q' wr

set_option maxHeartbeats 4000000 in
set_option maxRecDepth 100000 in
theorem turn_fr (B g : Nat) (m : Mp) (l : List Pr) (q : Dv) (n : Mp) (w : World) (h : PB w B g m l q) (hn : MS w n) (hok : OkM n.cs n.os) :
    Calls Tryz.prog 62 #[.pointer (some ⟨g, 0, none⟩), .agg #[.slice n.A n.cs.length n.ca, .slice n.O n.os.length n.co]] w (RetTuF w B g n.cs n.os l (movN m.cs m.os n.cs n.os l)) := by
  have hb0 := (Below.refl w.heap.size w).alloc (Nat.le_refl _) (.cells #[.slice n.A n.cs.length n.ca, .slice n.O n.os.length n.co] 28)
  have hT : TuH w B g m l q w.heap.size n _ := ⟨h.below hb0, Box.new _ _ _, hn, hb0⟩
  have hB : B ≤ w.heap.size := Nat.le_of_lt (Nat.lt_of_le_of_lt h.low h.box.lt)
  have hsm := h.ok.small
  have hokl := h.ok
  have HAL := hideP (fun (W : World) (h : TuH w B g m l q w.heap.size n W) => all_ok B g m l q W h.pb)
  have HDV := hideP (fun (W : World) (A : Option Addr) (c : Nat) (hA : OV W w.heap.size A c l) (h : TuH w B g m l q w.heap.size n W) => divide_4 n A c l W h.ms hA.sv.ps hok hokl)
  have HS := hideP (fun (W : World) (h : TuH w B g m l q w.heap.size n W) => h.c)
  clear h hn hb0
  go_enter Tryz.func62, Tryz.ntmps62
  go_wp2_with fail
  generalize w.alloc _ = w1 at hT ⊢
  generalize hg3 : w.heap.size = g3 at hT HAL HDV HS ⊢
  have hlow : g3 ≤ w1.heap.size := by rw [← hg3]; exact hT.be.size
  go_cut [6, 7] (TuRel w B g m l q g3 n)
  case first =>
    go_region_held3 (fun W => W.cell? ⟨g3, 0, none⟩ = some (.slice n.A n.cs.length n.ca) ∧ W.cell? ⟨g3, 1, none⟩ = some (.slice n.O n.os.length n.co)) (first | with_reducible exact hS3 | (refine HS.out _ ?_; (repeat first | with_reducible exact hT2 | with_reducible exact hT1 | with_reducible exact hT | with_reducible apply TuH.alloc | with_reducible apply TuH.drew))) (first
      | (go_at_call 59
         first
           | (refine (HAL.out _ hT.drew).mono ?_; rintro e wk ⟨Ak, ck, rfl, hok', hbk⟩; have hT1 := hT.drew.below hbk; have hsk : w1.heap.size ≤ wk.heap.size := hbk.size)
           | (refine (HAL.out _ hT.alloc.drew).mono ?_; rintro e wk ⟨Ak, ck, rfl, hok', hbk⟩; have hT1 := hT.alloc.drew.below hbk; have hX := (Box.new w1 136 #[.slice none 0 0, .slice none 0 0, .slice none 0 0, .slice none 0 0]).drew.below hbk; have hlx : g3 ≤ w1.heap.size := hlow; have hsk : w1.heap.size ≤ wk.heap.size := Nat.le_trans (by simp) hbk.size)
         have ho1 : OV wk g3 Ak ck l := hok'.mono (by first | exact hlow | exact Nat.le_trans hlow (by simp)))
      | (go_at_call 95
         first
           | refine (HDV.out _ Ak ck ho1 hT1).mono ?_
           | refine (HDV.out _ Ak ck (ho1.below ((Below.refl _ _).alloc (Nat.le_refl _) _)) hT1.alloc).mono ?_
         rintro e wc ⟨q', a0, a1, a2, a3, n0, n1, n2, n3, c0, c1, c2, c3, rfl, hd4, hq, hbc⟩
         first
           | (have hT2 := hT1.below hbc; replace hX := hX.below hbc)
           | (have hT2 := hT1.below hbc)
           | (have hT2 := hT1.alloc.below hbc; have hX := (Box.new wk 136 #[.slice none 0 0, .slice none 0 0, .slice none 0 0, .slice none 0 0]).below hbc; have hlx : g3 ≤ wk.heap.size := Nat.le_trans hlow hsk)
         have hq' : q'.Own wc w.heap.size n.cs n.os l 4 := hq.mono (by rw [hg3]; first | exact Nat.le_trans hlow hsk | exact Nat.le_trans (Nat.le_trans hlow hsk) (by simp))
         first
           | (have hK := TuH.fill hT2 (by rw [hg3]; exact hlx) hX hq'
              rw [hd4.1, hd4.2.1, hd4.2.2.1, hd4.2.2.2] at hK
              have o1 := hX.set 0 (.slice a0 n0 c0); have o2 := o1.set 1 (.slice a1 n1 c1); have o3 := o2.set 2 (.slice a2 n2 c2)
              have f0 := hX.frozen 0; have f1 := o1.frozen 1; have f2 := o2.frozen 2; have f3 := o3.frozen 3
              have d0 := hX.cell 0 (v := .slice none 0 0) rfl; have d1 := o1.cell 1 (v := .slice none 0 0) rfl; have d2 := o2.cell 2 (v := .slice none 0 0) rfl; have d3 := o3.cell 3 (v := .slice none 0 0) rfl
              clear o1 o2 o3
              have hS3 := HS.out _ hK.h)
           | (have hK := TuK.new hT2 hd4 hq')))
    all_goals
      go_wp2_with fail
      go_meet
      case rel => exact ⟨_, q', rfl, rfl, hK⟩
  case rest =>
    obtain ⟨gx, q', rfl, rfl, hK⟩ := hcut
    clear hT HAL HDV HS
    have p0 : wc.cell? ⟨g, 2, none⟩ = some (q.s m.cs m.os l 0) := hK.h.pb.box.cell 2 rfl
    have p1 : wc.cell? ⟨g, 3, none⟩ = some (q.s m.cs m.os l 1) := hK.h.pb.box.cell 3 rfl
    have p2 : wc.cell? ⟨g, 4, none⟩ = some (q.s m.cs m.os l 2) := hK.h.pb.box.cell 4 rfl
    have p3 : wc.cell? ⟨g, 5, none⟩ = some (q.s m.cs m.os l 3) := hK.h.pb.box.cell 5 rfl
    have hokm := hK.h.pb.okm
    go_wp2_with fail
    clear p0 p1 p2 p3
    go_loopw [8, 27] (TuI w B g m l q g3 n gx q') (fun _ i _ => 4 - (intOf i).toNat)
    case atStart => exact ⟨0, by omega, rfl, by rw [show ((0 : Nat) : Int) = 0 from rfl, upL_zero hokm]; rfl, hK⟩
    case round =>
      obtain ⟨k, hk, rfl, rfl, hK⟩ := hrel
      by_cases hlt : k < 4
      · have g1 : (k : Int) < 4 := by omega
        have ix := fun w => idx4 q m.cs m.os l hlt w
        obtain ⟨z1, z2⟩ := hK.h.c
        have hpl : (ptL m.cs m.os (k : Int) l).length ≤ l.length := List.length_filter_le _ _
        have hst : (ptL n.cs n.os (k : Int) (ptL m.cs m.os (k : Int) l)).length ≤ (ptL m.cs m.os (k : Int) l).length := List.length_filter_le _ _
        have hmv := mov_step m.cs m.os n.cs n.os l (k : Int)
        have hml := movN_le m.cs m.os n.cs n.os (upL m.cs m.os (k : Int) l)
        have hul : (upL m.cs m.os (k : Int) l).length ≤ l.length := List.length_filter_le _ _
        have HPT := hideP (shpart_any n (q.A k) (q.c k) (ptL m.cs m.os (k : Int) l) (k : Int) wr hK.h.ms (hK.h.pb.own k hlt).sv.ps hok.l2 (by omega))
        rw [partV_ok (chkM_ok.2 hok) (chk_ok.2 (ptL_ok hokl _)) (ownB_iff.2 (by omega))] at HPT
        have HN := hideP (fun (W : World) (h : TuK w B g m l q g3 n gx q' W) (i v : Value) (hi : i = .int .i64 ((k + 1 : Nat) : Int)) (hv : v = .int .i64 ((movN m.cs m.os n.cs n.os (upL m.cs m.os (k : Int) l) : Nat) + (((ptL m.cs m.os (k : Int) l).length : Int) - ((ptL n.cs n.os (k : Int) (ptL m.cs m.os (k : Int) l)).length : Int)))) => show TuI w B g m l q g3 n gx q' v i W from
          ⟨k + 1, by omega, hi, by rw [hv, show ((k + 1 : Nat) : Int) = (k : Int) + 1 by omega]; congr 1; omega, h⟩)
        rw [show q.s m.cs m.os l k = .slice (q.A k) (ptL m.cs m.os (k : Int) l).length (q.c k) from rfl] at ix
        clear hmv
        generalize (movN m.cs m.os n.cs n.os (upL m.cs m.os (k : Int) l)) = mv at HN hml ⊢
        generalize ptL n.cs n.os (k : Int) (ptL m.cs m.os (k : Int) l) = st at HPT HN hst
        generalize ptL m.cs m.os (k : Int) l = pt at HPT HN hst hpl ix
        have w1 : IntKind.i64.wrap ((pt.length : Int) - (st.length : Int)) = (pt.length : Int) - (st.length : Int) := by simp only [IntKind.wrap_i64]; omega
        have w2 : IntKind.i64.wrap ((mv : Int) + ((pt.length : Int) - (st.length : Int))) = (mv : Int) + ((pt.length : Int) - (st.length : Int)) := by simp only [IntKind.wrap_i64]; omega
        go_wp2_with fail
        refine HPT.out.mono ?_
        rintro e w3 ⟨Ap, cp, rfl, hov, hb3⟩
        replace hK := hK.below hb3
        clear HPT hov hb3 z1 z2
        go_wp2_with fail
        go_roundw
        case rel => exact HN.out _ hK _ _ (by go_num) rfl
        case measure => simp [intOf]; omega
      · have hk5 : k = 4 := by omega
        have e4 : upL m.cs m.os (k : Int) l = l := by rw [hk5]; exact upL_all hokm
        rw [e4]
        clear e4 hk5
        have g4 : ¬ (k : Int) < 4 := by omega
        obtain ⟨a0, n0, c0, e0⟩ : ∃ a n' c, q'.s n.cs n.os l 0 = .slice a n' c := ⟨_, _, _, rfl⟩
        obtain ⟨a1, n1, c1, e1⟩ : ∃ a n' c, q'.s n.cs n.os l 1 = .slice a n' c := ⟨_, _, _, rfl⟩
        obtain ⟨a2, n2, c2, e2⟩ : ∃ a n' c, q'.s n.cs n.os l 2 = .slice a n' c := ⟨_, _, _, rfl⟩
        obtain ⟨a3, n3, c3, e3⟩ : ∃ a n' c, q'.s n.cs n.os l 3 = .slice a n' c := ⟨_, _, _, rfl⟩
        have HE := hideP (show Dv4 q' n.cs n.os l (.slice a0 n0 c0) (.slice a1 n1 c1) (.slice a2 n2 c2) (.slice a3 n3 c3) from ⟨e0, e1, e2, e3⟩)
        clear e0 e1 e2 e3
        have HCL := hideP (fun (W : World) (h : TuK w B g m l q g3 n gx q' W) => clone_any n W h.h.ms (by have := hok.few; omega) (by have := hok.few; have := hok.len; omega))
        have HS := hideP (fun (W : World) (h3 : Box W g3 28 #[.slice n.A n.cs.length n.ca, .slice n.O n.os.length n.co]) (x : Box W gx 136 (q'.ar n.cs n.os l)) => show (W.cell? ⟨g3, 0, none⟩ = some (.slice n.A n.cs.length n.ca) ∧ W.cell? ⟨g3, 1, none⟩ = some (.slice n.O n.os.length n.co)) ∧ W.cell? ⟨gx, 0, none⟩ = some (.slice a0 n0 c0) ∧ W.cell? ⟨gx, 1, none⟩ = some (.slice a1 n1 c1) ∧ W.cell? ⟨gx, 2, none⟩ = some (.slice a2 n2 c2) ∧ W.cell? ⟨gx, 3, none⟩ = some (.slice a3 n3 c3) from by
          obtain ⟨e0, e1, e2, e3⟩ := HE.out
          unfold Dv.ar at x
          rw [e0, e1, e2, e3] at x
          exact ⟨⟨h3.cell 0 rfl, h3.cell 1 rfl⟩, x.cell 0 rfl, x.cell 1 rfl, x.cell 2 rfl, x.cell 3 rfl⟩)
        have HFI := hideP (fun (W : World) (h : TuK w B g m l q g3 n gx q' W) (A' : Option Addr) (ca' : Nat) (O' : Option Addr) (co' : Nat) (ho : MO W w.heap.size ⟨A', ca', n.cs, O', co', n.os⟩) => show TuE w B g m l q n A' ca' O' co' (.slice a0 n0 c0) (.slice a1 n1 c1) (.slice a2 n2 c2) (.slice a3 n3 c3) W from h.fin hB hok ho HE.out)
        have hgx := fun (W : World) (h : TuK w B g m l q g3 n gx q' W) => show g ≠ g3 ∧ g ≠ gx from ⟨ty_ne h.h.pb.box.ty h.h.x3.ty (by decide), ty_ne h.h.pb.box.ty h.x.ty (by decide)⟩
        obtain ⟨ne3, nex⟩ := hgx _ hK
        replace hK := hK.below (Below.refl _ _).drew
        clear hgx
        go_wp2_with fail
        go_region_held3 (fun W => (W.cell? ⟨g3, 0, none⟩ = some (.slice n.A n.cs.length n.ca) ∧ W.cell? ⟨g3, 1, none⟩ = some (.slice n.O n.os.length n.co)) ∧ W.cell? ⟨gx, 0, none⟩ = some (.slice a0 n0 c0) ∧ W.cell? ⟨gx, 1, none⟩ = some (.slice a1 n1 c1) ∧ W.cell? ⟨gx, 2, none⟩ = some (.slice a2 n2 c2) ∧ W.cell? ⟨gx, 3, none⟩ = some (.slice a3 n3 c3)) (first | with_reducible exact hSb | with_reducible exact hSa | with_reducible exact HS.out _ hK4.h.x3 hK4.x | with_reducible exact HS.out _ hK.h.x3 hK.x) (first
          | (go_at_call 96; refine (HCL.out _ hK).mono ?_; rintro e w4 ⟨A', ca', O', co', rfl, ho, hb4⟩; have hK4 := hK.below hb4
             have hx1 := (hK4.h.x3.other (a := ⟨g, 0, none⟩) ne3 (.slice A' n.cs.length ca')).other (a := ⟨g, 1, none⟩) ne3 (.slice O' n.os.length co')
             have hy1 := (hK4.x.other (a := ⟨g, 0, none⟩) nex (.slice A' n.cs.length ca')).other (a := ⟨g, 1, none⟩) nex (.slice O' n.os.length co')
             have hSa := HS.out _ hx1 hy1
             have hSb := HS.out _ ((((hx1.other (a := ⟨g, 2, none⟩) ne3 (.slice a0 n0 c0)).other (a := ⟨g, 3, none⟩) ne3 (.slice a1 n1 c1)).other (a := ⟨g, 4, none⟩) ne3 (.slice a2 n2 c2)).other (a := ⟨g, 5, none⟩) ne3 (.slice a3 n3 c3)) ((((hy1.other (a := ⟨g, 2, none⟩) nex (.slice a0 n0 c0)).other (a := ⟨g, 3, none⟩) nex (.slice a1 n1 c1)).other (a := ⟨g, 4, none⟩) nex (.slice a2 n2 c2)).other (a := ⟨g, 5, none⟩) nex (.slice a3 n3 c3))
             obtain ⟨f0, f1, f2, f3, f4, f5, d0, d1, d2, d3, d4, d5, hfin⟩ := HFI.out w4 hK4 A' ca' O' co' (ho.mono hK.h.be.size)
             have HF := hideP hfin
             clear hfin hx1 hy1))
        all_goals
          go_wp2_with fail
          go_ret2
          obtain ⟨r, h1, h2, h3⟩ := HF.out
          exact ⟨rfl, A', ca', O', co', r, h1, h2, h3⟩
theorem turn_ok (B g : Nat) (m : Mp) (l : List Pr) (q : Dv) (n : Mp) (w : World) (h : PB w B g m l q) (hn : MS w n) (hok : OkM n.cs n.os) :
    Calls Tryz.prog 62 #[.pointer (some ⟨g, 0, none⟩), .agg #[.slice n.A n.cs.length n.ca, .slice n.O n.os.length n.co]] w (RetTu w B g n.cs n.os l (movN m.cs m.os n.cs n.os l)) :=
  (turn_fr B g m l q n w h hn hok).mono fun e w' ⟨h1, A, ca, O, co, q', h2, h3, _⟩ => ⟨h1, A, ca, O, co, q', h2, h3⟩
end Go.Proofs.YtmepmiokpcddbabGreatDoor

set_option linter.unusedVariables false
set_option linter.unusedSimpArgs false
namespace Go.Proofs.YtmepmiokpcddbabGreatDoor
open Go.RowKit

set_option maxHeartbeats 400000 in
set_option maxRecDepth 100000 in
theorem map_ok (B g : Nat) (m : Mp) (l : List Pr) (q : Dv) (w : World) (h : PB w B g m l q) :
    Calls Tryz.prog 61 #[.pointer (some ⟨g, 0, none⟩)] w
      fun e w' => ∃ A ca O co, e = .returned (.agg #[.slice A m.cs.length ca, .slice O m.os.length co]) ∧ MO w' w.heap.size ⟨A, ca, m.cs, O, co, m.os⟩ ∧ Below w.heap.size w w' := by
  have hb0 := (Below.refl w.heap.size w).alloc (Nat.le_refl _) (.cells #[.slice none 0 0, .slice none 0 0] 28)
  have hP := h.below hb0
  have hfew := h.okm.few
  have hlen := h.okm.len
  have HCL := hideP (fun (W : World) (h : PB W B g m l q) => clone_any m W h.mo.ms (by omega) (by omega))
  have x := Box.new w 28 #[.slice none 0 0, .slice none 0 0]
  have z1 := hP.c0
  have z2 := hP.c1
  clear h hfew hlen
  go_enter Tryz.func61, Tryz.ntmps61
  go_wp2_with fail
  refine (HCL.out _ hP).mono ?_
  rintro e w2 ⟨A', ca', O', co', rfl, hn, hb2⟩
  have hb3 := hb0.trans (hb2.mono hb0.size)
  replace x := x.below hb2
  have f0 := x.frozen 0
  have f1 := (x.set 0 (.slice A' m.cs.length ca')).frozen 1
  have d0 := x.cell 0 (v := .slice none 0 0) rfl
  have d1 := (x.set 0 (.slice A' m.cs.length ca')).cell 1 (v := .slice none 0 0) rfl
  have o2 := (x.set 0 (.slice A' m.cs.length ca')).set 1 (.slice O' m.os.length co')
  have q0 := o2.cell 0 (v := .slice A' m.cs.length ca') rfl
  have q1 := o2.cell 1 (v := .slice O' m.os.length co') rfl
  have HF := hideP (res_set (w := w) x (Nat.le_refl _) (hn.mono hb0.size) hb3 (.slice A' m.cs.length ca') (.slice O' m.os.length co'))
  clear HCL hP hn hb2 hb3 hb0 z1 z2 x o2
  go_wp2_with fail
  exact bodyPost_ret (v := .agg #[.slice A' m.cs.length ca', .slice O' m.os.length co']) (by simp [results, Tryz.results61, go_sem, q0, q1]) rfl ⟨A', ca', O', co', rfl, HF.out.1, HF.out.2⟩
end Go.Proofs.YtmepmiokpcddbabGreatDoor
