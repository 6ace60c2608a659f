/-
  Package parts where an argument is not valid.
-/
import Derived.Test.YtmepmiokpcddbabGreatDoorCb22
import Derived.Test.YtmepmiokpcddbabGreatDoorCb24
import Derived.Test.YtmepmiokpcddbabGreatDoorCb18
import Derived.Test.YtmepmiokpcddbabGreatDoorCb5
import Derived.Test.YtmepmiokpcddbabGreatDoorCb17
set_option linter.unusedVariables false
set_option linter.unusedSimpArgs false
namespace Go.Proofs.YtmepmiokpcddbabGreatDoor
open Go.RowKit

/-- the error of a map and a store -/
def errV (cs : List ByteArray) (os : List Int) (l : List Pr) : Int := if chkM cs os ≠ 0 then chkM cs os else chk ByteArray.empty l
theorem errV_part {cs : List ByteArray} {os : List Int} {l : List Pr} (h : errV cs os l ≠ 0) : partV cs os l 0 = ([], errV cs os l) := by
  unfold errV at *
  by_cases e : chkM cs os = 0
  · rw [if_neg (by simp [e])] at h ⊢
    exact partV_bad2 e h
  · rw [if_pos e]; exact partV_bad e

set_option maxHeartbeats 1000000 in
set_option maxRecDepth 100000 in
theorem divide_bad (m : Mp) (A : Option Addr) (c : Nat) (l : List Pr) (w : World) (hm : MS w m) (hA : PS w w.heap.size A l) (l2 : m.os.length ≤ 9223372036854775807) (l3 : l.length < 4611686018427387904) (he : errV m.cs m.os l ≠ 0) :
    Calls Tryz.prog 95 #[.agg #[.slice m.A m.cs.length m.ca, .slice m.O m.os.length m.co], .slice A l.length c] w
      fun e w' => e = .returned (.tuple #[.agg #[.slice none 0 0, .slice none 0 0, .slice none 0 0, .slice none 0 0], .int .i64 (errV m.cs m.os l)]) ∧ Below w.heap.size w w' := by
  have hH := ((MH.new hm).alloc (o := .cells #[.slice none 0 0, .slice none 0 0, .slice none 0 0, .slice none 0 0] 136)).alloc (o := .cells #[.slice none 0 0, .slice none 0 0, .slice none 0 0, .slice none 0 0] 136)
  have x1 := (Box.new (w.alloc (.cells #[.slice m.A m.cs.length m.ca, .slice m.O m.os.length m.co] 28)) 136 #[.slice none 0 0, .slice none 0 0, .slice none 0 0, .slice none 0 0]).alloc (.cells #[.slice none 0 0, .slice none 0 0, .slice none 0 0, .slice none 0 0] 136)
  have x2 := Box.new ((w.alloc (.cells #[.slice m.A m.cs.length m.ca, .slice m.O m.os.length m.co] 28)).alloc (.cells #[.slice none 0 0, .slice none 0 0, .slice none 0 0, .slice none 0 0] 136)) 136 #[.slice none 0 0, .slice none 0 0, .slice none 0 0, .slice none 0 0]
  simp only [World.size_alloc] at x1 x2
  have hD : DvH w w.heap.size m l noD 0 _ := ⟨hH, x1, x2, fun j hj => absurd hj (by omega), Nat.le_refl _⟩
  clear x1 x2 hH
  have HPT := hideP (fun (W : World) (h : DvH w w.heap.size m l noD 0 W) => shpart_any m A c l 0 W h.mh.ms ((hA.below h.mh.be).more h.mh.be.size) l2 l3)
  rw [errV_part he] at HPT
  have d : (errV m.cs m.os l != 0) = true := by simp [he]
  generalize errV m.cs m.os l = q at HPT d ⊢
  clear he
  go_enter Tryz.func95, Tryz.ntmps95
  go_wp2_with fail
  generalize ((w.alloc _).alloc _).alloc _ = w1 at hD ⊢
  generalize hg : w.heap.size = g at hD HPT ⊢
  go_loopw [10] (fun i wr => i = .int .i64 0 ∧ DvH w g m l noD 0 wr) (fun _ _ => 0)
  case atStart => exact ⟨rfl, hD⟩
  case round =>
    obtain ⟨rfl, h⟩ := hrel
    clear hD
    obtain ⟨z1, z2⟩ := h.mh.c
    go_wp2_with fail
    refine (HPT.out _ h).mono ?_
    rintro e w2 ⟨Ap, cp, rfl, hov, hb2⟩
    simp only at hov ⊢
    replace h := h.below hb2
    clear hb2 z1 z2 HPT
    have o := h.res
    have HL := hideP (Below.kept h.mh.be (show w.heap.size ≤ g + 1 by omega) (grown_box (w := w2) (g := g + 1) [(0, .slice none 0 0), (1, .slice none 0 0), (2, .slice none 0 0), (3, .slice none 0 0)]))
    simp only [List.foldl] at HL
    have o1 := o.set 0 (.slice none 0 0)
    have o2 := o1.set 1 (.slice none 0 0)
    have o3 := o2.set 2 (.slice none 0 0)
    have o4 := o3.set 3 (.slice none 0 0)
    have f0 := o.frozen 0
    have f1 := o1.frozen 1
    have f2 := o2.frozen 2
    have f3 := o3.frozen 3
    have d0 := o.cell 0 (v := .slice none 0 0) rfl
    have d1 := o1.cell 1 (v := .slice none 0 0) rfl
    have d2 := o2.cell 2 (v := .slice none 0 0) rfl
    have d3 := o3.cell 3 (v := .slice none 0 0) rfl
    have q0 := o4.cell 0 (v := .slice none 0 0) rfl
    have q1 := o4.cell 1 (v := .slice none 0 0) rfl
    have q2 := o4.cell 2 (v := .slice none 0 0) rfl
    have q3 := o4.cell 3 (v := .slice none 0 0) rfl
    clear o o1 o2 o3 o4
    go_wp2_with fail
    exact bodyPost_ret (v := .tuple #[.agg #[.slice none 0 0, .slice none 0 0, .slice none 0 0, .slice none 0 0], .int .i64 q]) (by simp [results, Tryz.results95, go_sem, q0, q1, q2, q3]) rfl ⟨rfl, HL.out⟩
set_option maxHeartbeats 1000000 in
set_option maxRecDepth 100000 in
theorem new_bad (m : Mp) (A : Option Addr) (c : Nat) (l : List Pr) (w : World) (hm : MS w m) (hA : PS w w.heap.size A l) (l2 : m.os.length ≤ 9223372036854775807) (l3 : l.length < 4611686018427387904) (he : errV m.cs m.os l ≠ 0) :
    Calls Tryz.prog 39 #[.agg #[.slice m.A m.cs.length m.ca, .slice m.O m.os.length m.co], .slice A l.length c] w
      fun e w' => e = .returned (.tuple #[.pointer none, .int .i64 (errV m.cs m.os l)]) ∧ Below w.heap.size w w' := by
  have hH := MH.new hm
  have HDV := hideP (fun (W : World) (h : MH w w.heap.size m W) => divide_bad m A c l W h.ms ((hA.below h.be).more h.be.size) l2 l3 he)
  have d : (errV m.cs m.os l != 0) = true := by simp [he]
  generalize errV m.cs m.os l = q at HDV d ⊢
  obtain ⟨z1, z2⟩ := hH.c
  clear he
  go_enter Tryz.func39, Tryz.ntmps39
  go_wp2_with fail
  generalize w.alloc _ = w1 at hH z1 z2 ⊢
  generalize hg : w.heap.size = g at hH z1 z2 HDV ⊢
  refine (HDV.out _ hH).mono ?_
  rintro e w2 ⟨rfl, hb2⟩
  have hb3 := (hH.below hb2).be.alloc (hH.below hb2).be.size (.cells #[.slice none 0 0, .slice none 0 0, .slice none 0 0, .slice none 0 0] 136)
  clear HDV hH hb2 z1 z2
  go_wp2_with fail
  go_ret2
  exact ⟨rfl, hb3⟩
set_option maxHeartbeats 1000000 in
set_option maxRecDepth 100000 in
theorem do_bad (B g : Nat) (m : Mp) (l : List Pr) (q : Dv) (D : Option Addr) (cd : Nat) (d : List Opr) (w : World) (h : PB w B g m l q) (hD : OS w w.heap.size D d) (hd : chkD d ≠ 0) :
    Calls Tryz.prog 55 #[.pointer (some ⟨g, 0, none⟩), .agg #[.slice D d.length cd]] w fun e w' => e = .returned (.tuple #[.bool false, .int .i64 (chkD d)]) ∧ Below w.heap.size w w' := by
  have hb0 := (Below.refl w.heap.size w).alloc (Nat.le_refl _) (.cells #[.slice D d.length cd] 24)
  have y := Box.new w 24 #[.slice D d.length cd]
  have hP := h.below hb0
  have hD0 := hD.go hb0
  have hck : chkR l d = chkD d := by unfold chkR; simp [chk_ok.2 h.ok]
  have hsm := h.ok.small
  have HAL := hideP (fun (W : World) (h : PB W B g m l q) => all_ok B g m l q W h)
  have HRU := hideP (fun (W : World) (A : Option Addr) (c : Nat) (hA : OV W w.heap.size A c l) (hD : OS W W.heap.size D d) => run_bad A D c cd l d W hA.sv (by omega) hD (by rw [hck]; exact hd))
  rw [hck] at HRU
  have d0 : (chkD d != 0) = true := by simp [hd]
  generalize chkD d = e0 at HRU d0 ⊢
  clear h hD hd hck
  go_enter Tryz.func55, Tryz.ntmps55
  go_wp2_with fail
  generalize w.alloc _ = w1 at hb0 hP hD0 y ⊢
  generalize hgd : w.heap.size = gd at y ⊢
  have hgd' : w.heap.size ≤ w1.heap.size := hb0.size
  replace hP := hP.below (Below.refl _ _).drew
  replace y := y.drew
  replace hD0 := hD0.go (Below.refl _ _).drew
  replace hb0 := hb0.drew
  go_region_held3 (fun W => W.cell? ⟨gd, 0, none⟩ = some (.slice D d.length cd)) (first | with_reducible exact y3.cell 0 rfl | with_reducible exact y2.cell 0 rfl | with_reducible exact y.cell 0 rfl) (first
    | (go_at_call 59; refine (HAL.out _ hP).mono ?_; rintro e w2 ⟨A2, c2, rfl, ho2, hb2⟩; have hP2 := hP.below hb2; have y2 := y.below hb2; have hD2 := hD0.go hb2; have hb2' := hb0.trans (hb2.mono hb0.size))
    | (go_at_call 100; refine (HRU.out _ A2 c2 (ho2.mono hgd') hD2).mono ?_; rintro e w3 ⟨rfl, hb3⟩; have y3 := y2.below hb3; have hb3' := hb2'.trans (hb3.mono hb2'.size)))
  clear hP hP2 hD0 hD2 hb0 hb2 hb2' hb3 y y2 y3 HAL HRU ho2 hgd
  go_wp2_with fail
  go_ret2
  exact ⟨rfl, hb3'⟩
set_option maxHeartbeats 2000000 in
set_option maxRecDepth 100000 in
theorem turn_bad (B g : Nat) (m : Mp) (l : List Pr) (q : Dv) (n : Mp) (w : World) (h : PB w B g m l q) (hn : MS w n) (l2 : n.os.length ≤ 9223372036854775807) (he : chkM n.cs n.os ≠ 0) :
    Calls Tryz.prog 62 #[.pointer (some ⟨g, 0, none⟩), .agg #[.slice n.A n.cs.length n.ca, .slice n.O n.os.length n.co]] w fun e w' => e = .returned (.tuple #[.int .i64 0, .int .i64 (chkM n.cs n.os)]) ∧ Below w.heap.size w w' := by
  have hb0 := (Below.refl w.heap.size w).alloc (Nat.le_refl _) (.cells #[.slice n.A n.cs.length n.ca, .slice n.O n.os.length n.co] 28)
  have hT : TuH w B g m l q w.heap.size n _ := ⟨h.below hb0, Box.new _ _ _, hn, hb0⟩
  have hsm := h.ok.small
  have hev : errV n.cs n.os l = chkM n.cs n.os := by unfold errV; rw [if_pos he]
  have HAL := hideP (fun (W : World) (h : TuH w B g m l q w.heap.size n W) => all_ok B g m l q W h.pb)
  have HDV := hideP (fun (W : World) (A : Option Addr) (c : Nat) (hA : OV W w.heap.size A c l) (h : TuH w B g m l q w.heap.size n W) => divide_bad n A c l W h.ms hA.sv.ps l2 (by omega) (by rw [hev]; exact he))
  rw [hev] at HDV
  have HS := hideP (fun (W : World) (h : TuH w B g m l q w.heap.size n W) => h.c)
  have d : (chkM n.cs n.os != 0) = true := by simp [he]
  generalize chkM n.cs n.os = e0 at HDV d ⊢
  clear h hn hb0 hev he
  go_enter Tryz.func62, Tryz.ntmps62
  go_wp2_with fail
  generalize w.alloc _ = w1 at hT ⊢
  generalize hg3 : w.heap.size = g3 at hT HAL HDV HS ⊢
  have hlow : g3 ≤ w1.heap.size := by rw [← hg3]; exact hT.be.size
  go_region_held3 (fun W => W.cell? ⟨g3, 0, none⟩ = some (.slice n.A n.cs.length n.ca) ∧ W.cell? ⟨g3, 1, none⟩ = some (.slice n.O n.os.length n.co)) (first | with_reducible exact hS3 | (refine HS.out _ ?_; (repeat first | with_reducible exact hT2 | with_reducible exact hT1 | with_reducible exact hT | with_reducible apply TuH.alloc | with_reducible apply TuH.drew))) (first
    | (go_at_call 59
       first
         | (refine (HAL.out _ hT.drew).mono ?_; rintro e wk ⟨Ak, ck, rfl, hok', hbk⟩; have hT1 := hT.drew.below hbk; have hsk : w1.heap.size ≤ wk.heap.size := hbk.size)
         | (refine (HAL.out _ hT.alloc.drew).mono ?_; rintro e wk ⟨Ak, ck, rfl, hok', hbk⟩; have hT1 := hT.alloc.drew.below hbk; have hX := (Box.new w1 136 #[.slice none 0 0, .slice none 0 0, .slice none 0 0, .slice none 0 0]).drew.below hbk; have hlx : g3 ≤ w1.heap.size := hlow; have hsk : w1.heap.size ≤ wk.heap.size := Nat.le_trans (by simp) hbk.size)
       have ho1 : OV wk g3 Ak ck l := hok'.mono (by first | exact hlow | exact Nat.le_trans hlow (by simp)))
    | (go_at_call 95
       first
         | refine (HDV.out _ Ak ck ho1 hT1).mono ?_
         | refine (HDV.out _ Ak ck (ho1.below ((Below.refl _ _).alloc (Nat.le_refl _) _)) hT1.alloc).mono ?_
       rintro e wc ⟨rfl, hbc⟩
       first
         | (have hT2 := hT1.below hbc; replace hX := hX.below hbc)
         | (have hT2 := hT1.below hbc)
         | (have hT2 := hT1.alloc.below hbc; have hX := (Box.new wk 136 #[.slice none 0 0, .slice none 0 0, .slice none 0 0, .slice none 0 0]).below hbc; have hlx : g3 ≤ wk.heap.size := Nat.le_trans hlow hsk)
       first
         | (have hK := TuH.kept hT2 hX.ty (by rw [hg3]; exact hlx) (grown_box (w := wc) [(0, .slice none 0 0), (1, .slice none 0 0), (2, .slice none 0 0), (3, .slice none 0 0)])
            simp only [List.foldl] at hK
            have o1 := hX.set 0 (.slice none 0 0); have o2 := o1.set 1 (.slice none 0 0); have o3 := o2.set 2 (.slice none 0 0)
            have f0 := hX.frozen 0; have f1 := o1.frozen 1; have f2 := o2.frozen 2; have f3 := o3.frozen 3
            have d0 := hX.cell 0 (v := .slice none 0 0) rfl; have d1 := o1.cell 1 (v := .slice none 0 0) rfl; have d2 := o2.cell 2 (v := .slice none 0 0) rfl; have d3 := o3.cell 3 (v := .slice none 0 0) rfl
            clear o1 o2 o3
            have hS3 := HS.out _ hK
            have hbe := hK.be)
         | (have hK := hT2.alloc (o := .cells #[.slice none 0 0, .slice none 0 0, .slice none 0 0, .slice none 0 0] 136)
            have hbe := hK.be)))
  all_goals
    go_wp2_with fail
    go_ret2
    exact ⟨rfl, hbe⟩
end Go.Proofs.YtmepmiokpcddbabGreatDoor
