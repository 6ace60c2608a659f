/-
  Package parts where an argument is not valid.
  Copies at replicas that are not there, and New with arguments that are not valid.
  (*copies.replica).execute.
-/
import Derived.Test.YtefdipjhjgmokaaGreatDoorBx22
import Derived.Test.YtefdipjhjgmokaaGreatDoorBx24
import Derived.Test.YtefdipjhjgmokaaGreatDoorBx20
import Derived.Test.YtefdipjhjgmokaaGreatDoorBx9
import Derived.Test.YtefdipjhjgmokaaGreatDoorBx10
import Derived.Test.YtefdipjhjgmokaaGreatDoorBx19
import Derived.Test.YtefdipjhjgmokaaGreatDoorBx18
import Derived.Test.YtefdipjhjgmokaaGreatDoorBx21
import Derived.Test.YtefdipjhjgmokaaGreatDoorBx12
import Derived.Deep.RegionLaw
set_option linter.unusedVariables false
set_option linter.unusedSimpArgs false
namespace Go.Proofs.YtefdipjhjgmokaaGreatDoor
open Go.RowKit

/-- the error of a map and a store -/
def errV (cs : List ByteArray) (os : List Int) (l : List Pr) : Int := if chkM cs os ≠ 0 then chkM cs os else chk ByteArray.empty l
theorem errV_part {cs : List ByteArray} {os : List Int} {l : List Pr} (h : errV cs os l ≠ 0) : partV cs os l 0 = ([], errV cs os l) := by
  unfold errV at *
  by_cases e : chkM cs os = 0
  · rw [if_neg (by simp [e])] at h ⊢
    exact partV_bad2 e h
  · rw [if_pos e]; exact partV_bad e

set_option maxHeartbeats 1000000 in
set_option maxRecDepth 100000 in
theorem divide_bad (m : Mp) (A : Option Addr) (c : Nat) (l : List Pr) (w : World) (hm : MS w m) (hA : PS w w.heap.size A l) (l2 : m.os.length ≤ 9223372036854775807) (l3 : l.length < 4611686018427387904) (he : errV m.cs m.os l ≠ 0) :
    Calls Tryz.prog 135 #[.agg #[.slice m.A m.cs.length m.ca, .slice m.O m.os.length m.co], .slice A l.length c] w
      fun e w' => e = .returned (.tuple #[.agg #[.slice none 0 0, .slice none 0 0, .slice none 0 0, .slice none 0 0], .int .i64 (errV m.cs m.os l)]) ∧ Below w.heap.size w w' := by
  have hH := ((MH.new hm).alloc (o := .cells #[.slice none 0 0, .slice none 0 0, .slice none 0 0, .slice none 0 0] 192)).alloc (o := .cells #[.slice none 0 0, .slice none 0 0, .slice none 0 0, .slice none 0 0] 192)
  have x1 := (Box.new (w.alloc (.cells #[.slice m.A m.cs.length m.ca, .slice m.O m.os.length m.co] 34)) 192 #[.slice none 0 0, .slice none 0 0, .slice none 0 0, .slice none 0 0]).alloc (.cells #[.slice none 0 0, .slice none 0 0, .slice none 0 0, .slice none 0 0] 192)
  have x2 := Box.new ((w.alloc (.cells #[.slice m.A m.cs.length m.ca, .slice m.O m.os.length m.co] 34)).alloc (.cells #[.slice none 0 0, .slice none 0 0, .slice none 0 0, .slice none 0 0] 192)) 192 #[.slice none 0 0, .slice none 0 0, .slice none 0 0, .slice none 0 0]
  simp only [World.size_alloc] at x1 x2
  have hD : DvH w w.heap.size m l noD 0 _ := ⟨hH, x1, x2, fun j hj => absurd hj (by omega), Nat.le_refl _⟩
  clear x1 x2 hH
  have HPT := hideP (fun (W : World) (h : DvH w w.heap.size m l noD 0 W) => shpart_any m A c l 0 W h.mh.ms ((hA.below h.mh.be).more h.mh.be.size) l2 l3)
  rw [errV_part he] at HPT
  have d : (errV m.cs m.os l != 0) = true := by simp [he]
  generalize errV m.cs m.os l = q at HPT d ⊢
  clear he
  go_enter Tryz.func135, Tryz.ntmps135
  go_wp2_with fail
  generalize ((w.alloc _).alloc _).alloc _ = w1 at hD ⊢
  generalize hg : w.heap.size = g at hD HPT ⊢
  go_loopw [10] (fun i wr => i = .int .i64 0 ∧ DvH w g m l noD 0 wr) (fun _ _ => 0)
  case atStart => exact ⟨rfl, hD⟩
  case round =>
    obtain ⟨rfl, h⟩ := hrel
    clear hD
    obtain ⟨z1, z2⟩ := h.mh.c
    go_wp2_with fail
    refine (HPT.out _ h).mono ?_
    rintro e w2 ⟨Ap, cp, rfl, hov, hb2⟩
    simp only at hov ⊢
    replace h := h.below hb2
    clear hb2 z1 z2 HPT
    have o := h.res
    have HL := hideP (Below.kept h.mh.be (show w.heap.size ≤ g + 1 by omega) (grown_box (w := w2) (g := g + 1) [(0, .slice none 0 0), (1, .slice none 0 0), (2, .slice none 0 0), (3, .slice none 0 0)]))
    simp only [List.foldl] at HL
    have o1 := o.set 0 (.slice none 0 0)
    have o2 := o1.set 1 (.slice none 0 0)
    have o3 := o2.set 2 (.slice none 0 0)
    have o4 := o3.set 3 (.slice none 0 0)
    have f0 := o.frozen 0
    have f1 := o1.frozen 1
    have f2 := o2.frozen 2
    have f3 := o3.frozen 3
    have d0 := o.cell 0 (v := .slice none 0 0) rfl
    have d1 := o1.cell 1 (v := .slice none 0 0) rfl
    have d2 := o2.cell 2 (v := .slice none 0 0) rfl
    have d3 := o3.cell 3 (v := .slice none 0 0) rfl
    have q0 := o4.cell 0 (v := .slice none 0 0) rfl
    have q1 := o4.cell 1 (v := .slice none 0 0) rfl
    have q2 := o4.cell 2 (v := .slice none 0 0) rfl
    have q3 := o4.cell 3 (v := .slice none 0 0) rfl
    clear o o1 o2 o3 o4
    go_wp2_with fail
    exact bodyPost_ret (v := .tuple #[.agg #[.slice none 0 0, .slice none 0 0, .slice none 0 0, .slice none 0 0], .int .i64 q]) (by simp [results, Tryz.results135, go_sem, q0, q1, q2, q3]) rfl ⟨rfl, HL.out⟩
set_option maxHeartbeats 1000000 in
set_option maxRecDepth 100000 in
theorem new_bad (m : Mp) (A : Option Addr) (c : Nat) (l : List Pr) (w : World) (hm : MS w m) (hA : PS w w.heap.size A l) (l2 : m.os.length ≤ 9223372036854775807) (l3 : l.length < 4611686018427387904) (he : errV m.cs m.os l ≠ 0) :
    Calls Tryz.prog 84 #[.agg #[.slice m.A m.cs.length m.ca, .slice m.O m.os.length m.co], .slice A l.length c] w
      fun e w' => e = .returned (.tuple #[.pointer none, .int .i64 (errV m.cs m.os l)]) ∧ Below w.heap.size w w' := by
  have hH := MH.new hm
  have HDV := hideP (fun (W : World) (h : MH w w.heap.size m W) => divide_bad m A c l W h.ms ((hA.below h.be).more h.be.size) l2 l3 he)
  have d : (errV m.cs m.os l != 0) = true := by simp [he]
  generalize errV m.cs m.os l = q at HDV d ⊢
  obtain ⟨z1, z2⟩ := hH.c
  clear he
  go_enter Tryz.func84, Tryz.ntmps84
  go_wp2_with fail
  generalize w.alloc _ = w1 at hH z1 z2 ⊢
  generalize hg : w.heap.size = g at hH z1 z2 HDV ⊢
  refine (HDV.out _ hH).mono ?_
  rintro e w2 ⟨rfl, hb2⟩
  have hb3 := (hH.below hb2).be.alloc (hH.below hb2).be.size (.cells #[.slice none 0 0, .slice none 0 0, .slice none 0 0, .slice none 0 0] 192)
  clear HDV hH hb2 z1 z2
  go_wp2_with fail
  go_ret2
  exact ⟨rfl, hb3⟩
set_option maxHeartbeats 1000000 in
set_option maxRecDepth 100000 in
theorem do_bad (B g : Nat) (m : Mp) (l : List Pr) (q : Dv) (D : Option Addr) (cd : Nat) (d : List Opr) (w : World) (h : PB w B g m l q) (hD : OS w w.heap.size D d) (hd : chkD d ≠ 0) :
    Calls Tryz.prog 143 #[.pointer (some ⟨g, 0, none⟩), .agg #[.slice D d.length cd]] w fun e w' => e = .returned (.tuple #[.bool false, .int .i64 (chkD d)]) ∧ Below w.heap.size w w' := by
  have hb0 := (Below.refl w.heap.size w).alloc (Nat.le_refl _) (.cells #[.slice D d.length cd] 40)
  have y := Box.new w 40 #[.slice D d.length cd]
  have hP := h.below hb0
  have hD0 := hD.go hb0
  have hck : chkR l d = chkD d := by unfold chkR; simp [chk_ok.2 h.ok]
  have hsm := h.ok.small
  have HAL := hideP (fun (W : World) (h : PB W B g m l q) => all_ok B g m l q W h)
  have HRU := hideP (fun (W : World) (A : Option Addr) (c : Nat) (hA : OV W w.heap.size A c l) (hD : OS W W.heap.size D d) => run_bad A D c cd l d W hA.sv (by omega) hD (by rw [hck]; exact hd))
  rw [hck] at HRU
  have d0 : (chkD d != 0) = true := by simp [hd]
  generalize chkD d = e0 at HRU d0 ⊢
  clear h hD hd hck
  go_enter Tryz.func143, Tryz.ntmps143
  go_wp2_with fail
  generalize w.alloc _ = w1 at hb0 hP hD0 y ⊢
  generalize hgd : w.heap.size = gd at y ⊢
  have hgd' : w.heap.size ≤ w1.heap.size := hb0.size
  replace hP := hP.below (Below.refl _ _).drew
  replace y := y.drew
  replace hD0 := hD0.go (Below.refl _ _).drew
  replace hb0 := hb0.drew
  go_region_held3 (fun W => W.cell? ⟨gd, 0, none⟩ = some (.slice D d.length cd)) (first | with_reducible exact y3.cell 0 rfl | with_reducible exact y2.cell 0 rfl | with_reducible exact y.cell 0 rfl) (first
    | (go_at_call 94; refine (HAL.out _ hP).mono ?_; rintro e w2 ⟨A2, c2, rfl, ho2, hb2⟩; have hP2 := hP.below hb2; have y2 := y.below hb2; have hD2 := hD0.go hb2; have hb2' := hb0.trans (hb2.mono hb0.size))
    | (go_at_call 101; refine (HRU.out _ A2 c2 (ho2.mono hgd') hD2).mono ?_; rintro e w3 ⟨rfl, hb3⟩; have y3 := y2.below hb3; have hb3' := hb2'.trans (hb3.mono hb2'.size)))
  clear hP hP2 hD0 hD2 hb0 hb2 hb2' hb3 y y2 y3 HAL HRU ho2 hgd
  go_wp2_with fail
  go_ret2
  exact ⟨rfl, hb3'⟩
set_option maxHeartbeats 2000000 in
set_option maxRecDepth 100000 in
theorem turn_bad (B g : Nat) (m : Mp) (l : List Pr) (q : Dv) (n : Mp) (w : World) (h : PB w B g m l q) (hn : MS w n) (l2 : n.os.length ≤ 9223372036854775807) (he : chkM n.cs n.os ≠ 0) :
    Calls Tryz.prog 142 #[.pointer (some ⟨g, 0, none⟩), .agg #[.slice n.A n.cs.length n.ca, .slice n.O n.os.length n.co]] w fun e w' => e = .returned (.tuple #[.int .i64 0, .int .i64 (chkM n.cs n.os)]) ∧ Below w.heap.size w w' := by
  have hb0 := (Below.refl w.heap.size w).alloc (Nat.le_refl _) (.cells #[.slice n.A n.cs.length n.ca, .slice n.O n.os.length n.co] 34)
  have hT : TuH w B g m l q w.heap.size n _ := ⟨h.below hb0, Box.new _ _ _, hn, hb0⟩
  have hsm := h.ok.small
  have hev : errV n.cs n.os l = chkM n.cs n.os := by unfold errV; rw [if_pos he]
  have HAL := hideP (fun (W : World) (h : TuH w B g m l q w.heap.size n W) => all_ok B g m l q W h.pb)
  have HDV := hideP (fun (W : World) (A : Option Addr) (c : Nat) (hA : OV W w.heap.size A c l) (h : TuH w B g m l q w.heap.size n W) => divide_bad n A c l W h.ms hA.sv.ps l2 (by omega) (by rw [hev]; exact he))
  rw [hev] at HDV
  have HS := hideP (fun (W : World) (h : TuH w B g m l q w.heap.size n W) => h.c)
  have d : (chkM n.cs n.os != 0) = true := by simp [he]
  generalize chkM n.cs n.os = e0 at HDV d ⊢
  clear h hn hb0 hev he
  go_enter Tryz.func142, Tryz.ntmps142
  go_wp2_with fail
  generalize w.alloc _ = w1 at hT ⊢
  generalize hg3 : w.heap.size = g3 at hT HAL HDV HS ⊢
  have hlow : g3 ≤ w1.heap.size := by rw [← hg3]; exact hT.be.size
  go_region_held3 (fun W => W.cell? ⟨g3, 0, none⟩ = some (.slice n.A n.cs.length n.ca) ∧ W.cell? ⟨g3, 1, none⟩ = some (.slice n.O n.os.length n.co)) (first | with_reducible exact hS3 | (refine HS.out _ ?_; (repeat first | with_reducible exact hT2 | with_reducible exact hT1 | with_reducible exact hT | with_reducible apply TuH.alloc | with_reducible apply TuH.drew))) (first
    | (go_at_call 94
       first
         | (refine (HAL.out _ hT.drew).mono ?_; rintro e wk ⟨Ak, ck, rfl, hok', hbk⟩; have hT1 := hT.drew.below hbk; have hsk : w1.heap.size ≤ wk.heap.size := hbk.size)
         | (refine (HAL.out _ hT.alloc.drew).mono ?_; rintro e wk ⟨Ak, ck, rfl, hok', hbk⟩; have hT1 := hT.alloc.drew.below hbk; have hX := (Box.new w1 192 #[.slice none 0 0, .slice none 0 0, .slice none 0 0, .slice none 0 0]).drew.below hbk; have hlx : g3 ≤ w1.heap.size := hlow; have hsk : w1.heap.size ≤ wk.heap.size := Nat.le_trans (by simp) hbk.size)
       have ho1 : OV wk g3 Ak ck l := hok'.mono (by first | exact hlow | exact Nat.le_trans hlow (by simp)))
    | (go_at_call 135
       first
         | refine (HDV.out _ Ak ck ho1 hT1).mono ?_
         | refine (HDV.out _ Ak ck (ho1.below ((Below.refl _ _).alloc (Nat.le_refl _) _)) hT1.alloc).mono ?_
       rintro e wc ⟨rfl, hbc⟩
       first
         | (have hT2 := hT1.below hbc; replace hX := hX.below hbc)
         | (have hT2 := hT1.below hbc)
         | (have hT2 := hT1.alloc.below hbc; have hX := (Box.new wk 192 #[.slice none 0 0, .slice none 0 0, .slice none 0 0, .slice none 0 0]).below hbc; have hlx : g3 ≤ wk.heap.size := Nat.le_trans hlow hsk)
       first
         | (have hK := TuH.kept hT2 hX.ty (by rw [hg3]; exact hlx) (grown_box (w := wc) [(0, .slice none 0 0), (1, .slice none 0 0), (2, .slice none 0 0), (3, .slice none 0 0)])
            simp only [List.foldl] at hK
            have o1 := hX.set 0 (.slice none 0 0); have o2 := o1.set 1 (.slice none 0 0); have o3 := o2.set 2 (.slice none 0 0)
            have f0 := hX.frozen 0; have f1 := o1.frozen 1; have f2 := o2.frozen 2; have f3 := o3.frozen 3
            have d0 := hX.cell 0 (v := .slice none 0 0) rfl; have d1 := o1.cell 1 (v := .slice none 0 0) rfl; have d2 := o2.cell 2 (v := .slice none 0 0) rfl; have d3 := o3.cell 3 (v := .slice none 0 0) rfl
            clear o1 o2 o3
            have hS3 := HS.out _ hK
            have hbe := hK.be)
         | (have hK := hT2.alloc (o := .cells #[.slice none 0 0, .slice none 0 0, .slice none 0 0, .slice none 0 0] 192)
            have hbe := hK.be)))
  all_goals
    go_wp2_with fail
    go_ret2
    exact ⟨rfl, hbe⟩
end Go.Proofs.YtefdipjhjgmokaaGreatDoor

set_option linter.unusedVariables false
set_option linter.unusedSimpArgs false
namespace Go.Proofs.YtefdipjhjgmokaaGreatDoor
open Go.RowKit

theorem dec_out {i : Int} {n : Nat} (h : ¬ (0 ≤ i ∧ i < (n : Int))) : decide (0 ≤ i ∧ i < (n : Int)) = false := decide_eq_false h
set_option maxRecDepth 100000 in
theorem call_bad (c : Cs) (B : Nat) (i : Int) (w : World) (h : c.Ok w B) (hi : ¬ (0 ≤ i ∧ i < (c.rs.length : Int))) :
    Calls Tryz.prog 19 #[.pointer (some ⟨c.s.g, 0, none⟩), .int .i64 i] w fun e w' => e = .returned (.tuple #[.slice none 0 0, .int .i64 4]) ∧ w = w' := by
  have HH := hideP (chas_any c B i w h)
  rw [dec_out hi] at HH
  clear h hi
  go_enter Tryz.func19, Tryz.ntmps19
  go_wp2_with fail
  refine HH.out.mono ?_
  rintro e w' ⟨rfl, rfl⟩
  go_wp2_with fail
  go_ret2
  exact ⟨rfl, rfl⟩
set_option maxRecDepth 100000 in
theorem cdone_bad (c : Cs) (B : Nat) (i : Int) (w : World) (h : c.Ok w B) (hi : ¬ (0 ≤ i ∧ i < (c.rs.length : Int))) :
    Calls Tryz.prog 42 #[.pointer (some ⟨c.s.g, 0, none⟩), .int .i64 i] w fun e w' => e = .returned (.tuple #[.slice none 0 0, .int .i64 4]) ∧ w = w' := by
  have HH := hideP (chas_any c B i w h)
  rw [dec_out hi] at HH
  clear h hi
  go_enter Tryz.func42, Tryz.ntmps42
  go_wp2_with fail
  refine HH.out.mono ?_
  rintro e w' ⟨rfl, rfl⟩
  go_wp2_with fail
  go_ret2
  exact ⟨rfl, rfl⟩
set_option maxRecDepth 100000 in
theorem cpart_bad (c : Cs) (B : Nat) (i k : Int) (w : World) (h : c.Ok w B) (hi : ¬ (0 ≤ i ∧ i < (c.rs.length : Int))) :
    Calls Tryz.prog 41 #[.pointer (some ⟨c.s.g, 0, none⟩), .int .i64 i, .int .i64 k] w fun e w' => e = .returned (.tuple #[.slice none 0 0, .int .i64 4]) ∧ w = w' := by
  have HH := hideP (chas_any c B i w h)
  rw [dec_out hi] at HH
  clear h hi
  go_enter Tryz.func41, Tryz.ntmps41
  go_wp2_with fail
  refine HH.out.mono ?_
  rintro e w' ⟨rfl, rfl⟩
  go_wp2_with fail
  go_ret2
  exact ⟨rfl, rfl⟩
set_option maxRecDepth 100000 in
theorem cpart_arg (c : Cs) (B : Nat) (i : Nat) (k : Int) (r : Rp) (w : World) (h : c.Ok w B) (hi : c.rs[i]? = some r) (hk : k < 0 ∨ 4 ≤ k) :
    Calls Tryz.prog 41 #[.pointer (some ⟨c.s.g, 0, none⟩), .int .i64 (i : Int), .int .i64 k] w fun e w' => e = .returned (.tuple #[.slice none 0 0, .int .i64 1]) ∧ w = w' := by
  have hil := (List.getElem?_eq_some_iff.1 hi).1
  have HH := hideP (chas_any c B (i : Int) w h)
  rw [dec_in hil] at HH
  have c0 := h.c2
  obtain ⟨gr, hAR, _, q0, q1⟩ := h.at_ hi
  rw [hAR] at c0
  have HA := hideP (ppart_bad r.g k w hk)
  have g1 : (0 : Int) ≤ (i : Int) := by omega
  have g2 : (i : Int) < (c.rs.length : Int) := by omega
  generalize c.s.g = g at c0 HH ⊢
  generalize c.rs.length = n at c0 g2
  clear h hi hAR hil hk
  go_enter Tryz.func41, Tryz.ntmps41
  go_wp2_with fail
  refine HH.out.mono ?_
  rintro e w' ⟨rfl, rfl⟩
  go_wp2_with fail
  refine HA.out.mono ?_
  rintro e w1 ⟨rfl, rfl⟩
  go_wp2_with fail
  go_ret2
  exact ⟨rfl, rfl⟩
/-- the error of New -/
def cnV (inputs n : Int) (cs : List ByteArray) (os : List Int) (l : List Pr) : Int := if (1 ≤ inputs ∧ inputs ≤ 4) ∧ (1 ≤ n ∧ n ≤ 4) then errV cs os l else 1
set_option maxHeartbeats 2000000 in
set_option maxRecDepth 100000 in
theorem cnew_bad (inputs n : Int) (m : Mp) (A : Option Addr) (cp : Nat) (l : List Pr) (w : World) (hm : MS w m) (hA : PS w w.heap.size A l) (l2 : m.os.length ≤ 9223372036854775807) (l3 : l.length < 4611686018427387904) (he : cnV inputs n m.cs m.os l ≠ 0) :
    Calls Tryz.prog 10 #[.int .i64 inputs, .int .i64 n, .agg #[.slice m.A m.cs.length m.ca, .slice m.O m.os.length m.co], .slice A l.length cp] w fun e w' => e = .returned (.tuple #[.pointer none, .int .i64 (cnV inputs n m.cs m.os l)]) ∧ Below w.heap.size w w' := by
  have b0 := (Below.refl w.heap.size w).alloc (Nat.le_refl _) (.cells #[.slice m.A m.cs.length m.ca, .slice m.O m.os.length m.co] 34)
  by_cases hi : 1 ≤ inputs ∧ inputs ≤ 4
  · obtain ⟨i, rfl⟩ : ∃ i : Nat, inputs = i := ⟨inputs.toNat, by omega⟩
    have HN := hideP (fun (W : World) => mnew_ok i W (by omega) (by omega))
    by_cases hn : 1 ≤ n ∧ n ≤ 4
    · have hv : cnV (i : Int) n m.cs m.os l = errV m.cs m.os l := by unfold cnV; rw [if_pos ⟨hi, hn⟩]
      rw [hv] at he ⊢
      have x0 := Box.new w 34 #[.slice m.A m.cs.length m.ca, .slice m.O m.os.length m.co]
      have HP := hideP (fun (W : World) (hb : Below w.heap.size w W) => new_bad m A cp l W (hm.below hb) ((hA.below hb).more hb.size) l2 l3 he)
      have d2 : (errV m.cs m.os l != 0) = true := by simp [he]
      have g1 : ¬ n < 1 := by omega
      have g2 : ¬ 4 < n := by omega
      have d1 : decide (n < 1) = false := decide_eq_false g1
      have g3 : (0 : Int) < n := by omega
      generalize errV m.cs m.os l = q at HP d2 ⊢
      clear hm hA l2 l3 he hi hv
      go_enter Tryz.func10, Tryz.ntmps10
      go_wp2_with fail
      generalize w.alloc _ = w1 at b0 x0 ⊢
      generalize hgm : w.heap.size = gm at x0 ⊢
      refine (HN.out w1).mono ?_
      clear HN
      rintro e w2 ⟨s, rfl, hsx, hs, hct, hb2⟩
      have c0 := hs.mg.c0
      have c1 := hs.mg.c1
      have b2 := b0.trans (hb2.mono b0.size)
      have al := (Below.refl w2.heap.size w2).alloc (Nat.le_refl _) (.cells #[.slice s.AI s.ins.length s.cI, .int .i64 (s.added : Int), .slice none 0 0] 51)
      have b3 := b2.trans (al.mono b2.size)
      have x3 := (x0.below hb2).below al
      clear hct hsx hs x0 b0 b2 hb2
      go_wp2_with fail
      generalize w2.alloc _ = w3 at b3 x3 ⊢
      have z1 := x3.cell 0 (v := .slice m.A m.cs.length m.ca) rfl
      have z2 := x3.cell 1 (v := .slice m.O m.os.length m.co) rfl
      have HPP := hideP (HP.out w3 b3)
      clear HP x3 al c0 c1
      go_wp2_with fail
      go_loopw [35] (fun (v : Value) (W : World) => v = .int .i64 0 ∧ W = w3) (fun _ _ => 0)
      case atStart => exact ⟨rfl, rfl⟩
      case round =>
        obtain ⟨rfl, rfl⟩ := hrel
        go_wp2_with fail
        refine HPP.out.mono ?_
        rintro e w4 ⟨rfl, hb4⟩
        have b4 := b3.trans (hb4.mono b3.size)
        clear hb4 b3 HPP z1 z2
        go_wp2_with fail
        go_ret2
        exact ⟨rfl, b4⟩
    · have hv : cnV (i : Int) n m.cs m.os l = 1 := by unfold cnV; rw [if_neg fun e => hn e.2]
      rw [hv]
      clear hm hA l2 l3 he hv hi
      by_cases h1 : n < 1
      · go_enter Tryz.func10, Tryz.ntmps10
        go_wp2_with fail
        generalize w.alloc _ = w1 at b0 ⊢
        refine (HN.out w1).mono ?_
        rintro e w2 ⟨s, rfl, -, -, -, hb2⟩
        have b2 := b0.trans (hb2.mono b0.size)
        go_wp2_with fail
        go_ret2
        exact ⟨rfl, b2⟩
      · have h2 : 4 < n := by omega
        have h3 : decide (n < 1) = false := decide_eq_false h1
        go_enter Tryz.func10, Tryz.ntmps10
        go_wp2_with fail
        generalize w.alloc _ = w1 at b0 ⊢
        refine (HN.out w1).mono ?_
        rintro e w2 ⟨s, rfl, -, -, -, hb2⟩
        have b2 := b0.trans (hb2.mono b0.size)
        go_wp2_with fail
        go_ret2
        exact ⟨rfl, b2⟩
  · have hv : cnV inputs n m.cs m.os l = 1 := by unfold cnV; rw [if_neg fun e => hi e.1]
    rw [hv]
    have HN := hideP (fun (W : World) => mnew_bad inputs W hi)
    clear hm hA l2 l3 he hv hi
    go_enter Tryz.func10, Tryz.ntmps10
    go_wp2_with fail
    generalize w.alloc _ = w1 at b0 ⊢
    refine (HN.out w1).mono ?_
    rintro e w2 ⟨rfl, rfl⟩
    go_wp2_with fail
    go_ret2
    exact ⟨rfl, b0⟩
end Go.Proofs.YtefdipjhjgmokaaGreatDoor

set_option linter.unusedVariables false
set_option linter.unusedSimpArgs false
namespace Go.Proofs.YtefdipjhjgmokaaGreatDoor
open Go.RowKit

/-- what execute hands back, and makes -/
def RetEx (w : World) (B g : Nat) (m : Mp) (l : List Pr) (x : Ent) (e : Ending) (w' : World) : Prop :=
  e = .returned (.bool (doneE (valOf l) x)) ∧ ∃ m' l' q', PB w' B g m' l' q' ∧ w.grownBy w' (some g) ∧ (∀ bs, stepR ⟨valOf l, m.cs, m.os, bs⟩ x = ⟨valOf l', m'.cs, m'.os, bs ++ [doneE (valOf l) x]⟩) ∧ (blk m'.O = blk m.O ∨ ∀ k, blk m'.O = some k → w.heap.size ≤ k)
set_option maxHeartbeats 1000000 in
set_option maxRecDepth 100000 in
theorem exec_any (gr ri B g : Nat) (m : Mp) (l : List Pr) (q : Dv) (x : Em) (w : World) (h : PB w B g m l q) (hc : w.cell? ⟨gr, ri, none⟩ = some (.pointer (some ⟨g, 0, none⟩))) (hx : ES w x) (hk : chkE (entOf x) = 0) :
    Calls Tryz.prog 93 #[.pointer (some ⟨gr, ri, none⟩), emV x] w (RetEx w B g m l (entOf x)) := by
  have hgr : gr < w.heap.size := cell_lt hc
  have b0 := (Below.refl w.heap.size w).alloc (Nat.le_refl _) (.cells (emC x) 42)
  have x0 := Box.new w 42 (emC x)
  have hx1 := hx.below b0
  have h1 := h.below b0
  have hc1 := (b0.cell (p := ⟨gr, ri, none⟩) hgr).trans hc
  obtain ⟨D, c, d, isM, ⟨A, ca, cs, O, co, os⟩⟩ := x
  unfold emV
  unfold emC at b0 x0 hx1 h1 hc1 ⊢
  simp only at b0 x0 hx1 h1 hc1 ⊢
  have c0 := x0.cell 0 (v := .slice D d.length c) rfl
  have c1 := x0.cell 1 (v := .bool isM) rfl
  have c2 := x0.cell 2 (v := .slice A cs.length ca) rfl
  have c3 := x0.cell 3 (v := .slice O os.length co) rfl
  have HG := hideP (grown_below b0.drew (some g))
  cases isM
  · have HD := hideP (do_ok B g m l q D c d _ (h1.below (Below.refl _ _).drew) (hx1.ops.go (Below.refl _ _).drew) hk)
    have HE := hideP (show doneE (valOf l) (entOf ⟨D, c, d, false, ⟨A, ca, cs, O, co, os⟩⟩) = (doneV (valOf l) d).2 ∧ ∀ bs, stepR ⟨valOf l, m.cs, m.os, bs⟩ (entOf ⟨D, c, d, false, ⟨A, ca, cs, O, co, os⟩⟩) = ⟨(doneV (valOf l) d).1, m.cs, m.os, bs ++ [(doneV (valOf l) d).2]⟩ from ⟨rfl, fun _ => rfl⟩)
    unfold RetEx
    rw [HE.out.1]
    clear h h1 hx hx1 x0 b0 hc hk
    go_enter Tryz.func93, Tryz.ntmps93
    go_wp2_with fail
    go_region_law (
      (go_simp
       go_at_call 143
       refine HD.out.mono ?_
       rintro e w2 ⟨rfl, l', q', hP, hv, hg⟩))
    all_goals
      have HF := hideP (show ∃ m' l' q', PB w2 B g m' l' q' ∧ w.grownBy w2 (some g) ∧ (∀ bs, stepR ⟨valOf l, m.cs, m.os, bs⟩ (entOf ⟨D, c, d, false, ⟨A, ca, cs, O, co, os⟩⟩) = ⟨valOf l', m'.cs, m'.os, bs ++ [(doneV (valOf l) d).2]⟩) ∧ (blk m'.O = blk m.O ∨ ∀ k, blk m'.O = some k → w.heap.size ≤ k) from
        ⟨m, l', q', hP, grown_trans HG.out hg, (fun bs => by rw [HE.out.2, hv]), .inl rfl⟩)
      clear hP hv hg HG HE HD
      go_wp2_with fail
      go_ret
      exact ⟨rfl, HF.out⟩
  · have HB0 := hideP b0.size
    have HT := hideP (turn_fr B g m l q _ _ (h1.below (Below.refl _ _).drew) (hx1.map.below (Below.refl _ _).drew) (chkM_ok.1 hk))
    simp only at HT
    have HE := hideP (show doneE (valOf l) (entOf ⟨D, c, d, true, ⟨A, ca, cs, O, co, os⟩⟩) = true ∧ ∀ bs, stepR ⟨valOf l, m.cs, m.os, bs⟩ (entOf ⟨D, c, d, true, ⟨A, ca, cs, O, co, os⟩⟩) = ⟨valOf l, cs, os, bs ++ [true]⟩ from ⟨rfl, fun _ => rfl⟩)
    unfold RetEx
    rw [HE.out.1]
    clear h h1 hx hx1 x0 b0 hc hk
    go_enter Tryz.func93, Tryz.ntmps93
    go_wp2_with fail
    go_region_law (
      (go_simp
       go_at_call 142
       refine HT.out.mono ?_
       rintro e w2 ⟨rfl, A', ca', O', co', q', hP, hg, hO⟩))
    all_goals
      have HF := hideP (show ∃ m' l' q', PB w2 B g m' l' q' ∧ w.grownBy w2 (some g) ∧ (∀ bs, stepR ⟨valOf l, m.cs, m.os, bs⟩ (entOf ⟨D, c, d, true, ⟨A, ca, cs, O, co, os⟩⟩) = ⟨valOf l', m'.cs, m'.os, bs ++ [true]⟩) ∧ (blk m'.O = blk m.O ∨ ∀ k, blk m'.O = some k → w.heap.size ≤ k) from
        ⟨_, l, q', hP, grown_trans HG.out hg, (fun bs => by rw [HE.out.2]), (by
          refine .inr fun k hk => Nat.le_trans HB0.out ?_
          cases O' with
          | none => cases hk
          | some a =>
            have e : a.block = k := by injection hk
            rw [← e]
            exact hO a rfl)⟩)
      clear hP hg hO HG HE HT
      go_wp2_with fail
      go_ret
      exact ⟨rfl, HF.out⟩
end Go.Proofs.YtefdipjhjgmokaaGreatDoor
