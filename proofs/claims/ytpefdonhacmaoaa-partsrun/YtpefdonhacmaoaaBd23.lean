/-
  (*parts.Parts).Do.
  The contract of sort.Slice that the library holds, laid at this dump.
-/
import Derived.Test.YtpefdonhacmaoaaBd20
import Derived.Test.YtpefdonhacmaoaaBd9
import Derived.Test.YtpefdonhacmaoaaBd22
import Derived.Deep.RegionHeld3
import Derived.Shelf.SlSortFuncK.WholeK
import Derived.Ground.GgsProg
import Derived.Test.YtpefdonhacmaoaaProg
set_option linter.unusedVariables false
set_option linter.unusedSimpArgs false
namespace Go.Proofs.Ytpefdonhacmaoaa
open Go.RowKit

/-- the parts are written anew -/
theorem PB.fill {w w5 : World} {B g : Nat} {m : Mp} {l l' : List Pr} {q q' : Dv} (h : PB w5 B g m l q) (hB : B ≤ w.heap.size) (hbe : Below w.heap.size w w5) (hq : q'.Own w5 w.heap.size m.cs m.os l' 4) (hl : Ok l') :
    PB ((((w5.setCell ⟨g, 2, none⟩ (q'.s m.cs m.os l' 0)).setCell ⟨g, 3, none⟩ (q'.s m.cs m.os l' 1)).setCell ⟨g, 4, none⟩ (q'.s m.cs m.os l' 2)).setCell ⟨g, 5, none⟩ (q'.s m.cs m.os l' 3)) B g m l' q' ∧
      w.grownBy ((((w5.setCell ⟨g, 2, none⟩ (q'.s m.cs m.os l' 0)).setCell ⟨g, 3, none⟩ (q'.s m.cs m.os l' 1)).setCell ⟨g, 4, none⟩ (q'.s m.cs m.os l' 2)).setCell ⟨g, 5, none⟩ (q'.s m.cs m.os l' 3)) (some g) := by
  have hgr := grown_box (w := w5) (g := g) [(2, q'.s m.cs m.os l' 0), (3, q'.s m.cs m.os l' 1), (4, q'.s m.cs m.os l' 2), (5, q'.s m.cs m.os l' 3)]
  simp only [List.foldl] at hgr
  have b4 := (((h.box.set 2 (q'.s m.cs m.os l' 0)).set 3 (q'.s m.cs m.os l' 1)).set 4 (q'.s m.cs m.os l' 2)).set 5 (q'.s m.cs m.os l' 3)
  exact ⟨⟨b4, h.mo.kept h.box.ty (by decide) (by decide) hgr, (hq.mono hB).kept h.box.ty (by decide) hgr, h.okm, hl, h.low⟩, grown_trans (grown_below hbe _) hgr⟩
/-- what Do hands back, and makes -/
def RetDo (w : World) (B g : Nat) (m : Mp) (r : VF × Bool) (e : Ending) (w' : World) : Prop :=
  e = .returned (.tuple #[.bool r.2, .int .i64 0]) ∧ ∃ l' q', PB w' B g m l' q' ∧ valOf l' = r.1 ∧ w.grownBy w' (some g)

set_option maxHeartbeats 2000000 in
set_option maxRecDepth 100000 in
theorem do_ok (B g : Nat) (m : Mp) (l : List Pr) (q : Dv) (D : Option Addr) (cd : Nat) (d : List Opr) (w : World) (h : PB w B g m l q) (hD : OS w w.heap.size D d) (hd : chkD d = 0) :
    Calls Try.prog 12 #[.pointer (some ⟨g, 0, none⟩), .agg #[.slice D d.length cd]] w (RetDo w B g m (doneV (valOf l) d)) := by
  have hb0 := (Below.refl w.heap.size w).alloc (Nat.le_refl _) (.cells #[.slice D d.length cd] 39)
  have y := Box.new w 39 #[.slice D d.length cd]
  have hP := h.below hb0
  have hD0 := hD.go hb0
  have hB : B ≤ w.heap.size := Nat.le_of_lt (Nat.lt_of_le_of_lt h.low h.box.lt)
  have HAL := hideP (fun (W : World) (h : PB W B g m l q) => all_ok B g m l q W h)
  have HRU := hideP (fun (W : World) (A : Option Addr) (c : Nat) (hA : OV W w.heap.size A c l) (h : PB W B g m l q) (hD : OS W W.heap.size D d) => run_ok A D c cd l d W hA.sv h.ok hD hd)
  generalize doneV (valOf l) d = r at HRU ⊢
  clear h hD hd
  go_enter Try.func12, Try.ntmps12
  go_wp2_with fail
  generalize w.alloc _ = w1 at hb0 hP hD0 y ⊢
  generalize hgd : w.heap.size = gd at y ⊢
  have hgd' : w.heap.size ≤ w1.heap.size := hb0.size
  replace hP := hP.below (Below.refl _ _).drew
  replace y := y.drew
  replace hD0 := hD0.go (Below.refl _ _).drew
  replace hb0 := hb0.drew
  go_region_held3 (fun W => W.cell? ⟨gd, 0, none⟩ = some (.slice D d.length cd)) (first | with_reducible exact y3.cell 0 rfl | with_reducible exact y2.cell 0 rfl | with_reducible exact y.cell 0 rfl) (first
    | (go_at_call 14; refine (HAL.out _ hP).mono ?_; rintro e w2 ⟨A2, c2, rfl, ho2, hb2⟩; have hP2 := hP.below hb2; have y2 := y.below hb2; have hD2 := hD0.go hb2; have hb2' := hb0.trans (hb2.mono hb0.size))
    | (go_at_call 23; refine (HRU.out _ A2 c2 (ho2.mono hgd') hP2 hD2).mono ?_; rintro e w3 ⟨A3, c3, l3, rfl, ho3, hok3, hv3, hb3⟩; have hP3 := hP2.below hb3; have y3 := y2.below hb3; have hb3' := hb2'.trans (hb3.mono hb2'.size)))
  have HV := hideP hv3
  have z1 := hP3.c0
  have z2 := hP3.c1
  clear hv3 hP hP2 hD0 hD2 hb0 hb2 hb2' hb3 y y2 y3 HAL HRU ho2 hgd
  go_wp2_with fail
  refine (divide_ok m A3 c3 l3 _ hP3.mo.ms ho3.sv.ps hP3.okm hok3).mono ?_
  rintro e w4 ⟨q', rfl, hq, hb4⟩
  have hP4 := hP3.below hb4
  have hb4' := hb3'.trans (hb4.mono hb3'.size)
  have hq4 := hq.mono hb3'.size
  clear hP3 hb3' hb4 hq ho3 z1 z2
  simp only [Dv.ar]
  have HFI := hideP (fun (W : World) (h : PB W B g m l q) (hbe : Below w.heap.size w W) (hq : q'.Own W w.heap.size m.cs m.os l3 4) => h.fill hB hbe hq hok3)
  obtain ⟨a0, n0, c0, e0⟩ : ∃ a n c, q'.s m.cs m.os l3 0 = .slice a n c := ⟨_, _, _, rfl⟩
  obtain ⟨a1, n1, c1, e1⟩ : ∃ a n c, q'.s m.cs m.os l3 1 = .slice a n c := ⟨_, _, _, rfl⟩
  obtain ⟨a2, n2, c2', e2⟩ : ∃ a n c, q'.s m.cs m.os l3 2 = .slice a n c := ⟨_, _, _, rfl⟩
  obtain ⟨a3, n3, c3', e3⟩ : ∃ a n c, q'.s m.cs m.os l3 3 = .slice a n c := ⟨_, _, _, rfl⟩
  rw [e0, e1, e2, e3] at HFI ⊢
  clear e0 e1 e2 e3 hok3
  have ha := (Below.refl w4.heap.size w4).alloc (Nat.le_refl _) (.cells #[.slice a0 n0 c0, .slice a1 n1 c1, .slice a2 n2 c2', .slice a3 n3 c3'] 62)
  have hP5 := hP4.below ha
  have hb5 := hb4'.trans (ha.mono hb4'.size)
  have hq5 := hq4.below ha
  have y := Box.new w4 62 #[.slice a0 n0 c0, .slice a1 n1 c1, .slice a2 n2 c2', .slice a3 n3 c3']
  have HF := hideP (HFI.out _ hP5 hb5 hq5)
  have o1 := hP5.box.set 2 (.slice a0 n0 c0)
  have o2 := o1.set 3 (.slice a1 n1 c1)
  have o3 := o2.set 4 (.slice a2 n2 c2')
  have f0 := hP5.box.frozen 2
  have f1 := o1.frozen 3
  have f2 := o2.frozen 4
  have f3 := o3.frozen 5
  have d0 := hP5.box.cell 2 rfl
  have d1 := o1.cell 3 (v := q.s m.cs m.os l 1) rfl
  have d2 := o2.cell 4 (v := q.s m.cs m.os l 2) rfl
  have d3 := o3.cell 5 (v := q.s m.cs m.os l 3) rfl
  have k0 := y.cell 0 (v := .slice a0 n0 c0) rfl
  have k1 := y.cell 1 (v := .slice a1 n1 c1) rfl
  have k2 := y.cell 2 (v := .slice a2 n2 c2') rfl
  have k3 := y.cell 3 (v := .slice a3 n3 c3') rfl
  clear o1 o2 o3 hP4 hq4 hb4' ha hP5 hb5 hq5 HFI y
  go_wp2_with fail
  go_ret2
  exact ⟨rfl, l3, q', HF.out.1, HV.out, HF.out.2⟩
end Go.Proofs.Ytpefdonhacmaoaa

namespace Go.Proofs
open Go.Shelf
def Try.sv6_ren : Go.Shelf.Ren := ⟨fun | 6 => 32 | 10 => 43 | 11 => 44 | 12 => 45 | 13 => 46 | 14 => 47 | 24 => 63 | 25 => 64 | 26 => 65 | 27 => 66 | 28 => 67 | 29 => 68 | 30 => 69 | 31 => 70 | 32 => 71 | 33 => 72 | 34 => 75 | 35 => 76 | 36 => 77 | 37 => 78 | 38 => 79 | 39 => 81 | n => n, fun | 20 => 20 | 26 => 82 | 35 => 95 | 0 => 0 | 37 => 97 | 3 => 3 | 41 => 101 | 44 => 104 | 49 => 115 | 51 => 79 | 4 => 4 | 54 => 119 | 53 => 118 | 58 => 123 | 5 => 5 | 9 => 9 | 60 => 127 | 64 => 131 | 66 => 134 | 67 => 135 | 17 => 17 | 32 => 92 | 33 => 93 | 82 => 153 | 12 => 12 | 75 => 146 | 76 => 147 | 77 => 148 | 78 => 149 | 79 => 150 | 80 => 151 | n => n, fun | n => n⟩
theorem Try.sv6 : Go.Proofs.LaysGg.n6 Try.prog Try.sv6_ren := {
  mixed := by kernel_rfl
  f6 := Try.func32.trans (congrArg some (by kernel_rfl))
  f10 := Try.func43.trans (congrArg some (by kernel_rfl))
  f11 := Try.func44.trans (congrArg some (by kernel_rfl))
  f12 := Try.func45.trans (congrArg some (by kernel_rfl))
  f13 := Try.func46.trans (congrArg some (by kernel_rfl))
  f14 := Try.func47.trans (congrArg some (by kernel_rfl))
  f24 := Try.func63.trans (congrArg some (by kernel_rfl))
  f25 := Try.func64.trans (congrArg some (by kernel_rfl))
  f26 := Try.func65.trans (congrArg some (by kernel_rfl))
  f27 := Try.func66.trans (congrArg some (by kernel_rfl))
  f28 := Try.func67.trans (congrArg some (by kernel_rfl))
  f29 := Try.func68.trans (congrArg some (by kernel_rfl))
  f30 := Try.func69.trans (congrArg some (by kernel_rfl))
  f31 := Try.func70.trans (congrArg some (by kernel_rfl))
  f32 := Try.func71.trans (congrArg some (by kernel_rfl))
  f33 := Try.func72.trans (congrArg some (by kernel_rfl))
  f34 := Try.func75.trans (congrArg some (by kernel_rfl))
  f35 := Try.func76.trans (congrArg some (by kernel_rfl))
  f36 := Try.func77.trans (congrArg some (by kernel_rfl))
  f37 := Try.func78.trans (congrArg some (by kernel_rfl))
  f38 := Try.func79.trans (congrArg some (by kernel_rfl))
  f39 := Try.func81.trans (congrArg some (by kernel_rfl))
  t0 := Try.underlying0
  a0 := Try.isAgg0
  z0 := Try.sizeOf0
  v0 := Try.zeroValue0
  i0 := by kernel_rfl
  t3 := Try.underlying3
  a3 := Try.isAgg3
  z3 := Try.sizeOf3
  v3 := Try.zeroValue3
  i3 := by kernel_rfl
  t4 := Try.underlying4
  a4 := Try.isAgg4
  z4 := Try.sizeOf4
  v4 := Try.zeroValue4
  i4 := by kernel_rfl
  t5 := Try.underlying5
  a5 := Try.isAgg5
  z5 := Try.sizeOf5
  v5 := Try.zeroValue5
  i5 := by kernel_rfl
  t9 := Try.underlying9
  a9 := Try.isAgg9
  z9 := Try.sizeOf9
  v9 := Try.zeroValue9
  i9 := by kernel_rfl
  t12 := Try.underlying12
  a12 := Try.isAgg12
  z12 := Try.sizeOf12
  v12 := Try.zeroValue12
  i12 := by kernel_rfl
  t17 := Try.underlying17
  a17 := Try.isAgg17
  z17 := Try.sizeOf17
  v17 := Try.zeroValue17
  i17 := by kernel_rfl
  t20 := Try.underlying20
  a20 := Try.isAgg20
  z20 := Try.sizeOf20
  v20 := Try.zeroValue20
  i20 := by kernel_rfl
  t26 := Try.underlying82
  a26 := Try.isAgg82
  z26 := Try.sizeOf82
  v26 := Try.zeroValue82
  i26 := by kernel_rfl
  t32 := Try.underlying92
  a32 := Try.isAgg92
  z32 := Try.sizeOf92
  v32 := Try.zeroValue92
  i32 := by kernel_rfl
  t33 := Try.underlying93
  a33 := Try.isAgg93
  z33 := Try.sizeOf93
  v33 := Try.zeroValue93
  i33 := by kernel_rfl
  t35 := Try.underlying95
  a35 := Try.isAgg95
  z35 := Try.sizeOf95
  v35 := Try.zeroValue95
  i35 := by kernel_rfl
  t37 := Try.underlying97
  a37 := Try.isAgg97
  z37 := Try.sizeOf97
  v37 := Try.zeroValue97
  i37 := by kernel_rfl
  t41 := Try.underlying101
  a41 := Try.isAgg101
  z41 := Try.sizeOf101
  v41 := Try.zeroValue101
  i41 := by kernel_rfl
  t44 := Try.underlying104
  a44 := Try.isAgg104
  z44 := Try.sizeOf104
  v44 := Try.zeroValue104
  i44 := by kernel_rfl
  t49 := Try.underlying115
  a49 := Try.isAgg115
  z49 := Try.sizeOf115
  v49 := Try.zeroValue115
  i49 := by kernel_rfl
  t51 := Try.underlying79
  a51 := Try.isAgg79
  z51 := Try.sizeOf79
  v51 := Try.zeroValue79
  i51 := by kernel_rfl
  t53 := Try.underlying118
  a53 := Try.isAgg118
  z53 := Try.sizeOf118
  v53 := Try.zeroValue118
  i53 := by kernel_rfl
  t54 := Try.underlying119
  a54 := Try.isAgg119
  z54 := Try.sizeOf119
  v54 := Try.zeroValue119
  i54 := by kernel_rfl
  t58 := Try.underlying123
  a58 := Try.isAgg123
  z58 := Try.sizeOf123
  v58 := Try.zeroValue123
  i58 := by kernel_rfl
  t60 := Try.underlying127
  a60 := Try.isAgg127
  z60 := Try.sizeOf127
  v60 := Try.zeroValue127
  i60 := by kernel_rfl
  t64 := Try.underlying131
  a64 := Try.isAgg131
  z64 := Try.sizeOf131
  v64 := Try.zeroValue131
  i64 := by kernel_rfl
  t66 := Try.underlying134
  a66 := Try.isAgg134
  z66 := Try.sizeOf134
  v66 := Try.zeroValue134
  i66 := by kernel_rfl
  t67 := Try.underlying135
  a67 := Try.isAgg135
  z67 := Try.sizeOf135
  v67 := Try.zeroValue135
  i67 := by kernel_rfl
  t75 := Try.underlying146
  a75 := Try.isAgg146
  z75 := Try.sizeOf146
  v75 := Try.zeroValue146
  i75 := by kernel_rfl
  t76 := Try.underlying147
  a76 := Try.isAgg147
  z76 := Try.sizeOf147
  v76 := Try.zeroValue147
  i76 := by kernel_rfl
  t77 := Try.underlying148
  a77 := Try.isAgg148
  z77 := Try.sizeOf148
  v77 := Try.zeroValue148
  i77 := by kernel_rfl
  t78 := Try.underlying149
  a78 := Try.isAgg149
  z78 := Try.sizeOf149
  v78 := Try.zeroValue149
  i78 := by kernel_rfl
  t79 := Try.underlying150
  a79 := Try.isAgg150
  z79 := Try.sizeOf150
  v79 := Try.zeroValue150
  i79 := by kernel_rfl
  t80 := Try.underlying151
  a80 := Try.isAgg151
  z80 := Try.sizeOf151
  v80 := Try.zeroValue151
  i80 := by kernel_rfl
  t82 := Try.underlying153
  a82 := Try.isAgg153
  z82 := Try.sizeOf153
  v82 := Try.zeroValue153
  i82 := by kernel_rfl }
end Go.Proofs
