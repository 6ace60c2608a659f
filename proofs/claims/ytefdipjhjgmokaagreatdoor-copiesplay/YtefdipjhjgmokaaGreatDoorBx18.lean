/-
  (*parts.Parts).All.
  (*copies.Copies).hasReplica, All.
  (*parts.Parts).Part.
  (*copies.Copies).Part.
  slices.Grow of nil at bools; append of what another slice holds.
  slices.Concat of two, at bools.
  While a function makes a map of a map: its argument, its result (no body of the program in it).
-/
import Derived.Test.YtefdipjhjgmokaaGreatDoorBx17
import Derived.Test.YtefdipjhjgmokaaGreatDoorBx10
import Derived.Test.YtefdipjhjgmokaaGreatDoorBx12
import Derived.Test.YtefdipjhjgmokaaGreatDoorBx9
import Derived.Test.YtefdipjhjgmokaaGreatDoorBx1
import Derived.WalkKit
import Derived.WalkSpells
import Derived.WalkLawsBesides
import Derived.Deep.QuietTactic
import Derived.BigQuiet
import Derived.Test.YtefdipjhjgmokaaGreatDoorBx7
import Derived.Test.YtefdipjhjgmokaaGreatDoorBx2
set_option linter.unusedVariables false
set_option linter.unusedSimpArgs false
namespace Go.Proofs.YtefdipjhjgmokaaGreatDoor
open Go.RowKit

/-- the parts of the owners so far, joined -/
theorem all_join {cs : List ByteArray} {os : List Int} {l y : List Pr} {n : Int} (h : Ok l) (hj : Joined (upL cs os n l) (ptL cs os n l) y) : y = upL cs os (n + 1) l :=
  hj.ok.one_ (upL_ok h _) fun p => by rw [hj.mem, up_mem]
def AlI (w : World) (m : Mp) (l : List Pr) (v i : Value) (wr : World) : Prop :=
  ∃ (k : Nat) (A : Option Addr) (c : Nat), k ≤ 4 ∧ i = .int .i64 k ∧ v = .slice A (upL m.cs m.os (k : Int) l).length c ∧ OV wr w.heap.size A c (upL m.cs m.os (k : Int) l) ∧ Below w.heap.size w wr

set_option maxHeartbeats 1000000 in
set_option maxRecDepth 100000 in
theorem all_ok (B g : Nat) (m : Mp) (l : List Pr) (q : Dv) (w : World) (h : PB w B g m l q) :
    Calls Tryz.prog 94 #[.pointer (some ⟨g, 0, none⟩)] w fun e w' => ∃ A c, e = .returned (.slice A l.length c) ∧ OV w' w.heap.size A c l ∧ Below w.heap.size w w' := by
  have p0 : w.cell? ⟨g, 2, none⟩ = some (q.s m.cs m.os l 0) := h.box.cell 2 rfl
  have p1 : w.cell? ⟨g, 3, none⟩ = some (q.s m.cs m.os l 1) := h.box.cell 3 rfl
  have p2 : w.cell? ⟨g, 4, none⟩ = some (q.s m.cs m.os l 2) := h.box.cell 4 rfl
  have p3 : w.cell? ⟨g, 5, none⟩ = some (q.s m.cs m.os l 3) := h.box.cell 5 rfl
  have hsm := h.ok.small
  go_enter Tryz.func94, Tryz.ntmps94
  go_wp2_with fail
  go_loopw [3, 10] (AlI w m l) (fun _ i _ => 4 - (intOf i).toNat)
  case atStart => exact ⟨0, none, 0, by omega, rfl, by rw [show ((0 : Nat) : Int) = 0 from rfl, upL_zero h.okm]; rfl, by rw [show ((0 : Nat) : Int) = 0 from rfl, upL_zero h.okm]; exact World.ownsRow_nil _ _ _ _, Below.refl _ _⟩
  case round =>
    obtain ⟨k, A, c, hk, rfl, rfl, hov, hb⟩ := hrel
    by_cases hk4 : k < 4
    · have HJ : Hid (Calls Tryz.prog 144 #[.slice A (upL m.cs m.os (k : Int) l).length c, q.s m.cs m.os l k] wr fun e w' => ∃ A' c', e = .returned (.tuple #[.slice A' (upL m.cs m.os ((k + 1 : Nat) : Int) l).length c', .int .i64 0]) ∧ OV w' w.heap.size A' c' (upL m.cs m.os ((k + 1 : Nat) : Int) l) ∧ Below w.heap.size w w') := hideP (by
        have hu : (upL m.cs m.os (k : Int) l).length ≤ l.length := List.length_filter_le _ _
        have hp : (ptL m.cs m.os (k : Int) l).length ≤ l.length := List.length_filter_le _ _
        refine (join_own A (q.A k) c (q.c k) _ _ wr hov.sv ((h.own k hk4).below hb |>.sv) (upL_ok h.ok _) (ptL_ok h.ok _) (by omega)).mono ?_
        rintro e w1 ⟨hor, hb1⟩
        rcases hor with ⟨hna, _⟩ | ⟨A1, c1, y, rfl, hy, hj⟩
        · exact absurd (show Apart _ _ from up_apart (k : Int)) hna
        · have e := all_join h.ok hj
          rw [show ((k + 1 : Nat) : Int) = (k : Int) + 1 by omega, ← e]
          exact ⟨A1, c1, rfl, hy.mono hb.size, hb.trans (hb1.mono hb.size)⟩)
      have HI := hideP (fun (A' : Option Addr) (c' : Nat) (w' : World) (h1 : OV w' w.heap.size A' c' (upL m.cs m.os ((k + 1 : Nat) : Int) l)) (h2 : Below w.heap.size w w') (i : Value) (hi : i = .int .i64 ((k + 1 : Nat) : Int)) => show AlI w m l (.slice A' (upL m.cs m.os ((k + 1 : Nat) : Int) l).length c') i w' from ⟨k + 1, A', c', by omega, hi, rfl, h1, h2⟩)
      generalize upL m.cs m.os (k : Int) l = up at HJ ⊢
      generalize upL m.cs m.os ((k + 1 : Nat) : Int) l = nx at HJ HI
      have ix := fun w => idx4 q m.cs m.os l hk4 w
      have g1 : (k : Int) < 4 := by omega
      obtain ⟨ak, nk, ck, ek⟩ : ∃ a n c, q.s m.cs m.os l k = .slice a n c := ⟨_, _, _, rfl⟩
      rw [ek] at ix HJ
      clear h hov hb p0 p1 p2 p3 ek
      go_wp2_with fail
      refine HJ.out.mono ?_
      rintro e w1 ⟨A1, c1, rfl, ho1, hb1⟩
      go_wp2_with fail
      go_roundw
      case rel => exact HI.out _ _ _ ho1 hb1 _ (by go_num)
      case measure => simp [intOf]; omega
    · have hk5 : k = 4 := by omega
      have e4 : upL m.cs m.os (k : Int) l = l := by rw [hk5]; exact upL_all h.okm
      rw [e4] at hov ⊢
      clear e4 hk5
      have g4 : ¬ (k : Int) < 4 := by omega
      go_wp2_with fail
      go_ret
      exact ⟨A, c, rfl, hov, hb⟩
end Go.Proofs.YtefdipjhjgmokaaGreatDoor

set_option linter.unusedVariables false
set_option linter.unusedSimpArgs false
namespace Go.Proofs.YtefdipjhjgmokaaGreatDoor
open Go.RowKit

set_option maxRecDepth 100000 in
theorem chas_any (c : Cs) (B : Nat) (i : Int) (w : World) (h : c.Ok w B) :
    Calls Tryz.prog 92 #[.pointer (some ⟨c.s.g, 0, none⟩), .int .i64 i] w fun e w' => e = .returned (.bool (decide (0 ≤ i ∧ i < (c.rs.length : Int)))) ∧ w = w' := by
  have c0 := h.c2
  generalize c.s.g = g at c0 ⊢
  generalize c.rs.length = n at c0 ⊢
  clear h
  by_cases h1 : 0 ≤ i
  · by_cases h2 : i < (n : Int)
    · have HD := hideP (show decide (0 ≤ i ∧ i < (n : Int)) = true from decide_eq_true ⟨h1, h2⟩)
      go_enter Tryz.func92, Tryz.ntmps92
      go_wp2_with fail
      go_ret
      first | exact ⟨rfl, rfl⟩ | exact ⟨by rw [HD.out]; rfl, rfl⟩
    · have HD := hideP (show decide (0 ≤ i ∧ i < (n : Int)) = false from decide_eq_false fun e => h2 e.2)
      have h3 : decide (i < (n : Int)) = false := decide_eq_false h2
      go_enter Tryz.func92, Tryz.ntmps92
      go_wp2_with fail
      go_ret
      first | exact ⟨rfl, rfl⟩ | exact ⟨by rw [HD.out]; rfl, rfl⟩
  · have HD := hideP (show decide (0 ≤ i ∧ i < (n : Int)) = false from decide_eq_false fun e => h1 e.1)
    have h3 : decide (0 ≤ i) = false := decide_eq_false h1
    go_enter Tryz.func92, Tryz.ntmps92
    go_wp2_with fail
    go_ret
    first | exact ⟨rfl, rfl⟩ | exact ⟨by rw [HD.out]; rfl, rfl⟩
theorem dec_in {i n : Nat} (h : i < n) : decide (0 ≤ (i : Int) ∧ (i : Int) < (n : Int)) = true := decide_eq_true ⟨by omega, by omega⟩
set_option maxRecDepth 100000 in
theorem call_any (c : Cs) (B : Nat) (i : Nat) (r : Rp) (w : World) (h : c.Ok w B) (hi : c.rs[i]? = some r) :
    Calls Tryz.prog 19 #[.pointer (some ⟨c.s.g, 0, none⟩), .int .i64 (i : Int)] w fun e w' => ∃ A cp, e = .returned (.tuple #[.slice A r.l.length cp, .int .i64 0]) ∧ OV w' w.heap.size A cp r.l ∧ Below w.heap.size w w' := by
  have hil := (List.getElem?_eq_some_iff.1 hi).1
  have HH := hideP (chas_any c B (i : Int) w h)
  rw [dec_in hil] at HH
  have c0 := h.c2
  obtain ⟨gr, hAR, _, q0, q1⟩ := h.at_ hi
  rw [hAR] at c0
  have HA := hideP (all_ok B r.g r.m r.l r.q w (h.ro i r hi).pb)
  have g1 : (0 : Int) ≤ (i : Int) := by omega
  have g2 : (i : Int) < (c.rs.length : Int) := by omega
  generalize c.s.g = g at c0 HH ⊢
  generalize c.rs.length = n at c0 g2
  clear h hi hAR hil
  go_enter Tryz.func19, Tryz.ntmps19
  go_wp2_with fail
  refine HH.out.mono ?_
  rintro e w' ⟨rfl, rfl⟩
  go_wp2_with fail
  refine HA.out.mono ?_
  rintro e w1 ⟨A, cp, rfl, ho, hb⟩
  go_wp2_with fail
  go_ret2
  exact ⟨A, cp, rfl, ho, hb⟩
end Go.Proofs.YtefdipjhjgmokaaGreatDoor

set_option linter.unusedVariables false
set_option linter.unusedSimpArgs false
namespace Go.Proofs.YtefdipjhjgmokaaGreatDoor
open Go.RowKit

set_option maxHeartbeats 400000 in
set_option maxRecDepth 100000 in
theorem ppart_ok (B g : Nat) (m : Mp) (l : List Pr) (q : Dv) (k : Nat) (w : World) (h : PB w B g m l q) (hk : k < 4) :
    Calls Tryz.prog 102 #[.pointer (some ⟨g, 0, none⟩), .int .i64 k] w fun e w' => ∃ A c, e = .returned (.tuple #[.slice A (ptL m.cs m.os (k : Int) l).length c, .int .i64 0]) ∧ OV w' w.heap.size A c (ptL m.cs m.os (k : Int) l) ∧ Below w.heap.size w w' := by
  have p0 : w.cell? ⟨g, 2 + k, none⟩ = some (.slice (q.A k) (ptL m.cs m.os (k : Int) l).length (q.c k)) := h.p hk
  have hsm := h.ok.small
  have hp : (ptL m.cs m.os (k : Int) l).length ≤ l.length := List.length_filter_le _ _
  have HC : Hid (Calls Tryz.prog 134 #[.slice (some ⟨w.heap.size, 0, none⟩) 1 1] (w.alloc (.cells #[.slice (q.A k) (ptL m.cs m.os (k : Int) l).length (q.c k)] 36)) fun e w' => ∃ A c, e = .returned (.slice A (ptL m.cs m.os (k : Int) l).length c) ∧ OV w' w.heap.size A c (ptL m.cs m.os (k : Int) l) ∧ Below w.heap.size w w') := hideP (by
    have hb := (Below.refl w.heap.size w).alloc (Nat.le_refl _) (.cells #[.slice (q.A k) (ptL m.cs m.os (k : Int) l).length (q.c k)] 36)
    refine (concat1 w w.heap.size rfl (q.A k) _ (q.c k) _ rfl (h.own k hk).sv.ps (by omega)).mono ?_
    rintro e w1 ⟨v, rfl, hrow, hb1⟩
    obtain ⟨A1, c1, rfl, ho⟩ := OV.of_own hrow
    exact ⟨A1, c1, rfl, ho.mono hb.size, hb.trans (hb1.mono hb.size)⟩)
  have g0 : (0 : Int) ≤ (k : Int) := by omega
  have g1 : (k : Int) < 4 := by omega
  generalize ptL m.cs m.os (k : Int) l = pt at p0 HC
  clear h hsm hp
  go_enter Tryz.func102, Tryz.ntmps102
  go_wp2_with fail
  refine HC.out.mono ?_
  rintro e w1 ⟨A1, c1, rfl, ho, hb⟩
  go_wp2_with fail
  go_ret2
  exact ⟨A1, c1, rfl, ho, hb⟩
set_option maxHeartbeats 400000 in
set_option maxRecDepth 100000 in
theorem ppart_bad (g : Nat) (i : Int) (w : World) (hk : i < 0 ∨ 4 ≤ i) :
    Calls Tryz.prog 102 #[.pointer (some ⟨g, 0, none⟩), .int .i64 i] w fun e w' => e = .returned (.tuple #[.slice none 0 0, .int .i64 1]) ∧ w = w' := by
  by_cases h : i < 0
  · go_enter Tryz.func102, Tryz.ntmps102
    go_wp2_with fail
    go_ret2
    exact ⟨rfl, rfl⟩
  · have h4 : 4 ≤ i := by omega
    go_enter Tryz.func102, Tryz.ntmps102
    go_wp2_with fail
    go_ret2
    exact ⟨rfl, rfl⟩
end Go.Proofs.YtefdipjhjgmokaaGreatDoor

set_option linter.unusedVariables false
set_option linter.unusedSimpArgs false
namespace Go.Proofs.YtefdipjhjgmokaaGreatDoor
open Go.RowKit

set_option maxRecDepth 100000 in
theorem cpart_any (c : Cs) (B : Nat) (i k : Nat) (r : Rp) (w : World) (h : c.Ok w B) (hi : c.rs[i]? = some r) (hk : k < 4) :
    Calls Tryz.prog 41 #[.pointer (some ⟨c.s.g, 0, none⟩), .int .i64 (i : Int), .int .i64 (k : Int)] w fun e w' => ∃ A cp, e = .returned (.tuple #[.slice A (ptL r.m.cs r.m.os (k : Int) r.l).length cp, .int .i64 0]) ∧ OV w' w.heap.size A cp (ptL r.m.cs r.m.os (k : Int) r.l) ∧ Below w.heap.size w w' := by
  have hil := (List.getElem?_eq_some_iff.1 hi).1
  have HH := hideP (chas_any c B (i : Int) w h)
  rw [dec_in hil] at HH
  have c0 := h.c2
  obtain ⟨gr, hAR, _, q0, q1⟩ := h.at_ hi
  rw [hAR] at c0
  have HA := hideP (ppart_ok B r.g r.m r.l r.q k w (h.ro i r hi).pb hk)
  have g1 : (0 : Int) ≤ (i : Int) := by omega
  have g2 : (i : Int) < (c.rs.length : Int) := by omega
  generalize c.s.g = g at c0 HH ⊢
  generalize c.rs.length = n at c0 g2
  generalize ptL r.m.cs r.m.os (k : Int) r.l = pt at HA ⊢
  clear h hi hAR hil
  go_enter Tryz.func41, Tryz.ntmps41
  go_wp2_with fail
  refine HH.out.mono ?_
  rintro e w' ⟨rfl, rfl⟩
  go_wp2_with fail
  refine HA.out.mono ?_
  rintro e w1 ⟨A, cp, rfl, ho, hb⟩
  go_wp2_with fail
  go_ret2
  exact ⟨A, cp, rfl, ho, hb⟩
end Go.Proofs.YtefdipjhjgmokaaGreatDoor

set_option linter.unusedVariables false
set_option linter.unusedSimpArgs false
namespace Go.Proofs.YtefdipjhjgmokaaGreatDoor
open Go.RowKit

set_option maxHeartbeats 400000 in
set_option maxRecDepth 100000 in
theorem bgrow_any (n : Nat) (w : World) (hn : n ≤ 140737488355328) :
    Calls Tryz.prog 151 #[.slice none 0 0, .int .i64 n] w fun e w' => ∃ v, e = .returned v ∧ w'.ownsRow w.heap.size 4 1 v 0 [] ∧ Below w.heap.size w w' := by
  have h1 : ¬ ((n : Int) < 0) := by omega
  rcases Nat.eq_zero_or_pos n with h0 | h0
  · subst h0
    go_enter Tryz.func151, Tryz.ntmps151
    go_wp2
    go_ret
    exact ⟨_, rfl, World.ownsRow_nil w _ _ _, Below.refl _ _⟩
  · obtain ⟨i0, hi, hz0, hz1, hz2⟩ := info_parts boolInfo
    have hrz : ∀ ty, (Builtin.append_ #[90, 3] ty #[.slice none 0 0, .int .i64 n]).run Tryz.prog w = _ := fun ty =>
      Lib.run_append_grow_zeros w 90 3 ty 4 i0 _ .i64 .i64 Tryz.underlying90 Tryz.underlying3 hi hz0 none 0 0 [] (run_firstCells_none w.drew i0.size 0 0 0) n h0 (by omega) (by omega) (by omega) (by rw [hz2]; omega)
        (growslice_fits (by omega) (by rw [hz2]; omega))
    have hGn : 0 + n ≤ grownCap w (0 + n) 0 4 := grownCap_ge w _ _ _
    have hGm := grownCap_le_maxLen w (0 + n) 0 4 (by unfold maxLen; omega)
    generalize grownCap w (0 + n) 0 4 = G at hrz hGn hGm
    obtain ⟨cur, hcur, hcs⟩ : ∃ cur : Array Value, ((([] : List Value).toArray ++ Builtin.zeroCells (Value.bool false).cells n ++ Builtin.zeroCells (Value.bool false).cells (G - (0 + n)))) = cur ∧ cur.size = G * 1 := by
      refine ⟨_, rfl, ?_⟩
      simp only [Array.size_append, size_zeroCells]
      simp [Value.cells]
      omega
    rw [hcur] at hrz
    have hrz' := fun ty => hideP (hrz ty)
    clear hrz hcur
    have hb : Below w.heap.size w (w.drew.alloc (.cells cur 4)) := (Below.refl _ w).drew.alloc (Nat.le_refl _) _
    have hG : G ≤ 9223372036854775807 := by unfold maxLen at hGm; omega
    go_enter Tryz.func151, Tryz.ntmps151
    go_wp2_with (at_builtin; refine Lib.wpList_append_run _ rfl _ _ _ _ rfl _ _ rfl rfl _ _ (hrz' _).out ?_)
    go_ret
    exact ⟨_, rfl, ⟨rfl, .inr ⟨w.heap.size, G, cur, rfl, Nat.le_refl _, heap_alloc_new w.drew _, Nat.zero_le _, hGm, hcs, rfl⟩⟩, hb⟩
/-- append of what another slice holds onto a row of the call's own -/
theorem app_src {P : Program} {st t : TypeId} {z : Value} {bytes : Nat} (hS : P.underlying st = some (.slice t)) (hI : (P.info? t).map (fun i => (i.zero, i.size, i.bytes)) = some (some z, 1, bytes)) (hz : z.cells.size = 1)
    (w : World) (base : Nat) (ty : TypeId) (A : Option Addr) (c : Nat) (xs : List Value) (hown : OR w base t A c xs) (A2 : Option Addr) (c2 : Nat) (news : List Value) (h2 : VS w A2 news) (h1 : ∀ u ∈ news, u.oneCell' = true)
    (h63 : (xs.length + news.length) * bytes ≤ 140737488355328) (hby : 1 ≤ bytes) (hbase : base ≤ w.heap.size) :
    ∃ A' c' w', (Builtin.append_ #[st, st] ty #[.slice A xs.length c, .slice A2 news.length c2]).run P w = .ok (.slice A' (xs ++ news).length c') w' ∧ OR w' base t A' c' (xs ++ news) ∧ w.grownBy w' (Value.slice A xs.length c).ownBlock := by
  obtain ⟨i0, hi, hz0, hz1, hz2⟩ := info_parts hI
  have hle : xs.length + news.length ≤ 140737488355328 := Nat.le_trans (Nat.le_mul_of_pos_right _ hby) h63
  have hm : xs.length + news.length ≤ maxLen := by unfold maxLen; omega
  cases A2 with
  | none =>
    have h0 : news = [] := by
      cases news with
      | nil => rfl
      | cons q r => obtain ⟨_, _, e, _⟩ := h2 0 q rfl; cases e
    subst h0
    refine ⟨A, c, w, ?_, by simpa using hown, ⟨rfl, rfl, rfl, Nat.le_refl _, fun _ _ _ => rfl⟩⟩
    rcases hown.2 with ⟨hv, h0⟩ | ⟨g, cap, cur, hv, _, _, hnc, _⟩
    · injection hv with a b d
      subst a; subst d
      simp [Builtin.append_, run_underlying hS, sizeOf, typeInfo, hi, Builtin.lenOf, Builtin.firstCells, h0]
    · injection hv with a b d
      subst a; subst d
      simp [Builtin.append_, run_underlying hS, sizeOf, typeInfo, hi, Builtin.lenOf, Builtin.firstCells, hnc, storeCells]
  | some ad =>
    have hc : ∀ j u, news[j]? = some u → w.cell? (ad.add j) = some u := by
      intro j u hu
      obtain ⟨b, o, e, _, hcc⟩ := h2 j u hu
      injection e with e
      subst e
      rw [Addr.add_lit]
      exact hcc
    obtain ⟨v', w', hrun, h3, h4, _, _⟩ := run_append_own_at (P := P) w base st ty t i0 _ 1 bytes hS hi hz0 hz1 hz2 hz (by decide) _ xs.length xs hown ad news.length c2 news (by simp) hc h1 hm h63 hbase
    rw [← List.length_append] at h3
    obtain ⟨A', c', rfl, ho⟩ := OR.of_own h3
    exact ⟨A', c', w', hrun, ho, h4⟩
end Go.Proofs.YtefdipjhjgmokaaGreatDoor

set_option linter.unusedVariables false
set_option linter.unusedSimpArgs false
namespace Go.Proofs.YtefdipjhjgmokaaGreatDoor
open Go.RowKit

/-- a slice of bools: where, its capacity, what it reads as -/
structure Bl where
  A : Option Addr
  c : Nat
  l : List Bool
def catB (ss : List Bl) : List Bool := ss.flatMap (·.l)
theorem catB_take (ss : List Bl) (k : Nat) (h : k < ss.length) : catB (ss.take (k + 1)) = catB (ss.take k) ++ (ss[k]).l := by
  unfold catB; rw [List.take_succ_eq_append_getElem h, List.flatMap_append]; simp
theorem catB_le (ss : List Bl) (k : Nat) : (catB (ss.take k)).length ≤ (catB ss).length := by
  have : catB ss = catB (ss.take k) ++ catB (ss.drop k) := by unfold catB; rw [← List.flatMap_append, List.take_append_drop]
  rw [this, List.length_append]; omega
structure Bls (w : World) (g o : Nat) (ss : List Bl) : Prop where
  lt : g < w.heap.size
  cell : ∀ j s, ss[j]? = some s → w.cell? ⟨g, o + j, none⟩ = some (.slice s.A s.l.length s.c)
  vs : ∀ s ∈ ss, VS w s.A (s.l.map Value.bool)
def BInv (w : World) (ss : List Bl) (v i : Value) (wr : World) : Prop :=
  ∃ (k : Nat) (A : Option Addr) (c : Nat), k ≤ ss.length ∧ i = .int .i64 k ∧ v = .slice A (catB (ss.take k)).length c ∧ OR wr w.heap.size 4 A c ((catB (ss.take k)).map Value.bool) ∧ Below w.heap.size w wr

set_option maxHeartbeats 400000 in
set_option maxRecDepth 100000 in
theorem bconcat_any (g o c : Nat) (ss : List Bl) (w : World) (hS : Bls w g o ss) (hn : (catB ss).length ≤ 1000000) (hs : ss.length ≤ 1000) :
    Calls Tryz.prog 103 #[.slice (some ⟨g, o, none⟩) ss.length c] w fun e w' => ∃ A c, e = .returned (.slice A (catB ss).length c) ∧ OR w' w.heap.size 4 A c ((catB ss).map Value.bool) ∧ Below w.heap.size w w' := by
  go_enter Tryz.func103, Tryz.ntmps103
  go_wp2_with fail
  go_loop [3, 11] (fun z i => ∃ k : Nat, k ≤ ss.length ∧ i = .int .i64 k ∧ z = .int .i64 ((catB (ss.take k)).length : Nat)) (fun _ i => ss.length - (intOf i).toNat)
  case atStart => exact ⟨0, Nat.zero_le _, rfl, rfl⟩
  case round =>
    obtain ⟨k, hk, rfl, rfl⟩ := hrel
    by_cases hlt : k < ss.length
    · have c1 := hS.cell k _ (List.getElem?_eq_getElem hlt)
      have h1 := catB_le ss (k + 1)
      have h2 := hideP (show (catB (ss.take (k + 1))).length = (catB (ss.take k)).length + (ss[k]).l.length by rw [catB_take ss k hlt, List.length_append])
      rw [catB_take ss k hlt, List.length_append] at h1
      generalize ss[k] = s at c1 h1 h2
      generalize (catB (ss.take k)).length = z at h1 h2 ⊢
      go_wp2_with fail
      go_round
      case rel => exact ⟨k + 1, by omega, by go_num, by rw [h2.out]; go_num⟩
      case measure => simp [intOf]; omega
    · have hz : (catB (ss.take k)).length = (catB ss).length := by rw [List.take_of_length_le (by omega)]
      rw [hz]
      clear hz
      go_wp2_with fail
      refine (bgrow_any _ _ (by omega)).mono ?_
      rintro e w0 ⟨v0, rfl, hown0, hb0⟩
      obtain ⟨A0, c0, rfl, hO0⟩ := OR.of_own hown0
      go_wp2_with fail
      go_loopw [6, 27] (BInv w ss) (fun _ i _ => ss.length - (intOf i).toNat)
      case atStart => exact ⟨0, A0, c0, Nat.zero_le _, rfl, rfl, hO0, hb0⟩
      case round =>
        obtain ⟨k, Ak, ck, hk, rfl, rfl, hown, hb⟩ := hrel
        by_cases hlt : k < ss.length
        · have c1 := (hb.cell (p := ⟨g, o + k, none⟩) hS.lt).trans (hS.cell k _ (List.getElem?_eq_getElem hlt))
          have hvs := (hS.vs _ (List.getElem_mem hlt)).below hb
          have hle := catB_le ss (k + 1)
          rw [catB_take ss k hlt, List.length_append] at hle
          obtain ⟨A', c', w1, hrun, hown', hg'⟩ := app_src (P := Tryz.prog) Tryz.underlying90 boolInfo rfl wr w.heap.size 90 Ak ck _ hown (ss[k]).A (ss[k]).c _ hvs (by intro u hu; obtain ⟨x, _, rfl⟩ := List.mem_map.1 hu; rfl) (by simp; omega) (by decide) hb.size
          have hb1 : Below w.heap.size w w1 := hb.grown hg' hb.size (fun j hj => (World.ownsRow.lt hown j hj).1)
          rw [← List.map_append, ← catB_take ss k hlt] at hrun hown'
          simp only [List.length_map] at hrun
          have HR := hideP hrun
          clear hrun hown hvs hS hg'
          generalize ss[k] = s at c1 HR hle
          go_wp2_with (at_builtin; refine Lib.wpList_append_run _ rfl _ _ _ _ rfl _ _ rfl rfl _ _ HR.out ?_)
          go_roundw
          case rel => exact ⟨k + 1, A', c', by omega, by go_num, rfl, hown', hb1⟩
          case measure => simp [intOf]; omega
        · rw [List.take_of_length_le (by omega)] at hown ⊢
          go_wp2_with fail
          go_ret
          exact ⟨Ak, ck, rfl, hown, hb⟩
theorem bconcat2 (w : World) (g : Nat) (hg : g = w.heap.size) (A1 A2 : Option Addr) (n1 n2 c1 c2 : Nat) (l1 l2 : List Bool) (e1 : n1 = l1.length) (e2 : n2 = l2.length)
    (p1 : VS w A1 (l1.map Value.bool)) (p2 : VS w A2 (l2.map Value.bool)) (hn : l1.length + l2.length ≤ 1000000) :
    Calls Tryz.prog 103 #[.slice (some ⟨g, 0, none⟩) 2 2] (w.alloc (.cells #[.slice A1 n1 c1, .slice A2 n2 c2] 90)) fun e w' => ∃ A c, e = .returned (.slice A (l1 ++ l2).length c) ∧ OR w' w.heap.size 4 A c ((l1 ++ l2).map Value.bool) ∧ Below w.heap.size w w' := by
  subst hg e1 e2
  have hb := (Below.refl w.heap.size w).alloc (Nat.le_refl _) (.cells #[.slice A1 l1.length c1, .slice A2 l2.length c2] 90)
  have h := bconcat_any w.heap.size 0 2 [⟨A1, c1, l1⟩, ⟨A2, c2, l2⟩] (w.alloc (.cells #[.slice A1 l1.length c1, .slice A2 l2.length c2] 90))
    ⟨by simp, fun j s hj => by
      match j with
      | 0 => simp at hj; subst hj; simp
      | 1 => simp at hj; subst hj; simp
      | j + 2 => simp at hj, fun s hs => by
      simp at hs
      rcases hs with rfl | rfl
      · exact p1.below hb
      · exact p2.below hb⟩ (by simp [catB]; omega) (by simp)
  have e : catB [⟨A1, c1, l1⟩, ⟨A2, c2, l2⟩] = l1 ++ l2 := by simp [catB]
  rw [e] at h
  exact h.mono fun e w' ⟨A, c, h1, h2, h3⟩ => ⟨A, c, h1, h2.mono hb.size, hb.trans (h3.mono hb.size)⟩
end Go.Proofs.YtefdipjhjgmokaaGreatDoor

set_option linter.unusedVariables false
set_option linter.unusedSimpArgs false
namespace Go.Proofs.YtefdipjhjgmokaaGreatDoor
open Go.RowKit

/-- while a function runs that makes a map of a map -/
structure RH (w : World) (g : Nat) (m : Mp) (wr : World) : Prop where
  mh : MH w g m wr
  ms0 : MS w m
  res : Box wr (g + 1) 34 #[.slice none 0 0, .slice none 0 0]
  low : w.heap.size ≤ g
theorem RH.below {w wr w' : World} {g : Nat} {m : Mp} (h : RH w g m wr) (hb : Below wr.heap.size wr w') : RH w g m w' := ⟨h.mh.below hb, h.ms0, h.res.below hb, h.low⟩
theorem RH.alloc {w wr : World} {g : Nat} {m : Mp} {o : Obj} (h : RH w g m wr) : RH w g m (wr.alloc o) := h.below ((Below.refl _ _).alloc (Nat.le_refl _) _)
theorem RH.drew {w wr : World} {g : Nat} {m : Mp} (h : RH w g m wr) : RH w g m wr.drew := h.below (Below.refl _ _).drew
theorem RH.new {w : World} {m : Mp} (hm : MS w m) : RH w w.heap.size m ((w.alloc (.cells #[.slice m.A m.cs.length m.ca, .slice m.O m.os.length m.co] 34)).alloc (.cells #[.slice none 0 0, .slice none 0 0] 34)) := by
  have x1 := Box.new (w.alloc (.cells #[.slice m.A m.cs.length m.ca, .slice m.O m.os.length m.co] 34)) 34 #[.slice none 0 0, .slice none 0 0]
  simp only [World.size_alloc] at x1
  exact ⟨(MH.new hm).below ((Below.refl _ _).alloc (Nat.le_refl _) _), hm, x1, Nat.le_refl _⟩
/-- another block is written -/
theorem RH.other {w wr : World} {g : Nat} {m : Mp} (h : RH w g m wr) {b i : Nat} {v : Value} (hb : g + 1 < b) : RH w g m (wr.setCell ⟨b, i, none⟩ v) := by
  have hl := h.low
  have hbe : Below w.heap.size w (wr.setCell ⟨b, i, none⟩ v) := below_set h.mh.be (by omega)
  exact ⟨⟨h.mh.x0.other (by show b ≠ g; omega) _, h.ms0.below hbe, hbe⟩, h.ms0, h.res.other (by show b ≠ g + 1; omega) _, h.low⟩
/-- the end where an error is handed back -/
structure RE (w : World) (g : Nat) (wr : World) : Prop where
  f0 : wr.frozen? ⟨g + 1, 0, none⟩ = false
  f1 : (wr.setCell ⟨g + 1, 0, none⟩ (.slice none 0 0)).frozen? ⟨g + 1, 1, none⟩ = false
  d0 : wr.cell? ⟨g + 1, 0, none⟩ = some (.slice none 0 0)
  d1 : (wr.setCell ⟨g + 1, 0, none⟩ (.slice none 0 0)).cell? ⟨g + 1, 1, none⟩ = some (.slice none 0 0)
  q0 : ((wr.setCell ⟨g + 1, 0, none⟩ (.slice none 0 0)).setCell ⟨g + 1, 1, none⟩ (.slice none 0 0)).cell? ⟨g + 1, 0, none⟩ = some (.slice none 0 0)
  q1 : ((wr.setCell ⟨g + 1, 0, none⟩ (.slice none 0 0)).setCell ⟨g + 1, 1, none⟩ (.slice none 0 0)).cell? ⟨g + 1, 1, none⟩ = some (.slice none 0 0)
  fin : MO ((wr.setCell ⟨g + 1, 0, none⟩ (.slice none 0 0)).setCell ⟨g + 1, 1, none⟩ (.slice none 0 0)) w.heap.size noM ∧ Below w.heap.size w ((wr.setCell ⟨g + 1, 0, none⟩ (.slice none 0 0)).setCell ⟨g + 1, 1, none⟩ (.slice none 0 0))
theorem RH.re {w wr : World} {g : Nat} {m : Mp} (h : RH w g m wr) : RE w g wr :=
  have r := (h.res.set 0 (.slice none 0 0)).set 1 (.slice none 0 0)
  ⟨h.res.frozen 0, (h.res.set 0 (.slice none 0 0)).frozen 1, h.res.cell 0 rfl, (h.res.set 0 (.slice none 0 0)).cell 1 rfl, r.cell 0 rfl, r.cell 1 rfl, res_set (n := noM) h.res (by have := h.low; omega) (noM_mo _ _) h.mh.be _ _⟩
/-- the end where a map is handed back -/
structure RF (w : World) (g : Nat) (n : Mp) (wr : World) : Prop where
  f0 : wr.frozen? ⟨g + 1, 0, none⟩ = false
  f1 : (wr.setCell ⟨g + 1, 0, none⟩ (.slice n.A n.cs.length n.ca)).frozen? ⟨g + 1, 1, none⟩ = false
  d0 : wr.cell? ⟨g + 1, 0, none⟩ = some (.slice none 0 0)
  d1 : (wr.setCell ⟨g + 1, 0, none⟩ (.slice n.A n.cs.length n.ca)).cell? ⟨g + 1, 1, none⟩ = some (.slice none 0 0)
  q0 : ((wr.setCell ⟨g + 1, 0, none⟩ (.slice n.A n.cs.length n.ca)).setCell ⟨g + 1, 1, none⟩ (.slice n.O n.os.length n.co)).cell? ⟨g + 1, 0, none⟩ = some (.slice n.A n.cs.length n.ca)
  q1 : ((wr.setCell ⟨g + 1, 0, none⟩ (.slice n.A n.cs.length n.ca)).setCell ⟨g + 1, 1, none⟩ (.slice n.O n.os.length n.co)).cell? ⟨g + 1, 1, none⟩ = some (.slice n.O n.os.length n.co)
  fin : MO ((wr.setCell ⟨g + 1, 0, none⟩ (.slice n.A n.cs.length n.ca)).setCell ⟨g + 1, 1, none⟩ (.slice n.O n.os.length n.co)) w.heap.size n ∧ Below w.heap.size w ((wr.setCell ⟨g + 1, 0, none⟩ (.slice n.A n.cs.length n.ca)).setCell ⟨g + 1, 1, none⟩ (.slice n.O n.os.length n.co))
theorem RH.rf {w wr : World} {g : Nat} {m n : Mp} (h : RH w g m wr) (hn : MO wr w.heap.size n) : RF w g n wr :=
  have r := (h.res.set 0 (.slice n.A n.cs.length n.ca)).set 1 (.slice n.O n.os.length n.co)
  ⟨h.res.frozen 0, (h.res.set 0 (.slice n.A n.cs.length n.ca)).frozen 1, h.res.cell 0 rfl, (h.res.set 0 (.slice n.A n.cs.length n.ca)).cell 1 rfl, r.cell 0 rfl, r.cell 1 rfl, res_set h.res (by have := h.low; omega) hn h.mh.be _ _⟩
end Go.Proofs.YtefdipjhjgmokaaGreatDoor
