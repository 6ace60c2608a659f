/-
  (*parts.Parts).All.
  (*copies.Copies).hasReplica, All.
  (*merge.Merge).Close.
  A box of four cells that is written (no program in it).
  An entry's box is written (no body of the program in it).
-/
import Derived.Test.YtefdipjhjgmokaaGreatBv16
import Derived.Test.YtefdipjhjgmokaaGreatBv17
import Derived.Test.YtefdipjhjgmokaaGreatBv13
import Derived.Test.YtefdipjhjgmokaaGreatBv8
import Derived.Deep.RegionLaw
import Derived.Test.YtefdipjhjgmokaaGreatBv2
import Derived.Test.YtefdipjhjgmokaaGreatBv3
set_option linter.unusedVariables false
set_option linter.unusedSimpArgs false
namespace Go.Proofs.YtefdipjhjgmokaaGreat
open Go.RowKit

/-- the parts of the owners so far, joined -/
theorem all_join {cs : List ByteArray} {os : List Int} {l y : List Pr} {n : Int} (h : Ok l) (hj : Joined (upL cs os n l) (ptL cs os n l) y) : y = upL cs os (n + 1) l :=
  hj.ok.one_ (upL_ok h _) fun p => by rw [hj.mem, up_mem]
def AlI (w : World) (m : Mp) (l : List Pr) (v i : Value) (wr : World) : Prop :=
  ∃ (k : Nat) (A : Option Addr) (c : Nat), k ≤ 4 ∧ i = .int .i64 k ∧ v = .slice A (upL m.cs m.os (k : Int) l).length c ∧ OV wr w.heap.size A c (upL m.cs m.os (k : Int) l) ∧ Below w.heap.size w wr

set_option maxHeartbeats 1000000 in
set_option maxRecDepth 100000 in
theorem all_ok (B g : Nat) (m : Mp) (l : List Pr) (q : Dv) (w : World) (h : PB w B g m l q) :
    Calls Tryz.prog 24 #[.pointer (some ⟨g, 0, none⟩)] w fun e w' => ∃ A c, e = .returned (.slice A l.length c) ∧ OV w' w.heap.size A c l ∧ Below w.heap.size w w' := by
  have p0 : w.cell? ⟨g, 2, none⟩ = some (q.s m.cs m.os l 0) := h.box.cell 2 rfl
  have p1 : w.cell? ⟨g, 3, none⟩ = some (q.s m.cs m.os l 1) := h.box.cell 3 rfl
  have p2 : w.cell? ⟨g, 4, none⟩ = some (q.s m.cs m.os l 2) := h.box.cell 4 rfl
  have p3 : w.cell? ⟨g, 5, none⟩ = some (q.s m.cs m.os l 3) := h.box.cell 5 rfl
  have hsm := h.ok.small
  go_enter Tryz.func24, Tryz.ntmps24
  go_wp2_with fail
  go_loopw [3, 10] (AlI w m l) (fun _ i _ => 4 - (intOf i).toNat)
  case atStart => exact ⟨0, none, 0, by omega, rfl, by rw [show ((0 : Nat) : Int) = 0 from rfl, upL_zero h.okm]; rfl, by rw [show ((0 : Nat) : Int) = 0 from rfl, upL_zero h.okm]; exact World.ownsRow_nil _ _ _ _, Below.refl _ _⟩
  case round =>
    obtain ⟨k, A, c, hk, rfl, rfl, hov, hb⟩ := hrel
    by_cases hk4 : k < 4
    · have HJ : Hid (Calls Tryz.prog 51 #[.slice A (upL m.cs m.os (k : Int) l).length c, q.s m.cs m.os l k] wr fun e w' => ∃ A' c', e = .returned (.tuple #[.slice A' (upL m.cs m.os ((k + 1 : Nat) : Int) l).length c', .int .i64 0]) ∧ OV w' w.heap.size A' c' (upL m.cs m.os ((k + 1 : Nat) : Int) l) ∧ Below w.heap.size w w') := hideP (by
        have hu : (upL m.cs m.os (k : Int) l).length ≤ l.length := List.length_filter_le _ _
        have hp : (ptL m.cs m.os (k : Int) l).length ≤ l.length := List.length_filter_le _ _
        refine (join_own A (q.A k) c (q.c k) _ _ wr hov.sv ((h.own k hk4).below hb |>.sv) (upL_ok h.ok _) (ptL_ok h.ok _) (by omega)).mono ?_
        rintro e w1 ⟨hor, hb1⟩
        rcases hor with ⟨hna, _⟩ | ⟨A1, c1, y, rfl, hy, hj⟩
        · exact absurd (show Apart _ _ from up_apart (k : Int)) hna
        · have e := all_join h.ok hj
          rw [show ((k + 1 : Nat) : Int) = (k : Int) + 1 by omega, ← e]
          exact ⟨A1, c1, rfl, hy.mono hb.size, hb.trans (hb1.mono hb.size)⟩)
      have HI := hideP (fun (A' : Option Addr) (c' : Nat) (w' : World) (h1 : OV w' w.heap.size A' c' (upL m.cs m.os ((k + 1 : Nat) : Int) l)) (h2 : Below w.heap.size w w') (i : Value) (hi : i = .int .i64 ((k + 1 : Nat) : Int)) => show AlI w m l (.slice A' (upL m.cs m.os ((k + 1 : Nat) : Int) l).length c') i w' from ⟨k + 1, A', c', by omega, hi, rfl, h1, h2⟩)
      generalize upL m.cs m.os (k : Int) l = up at HJ ⊢
      generalize upL m.cs m.os ((k + 1 : Nat) : Int) l = nx at HJ HI
      have ix := fun w => idx4 q m.cs m.os l hk4 w
      have g1 : (k : Int) < 4 := by omega
      obtain ⟨ak, nk, ck, ek⟩ : ∃ a n c, q.s m.cs m.os l k = .slice a n c := ⟨_, _, _, rfl⟩
      rw [ek] at ix HJ
      clear h hov hb p0 p1 p2 p3 ek
      go_wp2_with fail
      refine HJ.out.mono ?_
      rintro e w1 ⟨A1, c1, rfl, ho1, hb1⟩
      go_wp2_with fail
      go_roundw
      case rel => exact HI.out _ _ _ ho1 hb1 _ (by go_num)
      case measure => simp [intOf]; omega
    · have hk5 : k = 4 := by omega
      have e4 : upL m.cs m.os (k : Int) l = l := by rw [hk5]; exact upL_all h.okm
      rw [e4] at hov ⊢
      clear e4 hk5
      have g4 : ¬ (k : Int) < 4 := by omega
      go_wp2_with fail
      go_ret
      exact ⟨A, c, rfl, hov, hb⟩
end Go.Proofs.YtefdipjhjgmokaaGreat

set_option linter.unusedVariables false
set_option linter.unusedSimpArgs false
namespace Go.Proofs.YtefdipjhjgmokaaGreat
open Go.RowKit

set_option maxRecDepth 100000 in
theorem chas_any (c : Cs) (B : Nat) (i : Int) (w : World) (h : c.Ok w B) :
    Calls Tryz.prog 22 #[.pointer (some ⟨c.s.g, 0, none⟩), .int .i64 i] w fun e w' => e = .returned (.bool (decide (0 ≤ i ∧ i < (c.rs.length : Int)))) ∧ w = w' := by
  have c0 := h.c2
  generalize c.s.g = g at c0 ⊢
  generalize c.rs.length = n at c0 ⊢
  clear h
  by_cases h1 : 0 ≤ i
  · by_cases h2 : i < (n : Int)
    · have HD := hideP (show decide (0 ≤ i ∧ i < (n : Int)) = true from decide_eq_true ⟨h1, h2⟩)
      go_enter Tryz.func22, Tryz.ntmps22
      go_wp2_with fail
      go_ret
      first | exact ⟨rfl, rfl⟩ | exact ⟨by rw [HD.out]; rfl, rfl⟩
    · have HD := hideP (show decide (0 ≤ i ∧ i < (n : Int)) = false from decide_eq_false fun e => h2 e.2)
      have h3 : decide (i < (n : Int)) = false := decide_eq_false h2
      go_enter Tryz.func22, Tryz.ntmps22
      go_wp2_with fail
      go_ret
      first | exact ⟨rfl, rfl⟩ | exact ⟨by rw [HD.out]; rfl, rfl⟩
  · have HD := hideP (show decide (0 ≤ i ∧ i < (n : Int)) = false from decide_eq_false fun e => h1 e.1)
    have h3 : decide (0 ≤ i) = false := decide_eq_false h1
    go_enter Tryz.func22, Tryz.ntmps22
    go_wp2_with fail
    go_ret
    first | exact ⟨rfl, rfl⟩ | exact ⟨by rw [HD.out]; rfl, rfl⟩
theorem dec_in {i n : Nat} (h : i < n) : decide (0 ≤ (i : Int) ∧ (i : Int) < (n : Int)) = true := decide_eq_true ⟨by omega, by omega⟩
set_option maxRecDepth 100000 in
theorem call_any (c : Cs) (B : Nat) (i : Nat) (r : Rp) (w : World) (h : c.Ok w B) (hi : c.rs[i]? = some r) :
    Calls Tryz.prog 7 #[.pointer (some ⟨c.s.g, 0, none⟩), .int .i64 (i : Int)] w fun e w' => ∃ A cp, e = .returned (.tuple #[.slice A r.l.length cp, .int .i64 0]) ∧ OV w' w.heap.size A cp r.l ∧ Below w.heap.size w w' := by
  have hil := (List.getElem?_eq_some_iff.1 hi).1
  have HH := hideP (chas_any c B (i : Int) w h)
  rw [dec_in hil] at HH
  have c0 := h.c2
  obtain ⟨gr, hAR, _, q0, q1⟩ := h.at_ hi
  rw [hAR] at c0
  have HA := hideP (all_ok B r.g r.m r.l r.q w (h.ro i r hi).pb)
  have g1 : (0 : Int) ≤ (i : Int) := by omega
  have g2 : (i : Int) < (c.rs.length : Int) := by omega
  generalize c.s.g = g at c0 HH ⊢
  generalize c.rs.length = n at c0 g2
  clear h hi hAR hil
  go_enter Tryz.func7, Tryz.ntmps7
  go_wp2_with fail
  refine HH.out.mono ?_
  rintro e w' ⟨rfl, rfl⟩
  go_wp2_with fail
  refine HA.out.mono ?_
  rintro e w1 ⟨A, cp, rfl, ho, hb⟩
  go_wp2_with fail
  go_ret2
  exact ⟨A, cp, rfl, ho, hb⟩
end Go.Proofs.YtefdipjhjgmokaaGreat

set_option linter.unusedVariables false
set_option linter.unusedSimpArgs false
namespace Go.Proofs.YtefdipjhjgmokaaGreat
open Go.RowKit

theorem step_append_runM {P : Program} (w : World) {ops : Array Oper} {o : Oper} {a : Act} {K : Act → World → Prop} {Q : Exit → Act → World → Prop} {E : Prop} (hgd : o.guard = none) (s x : Operand) (t tn : TypeId)
    (ho : o.op = .call { callee := .builtin .append, args := #[s, x], argTypes := #[t, tn] }) (vs vx : Value) (hs : a.eval s = vs) (hx : a.eval x = vx)
    (v' : Value) (w' : World) (hr : (Builtin.append_ #[t, tn] o.type #[vs, vx]).run P w = .ok v' w') (h : K (a.put o.dst v') w') :
    if Region.wanted o (yielded ops a.tmps) = true then Oper.wp P o a w K Q else E := by
  have hw : Region.wanted o (yielded ops a.tmps) = true := by simp [Region.wanted, hgd]
  rw [if_pos hw]
  exact Lib.wp_append_run w s x t tn ho vs vx hs hx v' w' hr h
theorem Gm.close {ins : List In} {added i : Nat} {x : In} (h : Gm ins added) (hi : ins[i]? = some x) (hl : x.bs.length ≤ 60) (A : Option Addr) (c : Nat) : Gm (ins.set i ⟨A, c, x.bs ++ [bt0]⟩) added :=
  ⟨fun e => h.ne (by have := congrArg List.length e; simp at this; exact this), by simpa using h.few, fun j z hz => by
    rw [List.getElem?_set] at hz
    by_cases e : i = j
    · subst e
      rw [if_pos rfl, if_pos (List.getElem?_eq_some_iff.1 hi).1] at hz
      injection hz with hz
      subst hz
      simp; omega
    · rw [if_neg e] at hz; exact h.bs j z hz, by rw [ct_close hi, tot_close (b := ctI x) (by simp [ctM, hi])]; exact h.cnt, h.most⟩
set_option maxHeartbeats 2000000 in
set_option maxRecDepth 100000 in
theorem mclose_any (s : Ms) (B : Nat) (i : Int) (w : World) (h : s.Ok w B) :
    Calls Tryz.prog 19 #[.pointer (some ⟨s.g, 0, none⟩), .int .i64 i] w fun e w' => ∃ s', e = .returned (.tuple #[.int .i64 (closeN s.ct i), .int .i64 (closeQ s.ct i)]) ∧ s.To w B s' w' (closeC s.ct i) := by
  have HH := hideP (has_any B s.g s.x s.AI s.cI s.ins s.added i w h.mg)
  have hlen : s.ct.length = s.ins.length := by simp [Ms.ct, ctM]
  by_cases hin : 0 ≤ i ∧ i < (s.ins.length : Int)
  · rw [decide_eq_true hin] at HH
    obtain ⟨n, rfl⟩ : ∃ n : Nat, i = n := ⟨i.toNat, by omega⟩
    have hn : n < s.ins.length := by omega
    obtain ⟨x, hx⟩ : ∃ x, s.ins[n]? = some x := ⟨_, List.getElem?_eq_getElem hn⟩
    obtain ⟨k, hk⟩ := h.mg.pos hx
    have hxb := h.gm.bs n x hx
    have hcx : s.ct[n]? = some (ctI x) := by simp [Ms.ct, ctM, hx]
    have hcl : (ctI x).length = x.bs.length := by simp [ctI]
    have c0 := h.mg.c0
    obtain ⟨gi, hAI, p0⟩ := h.mg.cell_ hx
    have HC := hideP (fun W => closed_any x.A x.bs.length x.c k hk (by omega) W)
    have g1 : (0 : Int) ≤ (n : Int) := by omega
    have g2 : (n : Int) < (s.ins.length : Int) := by omega
    by_cases hfull : 60 ≤ k
    · obtain ⟨q1, q2, q3⟩ := closeQ_full (b := ctI x) hcx (by omega)
      rw [q1, q2, q3]
      have HT := hideP (Ms.To.same h (Below.refl _ _))
      have d1 : (60 : Int) ≤ (k : Int) := by omega
      rw [hAI] at c0
      clear h hin q1 q2 q3 hcx hlen hk hcl
      go_enter Tryz.func19, Tryz.ntmps19
      go_wp2_with fail
      refine HH.out.mono ?_
      rintro e w' ⟨rfl, rfl⟩
      go_wp2_with fail
      refine (HC.out _).mono ?_
      rintro e w' ⟨rfl, rfl⟩
      go_wp2_with fail
      go_ret2
      exact ⟨s, rfl, HT.out⟩
    · obtain ⟨q1, q2, q3⟩ := closeQ_ok (b := ctI x) hcx (by omega)
      rw [q1, q2, q3, hcl]
      have d1 : ¬ (60 : Int) ≤ (k : Int) := by omega
      have bd := (Below.refl w.heap.size w).drew
      obtain ⟨A', c', w2, gi', hrun, hAI', c1, fz, hMG, hFr, hF⟩ := (h.mg.below bd).close hx (h.below bd).size (by omega) 111
      rw [hAI] at hAI'
      injection hAI' with e
      injection e with e
      subst e
      have hG2 := h.gm.close hx (by omega) A' c'
      have hct : ctM (s.ins.set n ⟨A', c', x.bs ++ [bt0]⟩) = closeM s.ct n := ct_close hx A' c'
      have HT := hideP (show s.To w B ⟨s.g, s.x, s.AI, s.cI, s.ins.set n ⟨A', c', x.bs ++ [bt0]⟩, s.added⟩ (w2.setCell ⟨gi, n, none⟩ (.slice A' (x.bs ++ [bt0]).length c')) (closeM s.ct n) from
        ⟨rfl, rfl, ⟨hMG, hG2⟩, hct, (Fr.of_below bd).comp hFr, hF⟩)
      have al := (Below.refl w.heap.size w).alloc (Nat.le_refl _) (.cells #[.slice none 0 0] 109)
      have c0a := (h.mg.below al).c0
      obtain ⟨_, e, p0a⟩ := (h.mg.below al).cell_ hx
      rw [hAI] at e
      injection e with e
      injection e with e
      subst e
      have c03 := hMG.c0
      have hx3 : (s.ins.set n ⟨A', c', x.bs ++ [bt0]⟩)[n]? = some ⟨A', c', x.bs ++ [bt0]⟩ := by rw [List.getElem?_set, if_pos rfl, if_pos hn]
      obtain ⟨_, e, p03⟩ := hMG.cell_ hx3
      rw [hAI] at e
      injection e with e
      injection e with e
      subst e
      have c02 : w2.cell? ⟨s.g, 0, none⟩ = some (.slice s.AI s.ins.length s.cI) := by
        have hne : s.g ≠ gi := fun e => by
          have h2 : gi < w2.heap.size := World.block_lt_of_cell? w2 _ c1
          have t1 := hMG.box.ty
          have t2 := own_ty hMG.row (b := gi) (by rw [hAI]; rfl)
          exact absurd (t1.inj (show Ty _ s.g 111 by rw [e]; exact t2)) s.x.nI
        have := c03
        rw [List.length_set] at this
        rw [← this]
        exact (World.cell?_of_block (Below.heap_setCell w2 _ _ _ (fun e => hne e))).symm
      rw [List.length_set] at c03
      have hl2 : (x.bs ++ [bt0]).length = x.bs.length + 1 := by simp
      have HC2 := hideP (fun W => closed_any A' (x.bs ++ [bt0]).length c' x.bs.length hl2 (by rw [hl2]; omega) W)
      replace hrun : (Builtin.append_ #[111, 111] 111 #[.slice x.A x.bs.length x.c, .slice (some ⟨w.heap.size, 0, none⟩) 1 1]).run Tryz.prog (w.alloc (.cells #[.slice none 0 0] 109)).drew = .ok (.slice A' (x.bs ++ [bt0]).length c') w2 := hrun
      have HR := hideP hrun
      unfold inV at c1
      rw [hAI] at c0 c0a c02 c03
      clear h hin q1 q2 q3 hcx hlen hcl hMG hFr hF hG2 hct bd al hrun hx3 hk hAI hl2
      generalize (x.bs ++ [bt0]).length = m2 at HR HC2 HT c02 c03 p03
      generalize x.bs.length = m1 at HR HC2 c1 p0 p0a HC hxb ⊢
      generalize x.A = xA at HR c1 p0 p0a HC
      generalize x.c = xc at HR c1 p0 p0a HC
      go_enter Tryz.func19, Tryz.ntmps19
      go_wp2_with fail
      refine HH.out.mono ?_
      rintro e w' ⟨rfl, rfl⟩
      go_wp2_with fail
      refine (HC.out _).mono ?_
      rintro e w' ⟨rfl, rfl⟩
      go_wp2_with fail
      go_region_law (refine step_append_runM _ rfl _ _ _ _ rfl _ _ rfl rfl _ _ HR.out ?_)
      all_goals
        go_wp2_with fail
        refine (HC2.out _).mono ?_
        rintro e w' ⟨rfl, rfl⟩
        go_wp2_with fail
        go_ret2
        exact ⟨_, rfl, HT.out⟩
  · rw [decide_eq_false hin] at HH
    obtain ⟨q1, q2, q3⟩ := closeQ_none (ct := s.ct) (i := i) (by rw [hlen]; exact hin)
    rw [q1, q2, q3]
    have HT := hideP (Ms.To.same h (Below.refl _ _))
    clear h hin q1 q2 q3 hlen
    go_enter Tryz.func19, Tryz.ntmps19
    go_wp2_with fail
    refine HH.out.mono ?_
    rintro e w' ⟨rfl, rfl⟩
    go_wp2_with fail
    go_ret2
    exact ⟨s, rfl, HT.out⟩
end Go.Proofs.YtefdipjhjgmokaaGreat

set_option linter.unusedVariables false
set_option linter.unusedSimpArgs false
namespace Go.Proofs.YtefdipjhjgmokaaGreat
open Go.RowKit

theorem box_four {w : World} {g : Nat} {t : TypeId} {a b c d : Value} (h : Box w g t #[a, b, c, d]) (x y z u : Value) :
    (w.cell? ⟨g, 0, none⟩ = some a ∧ (w.setCell ⟨g, 0, none⟩ x).cell? ⟨g, 1, none⟩ = some b ∧ ((w.setCell ⟨g, 0, none⟩ x).setCell ⟨g, 1, none⟩ y).cell? ⟨g, 2, none⟩ = some c ∧ (((w.setCell ⟨g, 0, none⟩ x).setCell ⟨g, 1, none⟩ y).setCell ⟨g, 2, none⟩ z).cell? ⟨g, 3, none⟩ = some d) ∧
    (w.frozen? ⟨g, 0, none⟩ = false ∧ (w.setCell ⟨g, 0, none⟩ x).frozen? ⟨g, 1, none⟩ = false ∧ ((w.setCell ⟨g, 0, none⟩ x).setCell ⟨g, 1, none⟩ y).frozen? ⟨g, 2, none⟩ = false ∧ (((w.setCell ⟨g, 0, none⟩ x).setCell ⟨g, 1, none⟩ y).setCell ⟨g, 2, none⟩ z).frozen? ⟨g, 3, none⟩ = false) ∧
    Box ((((w.setCell ⟨g, 0, none⟩ x).setCell ⟨g, 1, none⟩ y).setCell ⟨g, 2, none⟩ z).setCell ⟨g, 3, none⟩ u) g t #[x, y, z, u] := by
  have h1 := h.set 0 x
  have h2 := h1.set 1 y
  have h3 := h2.set 2 z
  have h4 := h3.set 3 u
  exact ⟨⟨h.cell 0 rfl, h1.cell 1 rfl, h2.cell 2 rfl, h3.cell 3 rfl⟩, ⟨h.frozen 0, h1.frozen 1, h2.frozen 2, h3.frozen 3⟩, h4⟩
theorem below_set1 {a w : World} {g i : Nat} {v : Value} (h : Below a.heap.size a w) (hg : a.heap.size ≤ g) : Below a.heap.size a (w.setCell ⟨g, i, none⟩ v) :=
  h.grown (row := some g) ⟨rfl, rfl, rfl, by simp [World.setCell], fun i _ hne => Below.heap_setCell w _ _ i (fun e => hne (by rw [e]))⟩ h.size (fun b hb => by injection hb with hb; subst hb; exact hg)
theorem below_four {a w : World} {g : Nat} (h : Below a.heap.size a w) (hg : a.heap.size ≤ g) (x y z u : Value) : Below a.heap.size a ((((w.setCell ⟨g, 0, none⟩ x).setCell ⟨g, 1, none⟩ y).setCell ⟨g, 2, none⟩ z).setCell ⟨g, 3, none⟩ u) :=
  below_set1 (below_set1 (below_set1 (below_set1 h hg) hg) hg) hg
end Go.Proofs.YtefdipjhjgmokaaGreat

set_option linter.unusedVariables false
set_option linter.unusedSimpArgs false
namespace Go.Proofs.YtefdipjhjgmokaaGreat
open Go.RowKit

theorem EO.set {w : World} {B g i : Nat} {x : Em} {v : Value} (h : EO w B x) (ht : Ty w g 37) : EO (w.setCell ⟨g, i, none⟩ v) B x :=
  ⟨World.ownsRow.kept h.ops (grown_set w g i v) (own_ne h.ops ht (by decide)), ⟨h.map.cuts.set ht (by decide), h.map.own.set ht (by decide)⟩⟩
/-- the result's box is written -/
theorem eo_four {w wr : World} {g : Nat} {a b c d : Value} {x : Em} (hr : Box wr g 37 #[a, b, c, d]) (hl : w.heap.size ≤ g) (hn : EO wr w.heap.size x) (hb : Below w.heap.size w wr) (p q r s : Value) :
    EO ((((wr.setCell ⟨g, 0, none⟩ p).setCell ⟨g, 1, none⟩ q).setCell ⟨g, 2, none⟩ r).setCell ⟨g, 3, none⟩ s) w.heap.size x ∧ Below w.heap.size w ((((wr.setCell ⟨g, 0, none⟩ p).setCell ⟨g, 1, none⟩ q).setCell ⟨g, 2, none⟩ r).setCell ⟨g, 3, none⟩ s) := by
  have h1 := hr.set 0 p
  have h2 := h1.set 1 q
  have h3 := h2.set 2 r
  exact ⟨(((hn.set hr.ty).set h1.ty).set h2.ty).set h3.ty, below_four hb hl p q r s⟩
end Go.Proofs.YtefdipjhjgmokaaGreat
