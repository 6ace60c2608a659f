/-
  slices.Equal, rokeep.spoil, rokeep.roomy and rokeep.marked at operations.
  rokeep.spoil at pairs.
  Rows of pairs in boxes (no body of the program in it).
-/
import Derived.Test.YtmepmiokpcddbabGreatDoorCb3
import Derived.Test.YtmepmiokpcddbabGreatDoorCb4
import Derived.Test.YtmepmiokpcddbabGreatDoorCb5
import Derived.Laws.OwnMore
import Derived.Laws.MakeOwn
import Derived.Deep.RegionHeld3
import Derived.Lib.SlicesS
import Derived.StillTailTactics
set_option linter.unusedVariables false
set_option linter.unusedSimpArgs false
namespace Go.Proofs.YtmepmiokpcddbabGreatDoor
open Go.RowKit

theorem run_neq_op (k : Int) (a b : ByteArray) (n : Int) (w : World) : (binOp .neq 93 (.agg #[.int .i64 k, .string a, .string b, .int .i64 n]) (.agg #[.int .i64 k, .string a, .string b, .int .i64 n])).run Tryz.prog w = .ok (.bool false) w := by
  have u3 := Tryz.underlying3
  have u9 := Tryz.underlying9
  have a3 := Tryz.isAgg3
  have z3 := Tryz.sizeOf3
  have a9 := Tryz.isAgg9
  have z9 := Tryz.sizeOf9
  have hS : Tryz.prog.underlying 93 = some (.struct (Tryz.prog.fieldsOf 93)) := by kernel_rfl
  have hp : Tryz.prog.stoodInHeld 93 = false := by kernel_rfl
  rw [run_neq_struct, show (10000 : Nat) = 9999 + 1 from rfl, run_equalIn_agg w 9999 93 _ _ hS hp]
  simp only [Program.fieldsOf, Tryz.underlying93]
  go_simp
theorem guard_op (x y : Operand) (xs ys : Array Value) (w : World) : (eqGuard .neq 93 x y (.agg xs) (.agg ys)).run Tryz.prog w = .ok () w := run_eqGuard_agg w .neq 93 x y xs ys (by kernel_rfl)

set_option maxHeartbeats 400000 in
set_option maxRecDepth 100000 in
theorem equalO_same (A1 A2 : Option Addr) (c1 c2 : Nat) (l : List Opr) (w : World) (h1 : OS w w.heap.size A1 l) (h2 : OS w w.heap.size A2 l) (hl : l.length < 4611686018427387904) :
    Calls Tryz.prog 56 #[.slice A1 l.length c1, .slice A2 l.length c2] w fun e w' => e = .returned (.bool true) ∧ Below w.heap.size w w' := by
  have d0 : ((l.length : Int) != (l.length : Int)) = false := by simp
  go_enter Tryz.func56, Tryz.ntmps56
  go_wp2_with fail
  go_loopw [13] (fun i wr => ∃ k : Nat, k ≤ l.length ∧ i = .int .i64 k ∧ Below w.heap.size w wr) (fun i _ => l.length - (intOf i).toNat)
  case atStart => exact ⟨0, Nat.zero_le _, rfl, Below.refl _ _⟩
  case round =>
    obtain ⟨k, hk, rfl, hb⟩ := hrel
    by_cases hlt : k < l.length
    · obtain ⟨b, o, rfl, hbl, q1, q2, q3, q4⟩ := h1.below hb k _ (List.getElem?_eq_getElem hlt)
      obtain ⟨b', o', rfl, hbl', q5, q6, q7, q8⟩ := h2.below hb k _ (List.getElem?_eq_getElem hlt)
      clear h1 h2
      generalize l[k] = p at q1 q2 q3 q4 q5 q6 q7 q8
      have g1 : (0 : Int) ≤ (k : Int) := by omega
      have g2 : (k : Int) < (l.length : Int) := by omega
      have n1 := run_neq_op p.kind p.key p.src p.n
      have n2 := guard_op
      go_wp2_with fail
      go_quiet (fail)
      go_wp2_with fail
      go_roundw
      case rel => exact ⟨k + 1, by omega, by go_num, ⟨hb.os, hb.tape, hb.output, hb.size, hb.block⟩⟩
      case measure => simp [intOf]; omega
    · go_wp2_with fail
      go_ret
      exact ⟨rfl, hb⟩

theorem take_set4 {α : Type} (L : List α) (a : Nat) (x y z u : α) (h : a + 3 < L.length) : ((((L.set a x).set (a + 1) y).set (a + 2) z).set (a + 3) u).take (a + 4) = L.take a ++ [x, y, z, u] := by
  have h2 := take_set2 ((L.set a x).set (a + 1) y) (a + 2) z u (by simp; omega)
  rw [take_set2 L a x y (by omega)] at h2
  simpa using h2
theorem OO.head {w : World} {B : Nat} {A : Option Addr} {c : Nat} {l r : List Opr} (h : OO w B A c (l ++ r)) (hA : A ≠ none) : OO w B A c l := by
  rcases h.2 with ⟨hv, _⟩ | ⟨g, cap, cur, hv, hB, hg, hn, hm, hs, ht⟩
  · injection hv with e; exact absurd e hA
  · injection hv with e1 e2 e3
    subst e1; subst e3
    refine ⟨opCells_length l, .inr ⟨g, c, cur, rfl, hB, hg, by rw [List.length_append] at hn; omega, hm, hs, ?_⟩⟩
    have h2 : cur.toList.take ((l ++ r).length * 4) = opCells l ++ opCells r := by rw [ht, opCells_append]
    have h3 := congrArg (List.take (l.length * 4)) h2
    rw [List.take_take, Nat.min_eq_left (by rw [List.length_append]; omega), List.take_append_of_le_length (by rw [opCells_length]; exact Nat.le_refl _)] at h3
    exact h3.trans (List.take_of_length_le (by rw [opCells_length]; exact Nat.le_refl _))
/-- four cells of a block are set -/
def set4 (w : World) (g i : Nat) (x : Opr) : World := (((w.setCell ⟨g, i, none⟩ (.int .i64 x.kind)).setCell ⟨g, i + 1, none⟩ (.string x.key)).setCell ⟨g, i + 2, none⟩ (.string x.src)).setCell ⟨g, i + 3, none⟩ (.int .i64 x.n)
/-- what the four stores ask -/
structure Fit4 (w : World) (g i : Nat) (x : Opr) : Prop where
  d0 : ∃ v, w.cell? ⟨g, i, none⟩ = some v
  d1 : ∃ v, (w.setCell ⟨g, i, none⟩ (.int .i64 x.kind)).cell? ⟨g, i + 1, none⟩ = some v
  d2 : ∃ v, ((w.setCell ⟨g, i, none⟩ (.int .i64 x.kind)).setCell ⟨g, i + 1, none⟩ (.string x.key)).cell? ⟨g, i + 2, none⟩ = some v
  d3 : ∃ v, (((w.setCell ⟨g, i, none⟩ (.int .i64 x.kind)).setCell ⟨g, i + 1, none⟩ (.string x.key)).setCell ⟨g, i + 2, none⟩ (.string x.src)).cell? ⟨g, i + 3, none⟩ = some v
  f0 : w.frozen? ⟨g, i, none⟩ = false
  f1 : (w.setCell ⟨g, i, none⟩ (.int .i64 x.kind)).frozen? ⟨g, i + 1, none⟩ = false
  f2 : ((w.setCell ⟨g, i, none⟩ (.int .i64 x.kind)).setCell ⟨g, i + 1, none⟩ (.string x.key)).frozen? ⟨g, i + 2, none⟩ = false
  f3 : (((w.setCell ⟨g, i, none⟩ (.int .i64 x.kind)).setCell ⟨g, i + 1, none⟩ (.string x.key)).setCell ⟨g, i + 2, none⟩ (.string x.src)).frozen? ⟨g, i + 3, none⟩ = false
theorem box_set4 {w : World} {g : Nat} {cur : Array Value} (h : Box w g 93 cur) (i : Nat) (hi : i + 3 < cur.size) (x : Opr) :
    Fit4 w g i x ∧ Box (set4 w g i x) g 93 ((((cur.setIfInBounds i (.int .i64 x.kind)).setIfInBounds (i + 1) (.string x.key)).setIfInBounds (i + 2) (.string x.src)).setIfInBounds (i + 3) (.int .i64 x.n)) := by
  have o1 := h.set i (.int .i64 x.kind)
  have o2 := o1.set (i + 1) (.string x.key)
  have o3 := o2.set (i + 2) (.string x.src)
  have o4 := o3.set (i + 3) (.int .i64 x.n)
  have s1 : i < cur.size := by omega
  have s2 : i + 1 < (cur.setIfInBounds i (Value.int .i64 x.kind)).size := by simp; omega
  have s3 : i + 2 < ((cur.setIfInBounds i (Value.int .i64 x.kind)).setIfInBounds (i + 1) (.string x.key)).size := by simp; omega
  have s4 : i + 3 < (((cur.setIfInBounds i (Value.int .i64 x.kind)).setIfInBounds (i + 1) (.string x.key)).setIfInBounds (i + 2) (.string x.src)).size := by simp; omega
  exact ⟨⟨⟨_, h.cell _ (Array.getElem?_eq_getElem s1)⟩, ⟨_, o1.cell _ (Array.getElem?_eq_getElem s2)⟩, ⟨_, o2.cell _ (Array.getElem?_eq_getElem s3)⟩, ⟨_, o3.cell _ (Array.getElem?_eq_getElem s4)⟩, h.frozen _, o1.frozen _, o2.frozen _, o3.frozen _⟩, o4⟩
theorem box_other4 {w : World} {g g' i : Nat} {t : TypeId} {cs : Array Value} (h : Box w g' t cs) (hne : g ≠ g') (x : Opr) : Box (set4 w g i x) g' t cs :=
  (((h.other (a := ⟨g, i, none⟩) hne _).other (a := ⟨g, i + 1, none⟩) hne _).other (a := ⟨g, i + 2, none⟩) hne _).other (a := ⟨g, i + 3, none⟩) hne _
theorem below_set4 {w w' : World} {g i : Nat} (h : Below w.heap.size w w') (hg : w.heap.size ≤ g) (x : Opr) : Below w.heap.size w (set4 w' g i x) :=
  below_set (below_set (below_set (below_set h hg) hg) hg) hg
theorem grownO_trans {a b c : World} {r : Option Nat} (h1 : a.grownBy b r) (h2 : b.grownBy c r) : a.grownBy c r :=
  ⟨h2.os.trans h1.os, h2.tape.trans h1.tape, h2.output.trans h1.output, Nat.le_trans h1.size h2.size, fun i hi hne => (h2.block i (Nat.lt_of_lt_of_le hi h1.size) hne).trans (h1.block i hi hne)⟩
theorem grown_set4 (w : World) (g i : Nat) (x : Opr) : w.grownBy (set4 w g i x) (some g) :=
  grownO_trans (grownO_trans (grownO_trans (grown_set w g i _) (grown_set _ g (i + 1) _)) (grown_set _ g (i + 2) _)) (grown_set _ g (i + 3) _)
/-- one more operation, in the room behind a row -/
theorem OO.push {w : World} {B g c : Nat} {l : List Opr} (h : OO w B (some ⟨g, 0, none⟩) c l) (hlt : l.length < c) (x : Opr) :
    Fit4 w g (l.length * 4) x ∧ OO (set4 w g (l.length * 4) x) B (some ⟨g, 0, none⟩) c (l ++ [x]) := by
  rcases h.2 with ⟨hv, _⟩ | ⟨g', cap, cur, hv, hB, hg, hn, hm, hs, ht⟩
  · injection hv with e; cases e
  · injection hv with e1 e2 e3
    injection e1 with e1
    injection e1 with e1 _ _
    subst e1; subst e3
    have hbx : Box w g 93 cur := hg
    have hi3 : l.length * 4 + 3 < cur.size := by omega
    obtain ⟨hf, ho⟩ := box_set4 hbx (l.length * 4) hi3 x
    refine ⟨hf, opCells_length _, .inr ⟨g, c, _, rfl, hB, ho, by simp; omega, hm, by simp [hs], ?_⟩⟩
    rw [opCells_append, ← ht]
    have := take_set4 cur.toList (l.length * 4) (.int .i64 x.kind) (.string x.key) (.string x.src) (.int .i64 x.n) (by rw [Array.length_toList]; exact hi3)
    rw [show (l ++ [x]).length * 4 = l.length * 4 + 4 by simp; omega]
    simpa [opCells] using this
theorem opCells_oneR (l : List Opr) : ∀ u ∈ opCells l, u.oneCell' = true := by
  induction l with
  | nil => intro u hu; cases hu
  | cons p r ih => intro u hu; simp only [opCells, List.mem_cons] at hu; rcases hu with rfl | rfl | rfl | rfl | hu <;> first | rfl | exact ih u hu
theorem os_cells {w : World} {B : Nat} {a : Addr} {l : List Opr} (h : OS w B (some a) l) : ∀ j u, (opCells l)[j]? = some u → w.cell? (a.add j) = some u := by
  intro j u hj
  have hlt : j < l.length * 4 := by rw [← opCells_length]; exact (List.getElem?_eq_some_iff.1 hj).1
  have hi : j / 4 < l.length := by omega
  obtain ⟨b, o, e, _, c1, c2, c3, c4⟩ := h (j / 4) _ (List.getElem?_eq_getElem hi)
  obtain ⟨e1, e2, e3, e4⟩ := opCells_get l (j / 4) _ (List.getElem?_eq_getElem hi)
  injection e with e
  subst e
  rw [Addr.add_lit]
  have hm : j = j / 4 * 4 ∨ j = j / 4 * 4 + 1 ∨ j = j / 4 * 4 + 2 ∨ j = j / 4 * 4 + 3 := by omega
  rcases hm with hm | hm | hm | hm
  · rw [← hm] at e1; rw [e1] at hj; injection hj with hj; subst hj; rw [← hm] at c1; exact c1
  · rw [← hm] at e2; rw [e2] at hj; injection hj with hj; subst hj; rw [Nat.add_assoc, ← hm] at c2; exact c2
  · rw [← hm] at e3; rw [e3] at hj; injection hj with hj; subst hj; rw [Nat.add_assoc, ← hm] at c3; exact c3
  · rw [← hm] at e4; rw [e4] at hj; injection hj with hj; subst hj; rw [Nat.add_assoc, ← hm] at c4; exact c4

/-- a row with room behind it, in which an operation stands three times -/
def RetRmO (w : World) (l : List Opr) (x : Opr) (e : Ending) (w' : World) : Prop := ∃ g, e = .returned (.slice (some ⟨g, 0, none⟩) l.length (l.length + 3)) ∧ OO w' w.heap.size (some ⟨g, 0, none⟩) (l.length + 3) (l ++ List.replicate 3 x) ∧ Below w.heap.size w w'
structure RmHO (w : World) (g : Nat) (l : List Opr) (x : Opr) (k : Nat) (gx : Nat) (wr : World) : Prop where
  ov : OO wr w.heap.size (some ⟨g, 0, none⟩) (l.length + 3) (l ++ List.replicate k x)
  bx : Box wr gx 93 #[.int .i64 x.kind, .string x.key, .string x.src, .int .i64 x.n]
  ne : g ≠ gx
  be : Below w.heap.size w wr
def RmIO (w : World) (g : Nat) (l : List Opr) (x : Opr) (gx : Nat) (i : Value) (wr : World) : Prop := ∃ k : Nat, k ≤ 3 ∧ i = .int .i64 k ∧ RmHO w g l x k gx wr

set_option maxHeartbeats 2000000 in
set_option maxRecDepth 100000 in
theorem roomyO_any (A : Option Addr) (c : Nat) (l : List Opr) (x : Opr) (w : World) (hA : OS w w.heap.size A l) (hc : l.length ≤ c) (h0 : A = none → c = 0) (hn : l.length * 48 ≤ 140737488351232) :
    Calls Tryz.prog 53 #[.slice A l.length c, .agg #[.int .i64 x.kind, .string x.key, .string x.src, .int .i64 x.n]] w (RetRmO w l x) := by
  obtain ⟨i0, hi, hz0, hz1, hz2⟩ := info_parts opInfo
  have hb0 := (Below.refl w.heap.size w).alloc (Nat.le_refl _) (.cells #[.int .i64 x.kind, .string x.key, .string x.src, .int .i64 x.n] 93)
  have hx0 := Box.new w 93 #[.int .i64 x.kind, .string x.key, .string x.src, .int .i64 x.n]
  obtain ⟨w1, hmk, ho1, hg1⟩ := run_make_own (P := Tryz.prog) (w.alloc (.cells #[.int .i64 x.kind, .string x.key, .string x.src, .int .i64 x.n] 93)) w.heap.size 22 93 i0 _ 4 Tryz.underlying22 hi hz0 hz1 .i64 .i64 (l.length + 3) (by rw [hz2]; omega) (by unfold maxLen; omega) hb0.size
  rw [World.size_alloc] at hmk ho1
  have hb1 : Below w.heap.size w w1 := hb0.grown hg1 hb0.size (fun j hj => by cases hj)
  have hA1 : OS w1 w.heap.size A l := hA.below hb1
  have hx1 : Box w1 w.heap.size 93 #[.int .i64 x.kind, .string x.key, .string x.src, .int .i64 x.n] := hx0.grown hg1 (by simp)
  obtain ⟨w2, happ, ho2, hb2, hx2⟩ : ∃ w2, (Builtin.append_ #[22, 22] 22 #[.slice (some ⟨w.heap.size + 1, 0, none⟩) 0 (l.length + 3), .slice A l.length c]).run Tryz.prog w1 = .ok (.slice (some ⟨w.heap.size + 1, 0, none⟩) l.length (l.length + 3)) w2 ∧ OO w2 w.heap.size (some ⟨w.heap.size + 1, 0, none⟩) (l.length + 3) l ∧ Below w.heap.size w w2 ∧ Box w2 w.heap.size 93 #[.int .i64 x.kind, .string x.key, .string x.src, .int .i64 x.n] := by
    cases A with
    | none =>
      have hc0 : c = 0 := h0 rfl
      have hl : l = [] := List.length_eq_zero_iff.1 (by omega)
      subst hc0; subst hl
      exact ⟨w1, run_append_owned_none (P := Tryz.prog) w1 w.heap.size 22 _ 93 i0 4 Tryz.underlying22 hi _ 0 [] ho1, ho1, hb1, hx1⟩
    | some a =>
      obtain ⟨w2, h1, h2, h3⟩ := run_append_fits (P := Tryz.prog) w1 w.heap.size 22 22 93 i0 4 Tryz.underlying22 hi hz1 (w.heap.size + 1) 0 (l.length + 3) [] ho1 a l.length c (opCells l) (opCells_length l) (os_cells hA1) (opCells_oneR l) (by omega)
      rw [Nat.zero_add] at h1 h2
      exact ⟨w2, h1, h2, hb1.grown h3 hb1.size (fun j hj => by injection hj with hj; omega), hx1.grown h3 (fun e => by injection e with e; omega)⟩
  rw [show ((l.length + 3 : Nat) : Int) = (l.length : Int) + 3 by omega] at hmk
  have w3 : IntKind.i64.wrap ((l.length : Int) + 3) = (l.length : Int) + 3 := by simp only [IntKind.wrap_i64]; omega
  have hR : RmHO w (w.heap.size + 1) l x 0 w.heap.size w2 := ⟨by simpa using ho2, hx2, by omega, hb2⟩
  have HR := hideP happ
  have g0 : (0 : Int) ≤ (l.length : Int) + 3 := by omega
  clear hA hA1 hx0 hx1 hx2 ho1 ho2 hb0 hb1 hb2 hg1 happ
  go_enter Tryz.func53, Tryz.ntmps53
  go_wp2_with (at_builtin; refine Lib.wpList_append_run _ rfl _ _ _ _ rfl _ _ rfl rfl _ _ HR.out ?_)
  clear HR hmk
  generalize hgx : w.heap.size = gx at hR ⊢
  go_loopw [13] (RmIO w (gx + 1) l x gx) (fun i _ => 3 - (intOf i).toNat)
  case atStart => exact ⟨0, by omega, rfl, hR⟩
  case round =>
    clear hR
    obtain ⟨k, hk, rfl, hR⟩ := hrel
    by_cases hk3 : k < 3
    · have g1 : (k : Int) < 3 := by omega
      have hll : (l ++ List.replicate k x).length = l.length + k := by simp
      have hR2 : RmHO w (gx + 1) l x k gx wr.drew := ⟨hR.ov, hR.bx, hR.ne, hR.be.drew⟩
      have z0 := hR.bx.cell 0 (v := .int .i64 x.kind) rfl
      have z1 := hR.bx.cell 1 (v := .string x.key) rfl
      have z2 := hR.bx.cell 2 (v := .string x.src) rfl
      have z3 := hR.bx.cell 3 (v := .int .i64 x.n) rfl
      have wk : IntKind.i64.wrap ((l.length : Int) + (k : Int)) = (l.length : Int) + (k : Int) := by simp only [IntKind.wrap_i64]; omega
      have g2 : (0 : Int) ≤ (l.length : Int) + (k : Int) := by omega
      have g3 : (l.length : Int) + (k : Int) < (l.length : Int) + 3 := by omega
      have g4 : ((l.length : Int) + (k : Int)).toNat = l.length + k := by omega
      have g5 : ((l.length : Int) + 3).toNat = l.length + 3 := by omega
      clear hR
      go_wp2_with fail
      go_still_tail 11, (by kernel_rfl)
      change wpList _ _ _ _ _ wr.drew
      clear z0 z1 z2 z3
      generalize wr.drew = w4 at hR2 ⊢
      obtain ⟨⟨⟨_, d0⟩, ⟨_, d1⟩, ⟨_, d2⟩, ⟨_, d3⟩, f0, f1, f2, f3⟩, hp⟩ := hR2.ov.push (by rw [hll]; omega) x
      rw [hll] at d0 d1 d2 d3 f0 f1 f2 f3 hp
      rw [show (l ++ List.replicate k x) ++ [x] = l ++ List.replicate (k + 1) x by rw [List.append_assoc, List.replicate_succ']] at hp
      have HN : Hid (RmHO w (gx + 1) l x (k + 1) gx (set4 w4 (gx + 1) ((l.length + k) * 4) x)) := hideP ⟨hp, box_other4 hR2.bx (by omega) x, hR2.ne, below_set4 hR2.be (by omega) x⟩
      clear hp hR2
      go_wp2_with fail
      exact ⟨⟨k + 1, by omega, by rw [Int.natCast_add]; rfl, HN.out⟩, by simp only [intOf]; omega⟩
    · have hk4 : k = 3 := by omega
      have h3 : RmHO w (gx + 1) l x 3 gx wr := hk4 ▸ hR
      clear hR hk4
      go_wp2_with fail
      go_ret
      exact ⟨gx + 1, rfl, h3.ov, h3.be⟩

/-- while the room behind a row is read -/
structure MkHO (w : World) (gx : Nat) (x : Opr) (wr : World) : Prop where
  bx : Box wr gx 93 #[.int .i64 x.kind, .string x.key, .string x.src, .int .i64 x.n]
  be : Below w.heap.size w wr
theorem MkHO.below {w wr w' : World} {gx : Nat} {x : Opr} (h : MkHO w gx x wr) (hb : Below wr.heap.size wr w') : MkHO w gx x w' := ⟨h.bx.below hb, h.be.trans (hb.mono h.be.size)⟩
def MkIO (w : World) (gx : Nat) (x : Opr) (i : Value) (wr : World) : Prop := ∃ k : Nat, k ≤ 3 ∧ i = .int .i64 k ∧ MkHO w gx x wr

set_option maxHeartbeats 2000000 in
set_option maxRecDepth 100000 in
theorem markO_any (B g : Nat) (l : List Opr) (x : Opr) (w : World) (h : OO w B (some ⟨g, 0, none⟩) (l.length + 3) (l ++ List.replicate 3 x)) (hn : l.length * 48 ≤ 140737488351232) :
    Calls Tryz.prog 57 #[.slice (some ⟨g, 0, none⟩) l.length (l.length + 3), .agg #[.int .i64 x.kind, .string x.key, .string x.src, .int .i64 x.n]] w fun e w' => e = .returned (.bool true) ∧ Below w.heap.size w w' := by
  have hs := h.os
  have hR : MkHO w w.heap.size x (w.alloc (.cells #[.int .i64 x.kind, .string x.key, .string x.src, .int .i64 x.n] 93)) := ⟨Box.new _ _ _, (Below.refl w.heap.size w).alloc (Nat.le_refl _) _⟩
  have hsl : ∀ w : World, (Instr.slice 22 (.slice (some ⟨g, 0, none⟩) l.length (l.length + 3)) (some (.int .i64 (l.length : Int))) (some (.int .i64 ((l.length : Int) + 3))) none).run Tryz.prog w = .ok (.slice (some ⟨g, l.length * 4, none⟩) 3 3) w := by
    intro w
    have g5 : ((l.length : Int) + 3).toNat = l.length + 3 := by omega
    have g6 : (0 : Int) ≤ (l.length : Int) + 3 := by omega
    have g7 : l.length ≤ l.length + 3 := by omega
    have g8 : l.length + 3 - l.length = 3 := by omega
    go_simp
    try simp only [g5, g6, g7, g8, if_true]
  clear h
  go_enter Tryz.func57, Tryz.ntmps57
  go_wp2_with fail
  generalize w.alloc _ = w1 at hR ⊢
  generalize hgx : w.heap.size = gx at hR ⊢
  go_loopw [14] (MkIO w gx x) (fun i _ => 3 - (intOf i).toNat)
  case atStart => exact ⟨0, by omega, rfl, hR⟩
  case round =>
    clear hR
    obtain ⟨k, hk, rfl, hR⟩ := hrel
    by_cases hk3 : k < 3
    · have g1 : (k : Int) < 3 := by omega
      have g0 : (0 : Int) ≤ (k : Int) := by omega
      obtain ⟨b, o, e, hbl, c1, c2, c3, c4⟩ := (hs.below hR.be) (l.length + k) x (by rw [List.getElem?_append_right (by omega), show l.length + k - l.length = k by omega, List.getElem?_replicate, if_pos hk3])
      injection e with e
      injection e with e1 e2 e3
      subst e1; subst e2
      rw [show 0 + (l.length + k) * 4 = l.length * 4 + k * 4 by omega] at c1 c2 c3 c4
      have hbx := hR.bx.alloc (.cells #[.int .i64 x.kind, .string x.key, .string x.src, .int .i64 x.n] 93)
      have z0 := hbx.cell 0 (v := .int .i64 x.kind) rfl
      have z1 := hbx.cell 1 (v := .string x.key) rfl
      have z2 := hbx.cell 2 (v := .string x.src) rfl
      have z3 := hbx.cell 3 (v := .int .i64 x.n) rfl
      have n1 := run_neq_op x.kind x.key x.src x.n
      have n2 := guard_op
      have hN := hR.below ((Below.refl wr.heap.size wr).alloc (Nat.le_refl _) (.cells #[.int .i64 x.kind, .string x.key, .string x.src, .int .i64 x.n] 93))
      clear hR hbx
      go_wp2_with fail
      go_roundw
      case rel => exact ⟨k + 1, by omega, by go_num, hN⟩
      case measure => simp [intOf]; omega
    · go_wp2_with fail
      go_ret
      exact ⟨rfl, hR.be⟩

/-- while a slice is spoilt -/
structure SpHO (w : World) (g c : Nat) (gx : Nat) (x : Opr) (wr : World) : Prop where
  bx : ∃ cur, Box wr g 93 cur ∧ cur.size = c * 4
  x : Box wr gx 93 #[.int .i64 x.kind, .string x.key, .string x.src, .int .i64 x.n]
  ne : g ≠ gx
  gr : w.grownBy wr (some g)

set_option maxHeartbeats 1000000 in
set_option maxRecDepth 100000 in
theorem spoilO_any (B g c : Nat) (l : List Opr) (x : Opr) (w : World) (hA : OO w B (some ⟨g, 0, none⟩) c l) (hc : c ≤ 9223372036854775807) :
    Calls Tryz.prog 58 #[.slice (some ⟨g, 0, none⟩) l.length c, .agg #[.int .i64 x.kind, .string x.key, .string x.src, .int .i64 x.n]] w fun e w' => e = .returned (.tuple #[]) ∧ w.grownBy w' (some g) := by
  have hb := (Below.refl w.heap.size w).alloc (Nat.le_refl _) (.cells #[.int .i64 x.kind, .string x.key, .string x.src, .int .i64 x.n] 93)
  rcases hA.2 with ⟨hv, h0⟩ | ⟨g', cap, cur, hv, hB, hbk, h1, h2, h3, h4⟩
  · injection hv with e1 e2 e3
    cases e1
  · injection hv with e1 e2 e3
    injection e1 with e1
    injection e1 with e1 _ _
    subst e1; subst e3
    have hbx : Box w g 93 cur := hbk
    have hlt := hbx.lt
    have hS : SpHO w g c w.heap.size x (w.alloc (.cells #[.int .i64 x.kind, .string x.key, .string x.src, .int .i64 x.n] 93)) := ⟨⟨cur, hbx.alloc _, h3⟩, Box.new _ _ _, by omega, ⟨hb.os, hb.tape, hb.output, hb.size, fun k hk _ => hb.block k hk⟩⟩
    have gl : (l.length : Int) ≤ (c : Int) := by omega
    clear hA hbk h4 hbx h3
    go_enter Tryz.func58, Tryz.ntmps58
    go_wp2_with fail
    generalize w.alloc _ = w1 at hS ⊢
    generalize w.heap.size = gx at hS ⊢
    go_loopw [11] (fun i wr => ∃ k : Nat, k ≤ c ∧ i = .int .i64 k ∧ SpHO w g c gx x wr) (fun i _ => c - (intOf i).toNat)
    case atStart => exact ⟨0, Nat.zero_le _, rfl, hS⟩
    case round =>
      clear hS
      obtain ⟨k, hk, rfl, hS⟩ := hrel
      obtain ⟨cr, hcr, hsz⟩ := hS.bx
      by_cases hkc : k < c
      · have g1 : (0 : Int) ≤ (k : Int) := by omega
        have g2 : (k : Int) < (c : Int) := by omega
        have z0 := hS.x.cell 0 (v := .int .i64 x.kind) rfl
        have z1 := hS.x.cell 1 (v := .string x.key) rfl
        have z2 := hS.x.cell 2 (v := .string x.src) rfl
        have z3 := hS.x.cell 3 (v := .int .i64 x.n) rfl
        obtain ⟨⟨⟨_, d0⟩, ⟨_, d1⟩, ⟨_, d2⟩, ⟨_, d3⟩, f0, f1, f2, f3⟩, ho⟩ := box_set4 hcr (k * 4) (by omega) x
        have HN : Hid (SpHO w g c gx x (set4 wr g (k * 4) x)) := hideP ⟨⟨_, ho, by simp [hsz]⟩, box_other4 hS.x hS.ne x, hS.ne, grownO_trans hS.gr (grown_set4 wr g (k * 4) x)⟩
        clear ho hcr hS hsz
        go_wp2_with fail
        go_roundw
        case rel => exact ⟨k + 1, by omega, by go_num, HN.out⟩
        case measure => simp [intOf]; omega
      · have hgr := hS.gr
        go_wp2_with fail
        go_end0
        exact ⟨rfl, hgr⟩
end Go.Proofs.YtmepmiokpcddbabGreatDoor

set_option linter.unusedVariables false
set_option linter.unusedSimpArgs false
namespace Go.Proofs.YtmepmiokpcddbabGreatDoor
open Go.RowKit

/-- while a slice is spoilt -/
structure SpH (w : World) (g c : Nat) (gx : Nat) (key : ByteArray) (n : Int) (wr : World) : Prop where
  bx : ∃ cur, Box wr g 65 cur ∧ cur.size = c * 2
  x : Box wr gx 65 #[.string key, .int .i64 n]
  ne : g ≠ gx
  gr : w.grownBy wr (some g)

set_option maxHeartbeats 1000000 in
set_option maxRecDepth 100000 in
theorem pspoil_any (B : Nat) (A : Option Addr) (c : Nat) (l : List Pr) (key : ByteArray) (n : Int) (w : World) (hA : OV w B A c l) (hc : c ≤ 9223372036854775807) :
    Calls Tryz.prog 48 #[.slice A l.length c, .agg #[.string key, .int .i64 n]] w fun e w' => e = .returned (.tuple #[]) ∧ w.grownBy w' (blk A) := by
  have hb := (Below.refl w.heap.size w).alloc (Nat.le_refl _) (.cells #[.string key, .int .i64 n] 65)
  rcases hA.2 with ⟨hv, h0⟩ | ⟨g, cap, cur, hv, hB, hbk, h1, h2, h3, h4⟩
  · injection hv with e1 e2 e3
    subst e1; subst e3
    rw [e2]
    go_enter Tryz.func48, Tryz.ntmps48
    go_wp2_with fail
    go_loopw [11] (fun i wr => i = .int .i64 0 ∧ w.alloc (.cells #[.string key, .int .i64 n] 65) = wr) (fun _ _ => 0)
    case atStart => exact ⟨rfl, rfl⟩
    case round =>
      obtain ⟨rfl, rfl⟩ := hrel
      go_wp2_with fail
      go_end0
      exact ⟨rfl, ⟨hb.os, hb.tape, hb.output, hb.size, fun k hk _ => hb.block k hk⟩⟩
  · injection hv with e1 e2 e3
    subst e1; subst e3
    have hbx : Box w g 65 cur := hbk
    have hlt := hbx.lt
    have hS : SpH w g c w.heap.size key n (w.alloc (.cells #[.string key, .int .i64 n] 65)) := ⟨⟨cur, hbx.alloc _, h3⟩, Box.new _ _ _, by omega, ⟨hb.os, hb.tape, hb.output, hb.size, fun k hk _ => hb.block k hk⟩⟩
    have gl : (l.length : Int) ≤ (c : Int) := by omega
    clear hA hbk h4 hbx h3
    go_enter Tryz.func48, Tryz.ntmps48
    go_wp2_with fail
    generalize w.alloc _ = w1 at hS ⊢
    generalize w.heap.size = gx at hS ⊢
    go_loopw [11] (fun i wr => ∃ k : Nat, k ≤ c ∧ i = .int .i64 k ∧ SpH w g c gx key n wr) (fun i _ => c - (intOf i).toNat)
    case atStart => exact ⟨0, Nat.zero_le _, rfl, hS⟩
    case round =>
      clear hS
      obtain ⟨k, hk, rfl, hS⟩ := hrel
      obtain ⟨cr, hcr, hsz⟩ := hS.bx
      by_cases hkc : k < c
      · have g1 : (0 : Int) ≤ (k : Int) := by omega
        have g2 : (k : Int) < (c : Int) := by omega
        have z0 := hS.x.cell 0 (v := .string key) rfl
        have z1 := hS.x.cell 1 (v := .int .i64 n) rfl
        have hi0 : k * 2 < cr.size := by omega
        have hi1 : k * 2 + 1 < cr.size := by omega
        have d0 := hcr.cell (k * 2) (v := cr[k * 2]) (by simp [hi0])
        have f0 := hcr.frozen (k * 2)
        have o1 := hcr.set (k * 2) (.string key)
        have d1 := o1.cell (k * 2 + 1) (v := cr[k * 2 + 1]) (by rw [Array.getElem?_setIfInBounds_ne (by omega)]; simp [hi1])
        have f1 := o1.frozen (k * 2 + 1)
        have hN : SpH w g c gx key n ((wr.setCell ⟨g, k * 2, none⟩ (.string key)).setCell ⟨g, k * 2 + 1, none⟩ (.int .i64 n)) := by
          refine ⟨⟨_, o1.set (k * 2 + 1) (.int .i64 n), by simp [hsz]⟩, (hS.x.other (a := ⟨g, k * 2, none⟩) hS.ne _).other (a := ⟨g, k * 2 + 1, none⟩) hS.ne _, hS.ne, ?_⟩
          have ga := grown_set wr g (k * 2) (.string key)
          have gb := grown_set (wr.setCell ⟨g, k * 2, none⟩ (.string key)) g (k * 2 + 1) (.int .i64 n)
          have gab : wr.grownBy ((wr.setCell ⟨g, k * 2, none⟩ (.string key)).setCell ⟨g, k * 2 + 1, none⟩ (.int .i64 n)) (some g) := ⟨gb.os.trans ga.os, gb.tape.trans ga.tape, gb.output.trans ga.output, Nat.le_trans ga.size gb.size, fun i hi hne => (gb.block i (Nat.lt_of_lt_of_le hi ga.size) hne).trans (ga.block i hi hne)⟩
          exact ⟨gab.os.trans hS.gr.os, gab.tape.trans hS.gr.tape, gab.output.trans hS.gr.output, Nat.le_trans hS.gr.size gab.size, fun i hi hne => (gab.block i (Nat.lt_of_lt_of_le hi hS.gr.size) hne).trans (hS.gr.block i hi hne)⟩
        have HN := hideP hN
        clear hN o1 hcr hS hsz
        go_wp2_with fail
        go_roundw
        case rel => exact ⟨k + 1, by omega, by go_num, HN.out⟩
        case measure => simp [intOf]; omega
      · have hgr := hS.gr
        go_wp2_with fail
        go_end0
        exact ⟨rfl, hgr⟩
end Go.Proofs.YtmepmiokpcddbabGreatDoor

set_option linter.unusedVariables false
set_option linter.unusedSimpArgs false
namespace Go.Proofs.YtmepmiokpcddbabGreatDoor
open Go.RowKit

theorem OV.of_box {w : World} {g B : Nat} (h : Box w g 65 #[]) (hB : B ≤ g) : OV w B (some ⟨g, 0, none⟩) 0 [] :=
  ⟨rfl, .inr ⟨g, 0, #[], rfl, hB, h, Nat.le_refl _, by simp [maxLen], by simp, rfl⟩⟩

end Go.Proofs.YtmepmiokpcddbabGreatDoor
