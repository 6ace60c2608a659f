/-
  slices.Clone and rokeep.spoil at pairs.
  slices.Equal at pairs: two that read the same are equal.
  rokeep.roomy at pairs.
-/
import Derived.Test.YtpefdonhacmaoaaGreatBo3
import Derived.Test.YtpefdonhacmaoaaGreatBo17
import Derived.Test.YtpefdonhacmaoaaGreatBo18
import Derived.Test.YtpefdonhacmaoaaGreatBo12
import Derived.Test.YtpefdonhacmaoaaGreatBo37
import Derived.Lib.SlicesS
import Derived.Shelf.Slices.Clone
import Derived.Test.YtpefdonhacmaoaaGreatBo2
import Derived.WalkKit
import Derived.WalkSpells
import Derived.WalkLawsBesides
import Derived.Deep.QuietTactic
import Derived.BigQuiet
import Derived.Laws.StructEq
import Derived.Laws.OwnMore
import Derived.Laws.MakeOwn
import Derived.Deep.RegionHeld3
import Derived.StillTailTactics
set_option linter.unusedVariables false
set_option linter.unusedSimpArgs false
namespace Go.Proofs.YtpefdonhacmaoaaGreat
open Go.RowKit

theorem OV.of_box {w : World} {g B : Nat} (h : Box w g 51 #[]) (hB : B ≤ g) : OV w B (some ⟨g, 0, none⟩) 0 [] :=
  ⟨rfl, .inr ⟨g, 0, #[], rfl, hB, h, Nat.le_refl _, by simp [maxLen], by simp, rfl⟩⟩

set_option maxHeartbeats 400000 in
set_option maxRecDepth 100000 in
theorem pclone_any (A : Option Addr) (c : Nat) (l : List Pr) (w : World) (hA : SV w A c l) (hn : l.length * 24 ≤ 140737488355328) :
    Calls Tryz.prog 36 #[.slice A l.length c] w fun e w' => ∃ A' c', e = .returned (.slice A' l.length c') ∧ OV w' w.heap.size A' c' l ∧ Below w.heap.size w w' := by
  have q22 : ∀ (w : World) (a : Option Addr) (n c n' c' : Nat), (binOp .eql 33 (.slice a n c) (.slice none n' c')).run Tryz.prog w = .ok (.bool a.isNone) w := fun w a n c n' c' => Lib.run_eql_slice_nil w _ _ a n c n' c' Tryz.underlying33
  cases A with
  | none =>
    have h0 : c = 0 := hA.none_ rfl
    have hl : l = [] := List.length_eq_zero_iff.1 (by have := hA.le; omega)
    subst h0; subst hl
    clear hA
    go_enter Tryz.func36, Tryz.ntmps36
    go_wp2_with fail
    go_ret
    exact ⟨none, 0, rfl, World.ownsRow_nil _ _ _ _, Below.refl _ _⟩
  | some a =>
    have hb := (Below.refl w.heap.size w).alloc (Nat.le_refl _) (.cells #[] 51)
    have ho := OV.of_box (B := w.heap.size) (Box.new w 51 #[]) (Nat.le_refl _)
    obtain ⟨v', w1, hrun, hown', hg', _⟩ := app_pairs (w.alloc (.cells #[] 51)) w.heap.size 33 _ [] ho _ (some a) c l (hA.ps.below hb) (by simp; omega) hb.size
    have hb1 : Below w.heap.size w w1 := hb.grown hg' hb.size (fun j hj => (World.ownsRow.lt ho j hj).1)
    obtain ⟨A', c', rfl, hov⟩ := OV.of_own hown'
    have HR := hideP hrun
    clear hrun hown' hg' ho hA
    go_enter Tryz.func36, Tryz.ntmps36
    go_wp2_with (at_builtin; refine Lib.wpList_append_run _ rfl _ _ _ _ rfl _ _ rfl rfl _ _ HR.out ?_)
    go_ret
    exact ⟨A', c', rfl, hov, hb1⟩
/-- while a slice is spoilt -/
structure SpH (w : World) (g c : Nat) (gx : Nat) (key : ByteArray) (n : Int) (wr : World) : Prop where
  bx : ∃ cur, Box wr g 51 cur ∧ cur.size = c * 2
  x : Box wr gx 51 #[.string key, .int .i64 n]
  ne : g ≠ gx
  gr : w.grownBy wr (some g)

set_option maxHeartbeats 1000000 in
set_option maxRecDepth 100000 in
theorem pspoil_any (B : Nat) (A : Option Addr) (c : Nat) (l : List Pr) (key : ByteArray) (n : Int) (w : World) (hA : OV w B A c l) (hc : c ≤ 9223372036854775807) :
    Calls Tryz.prog 40 #[.slice A l.length c, .agg #[.string key, .int .i64 n]] w fun e w' => e = .returned (.tuple #[]) ∧ w.grownBy w' (blk A) := by
  have hb := (Below.refl w.heap.size w).alloc (Nat.le_refl _) (.cells #[.string key, .int .i64 n] 51)
  rcases hA.2 with ⟨hv, h0⟩ | ⟨g, cap, cur, hv, hB, hbk, h1, h2, h3, h4⟩
  · injection hv with e1 e2 e3
    subst e1; subst e3
    rw [e2]
    go_enter Tryz.func40, Tryz.ntmps40
    go_wp2_with fail
    go_loopw [11] (fun i wr => i = .int .i64 0 ∧ w.alloc (.cells #[.string key, .int .i64 n] 51) = wr) (fun _ _ => 0)
    case atStart => exact ⟨rfl, rfl⟩
    case round =>
      obtain ⟨rfl, rfl⟩ := hrel
      go_wp2_with fail
      go_end0
      exact ⟨rfl, ⟨hb.os, hb.tape, hb.output, hb.size, fun k hk _ => hb.block k hk⟩⟩
  · injection hv with e1 e2 e3
    subst e1; subst e3
    have hbx : Box w g 51 cur := hbk
    have hlt := hbx.lt
    have hS : SpH w g c w.heap.size key n (w.alloc (.cells #[.string key, .int .i64 n] 51)) := ⟨⟨cur, hbx.alloc _, h3⟩, Box.new _ _ _, by omega, ⟨hb.os, hb.tape, hb.output, hb.size, fun k hk _ => hb.block k hk⟩⟩
    have gl : (l.length : Int) ≤ (c : Int) := by omega
    clear hA hbk h4 hbx h3
    go_enter Tryz.func40, Tryz.ntmps40
    go_wp2_with fail
    generalize w.alloc _ = w1 at hS ⊢
    generalize w.heap.size = gx at hS ⊢
    go_loopw [11] (fun i wr => ∃ k : Nat, k ≤ c ∧ i = .int .i64 k ∧ SpH w g c gx key n wr) (fun i _ => c - (intOf i).toNat)
    case atStart => exact ⟨0, Nat.zero_le _, rfl, hS⟩
    case round =>
      clear hS
      obtain ⟨k, hk, rfl, hS⟩ := hrel
      obtain ⟨cr, hcr, hsz⟩ := hS.bx
      by_cases hkc : k < c
      · have g1 : (0 : Int) ≤ (k : Int) := by omega
        have g2 : (k : Int) < (c : Int) := by omega
        have z0 := hS.x.cell 0 (v := .string key) rfl
        have z1 := hS.x.cell 1 (v := .int .i64 n) rfl
        have hi0 : k * 2 < cr.size := by omega
        have hi1 : k * 2 + 1 < cr.size := by omega
        have d0 := hcr.cell (k * 2) (v := cr[k * 2]) (by simp [hi0])
        have f0 := hcr.frozen (k * 2)
        have o1 := hcr.set (k * 2) (.string key)
        have d1 := o1.cell (k * 2 + 1) (v := cr[k * 2 + 1]) (by rw [Array.getElem?_setIfInBounds_ne (by omega)]; simp [hi1])
        have f1 := o1.frozen (k * 2 + 1)
        have hN : SpH w g c gx key n ((wr.setCell ⟨g, k * 2, none⟩ (.string key)).setCell ⟨g, k * 2 + 1, none⟩ (.int .i64 n)) := by
          refine ⟨⟨_, o1.set (k * 2 + 1) (.int .i64 n), by simp [hsz]⟩, (hS.x.other (a := ⟨g, k * 2, none⟩) hS.ne _).other (a := ⟨g, k * 2 + 1, none⟩) hS.ne _, hS.ne, ?_⟩
          have ga := grown_set wr g (k * 2) (.string key)
          have gb := grown_set (wr.setCell ⟨g, k * 2, none⟩ (.string key)) g (k * 2 + 1) (.int .i64 n)
          have gab : wr.grownBy ((wr.setCell ⟨g, k * 2, none⟩ (.string key)).setCell ⟨g, k * 2 + 1, none⟩ (.int .i64 n)) (some g) := ⟨gb.os.trans ga.os, gb.tape.trans ga.tape, gb.output.trans ga.output, Nat.le_trans ga.size gb.size, fun i hi hne => (gb.block i (Nat.lt_of_lt_of_le hi ga.size) hne).trans (ga.block i hi hne)⟩
          exact ⟨gab.os.trans hS.gr.os, gab.tape.trans hS.gr.tape, gab.output.trans hS.gr.output, Nat.le_trans hS.gr.size gab.size, fun i hi hne => (gab.block i (Nat.lt_of_lt_of_le hi hS.gr.size) hne).trans (hS.gr.block i hi hne)⟩
        have HN := hideP hN
        clear hN o1 hcr hS hsz
        go_wp2_with fail
        go_roundw
        case rel => exact ⟨k + 1, by omega, by go_num, HN.out⟩
        case measure => simp [intOf]; omega
      · have hgr := hS.gr
        go_wp2_with fail
        go_end0
        exact ⟨rfl, hgr⟩
end Go.Proofs.YtpefdonhacmaoaaGreat

set_option linter.unusedVariables false
set_option linter.unusedSimpArgs false
namespace Go.Proofs.YtpefdonhacmaoaaGreat
open Go.RowKit

theorem run_neq_pair (k : ByteArray) (n : Int) (w : World) : (binOp .neq 51 (.agg #[.string k, .int .i64 n]) (.agg #[.string k, .int .i64 n])).run Tryz.prog w = .ok (.bool false) w := by
  have u3 := Tryz.underlying3
  have u9 := Tryz.underlying9
  have a3 := Tryz.isAgg3
  have z3 := Tryz.sizeOf3
  have a9 := Tryz.isAgg9
  have z9 := Tryz.sizeOf9
  have hS : Tryz.prog.underlying 51 = some (.struct (Tryz.prog.fieldsOf 51)) := by kernel_rfl
  have hp : Tryz.prog.stoodInHeld 51 = false := by kernel_rfl
  rw [run_neq_struct, show (10000 : Nat) = 9999 + 1 from rfl, run_equalIn_agg w 9999 51 _ _ hS hp]
  simp only [Program.fieldsOf, Tryz.underlying51]
  go_simp

theorem guard_pair (x y : Operand) (xs ys : Array Value) (w : World) : (eqGuard .neq 51 x y (.agg xs) (.agg ys)).run Tryz.prog w = .ok () w := run_eqGuard_agg w .neq 51 x y xs ys (by kernel_rfl)

set_option maxHeartbeats 400000 in
set_option maxRecDepth 100000 in
theorem equal_same (A1 A2 : Option Addr) (c1 c2 : Nat) (l : List Pr) (w : World) (h1 : PS w w.heap.size A1 l) (h2 : PS w w.heap.size A2 l) (hl : l.length < 4611686018427387904) :
    Calls Tryz.prog 15 #[.slice A1 l.length c1, .slice A2 l.length c2] w fun e w' => e = .returned (.bool true) ∧ Below w.heap.size w w' := by
  have d0 : ((l.length : Int) != (l.length : Int)) = false := by simp
  go_enter Tryz.func15, Tryz.ntmps15
  go_wp2_with fail
  go_loopw [13] (fun i wr => ∃ k : Nat, k ≤ l.length ∧ i = .int .i64 k ∧ Below w.heap.size w wr) (fun i _ => l.length - (intOf i).toNat)
  case atStart => exact ⟨0, Nat.zero_le _, rfl, Below.refl _ _⟩
  case round =>
    obtain ⟨k, hk, rfl, hb⟩ := hrel
    by_cases hlt : k < l.length
    · obtain ⟨b, o, rfl, hbl, q1, q2⟩ := h1.below hb k _ (List.getElem?_eq_getElem hlt)
      obtain ⟨b', o', rfl, hbl', q3, q4⟩ := h2.below hb k _ (List.getElem?_eq_getElem hlt)
      clear h1 h2
      generalize l[k] = p at q1 q2 q3 q4
      have g1 : (0 : Int) ≤ (k : Int) := by omega
      have g2 : (k : Int) < (l.length : Int) := by omega
      have n1 := run_neq_pair p.1 p.2
      have n2 := guard_pair
      go_wp2_with fail
      go_quiet (fail)
      go_wp2_with fail
      go_roundw
      case rel => exact ⟨k + 1, by omega, by go_num, ⟨hb.os, hb.tape, hb.output, hb.size, hb.block⟩⟩
      case measure => simp [intOf]; omega
    · go_wp2_with fail
      go_ret
      exact ⟨rfl, hb⟩
end Go.Proofs.YtpefdonhacmaoaaGreat

set_option linter.unusedVariables false
set_option linter.unusedSimpArgs false
namespace Go.Proofs.YtpefdonhacmaoaaGreat
open Go.RowKit

theorem cellsOf_len (l : List Pr) : (cellsOf l).length = l.length * 2 := by
  induction l with
  | nil => rfl
  | cons p r ih => simp [cellsOf] at *; omega
theorem take_set2 {α : Type} (L : List α) (a : Nat) (x y : α) (h : a + 1 < L.length) : ((L.set a x).set (a + 1) y).take (a + 2) = L.take a ++ [x, y] := by
  apply List.ext_getElem?
  intro j
  rw [List.getElem?_take, List.getElem?_append, List.length_take, Nat.min_eq_left (by omega)]
  by_cases h1 : j < a
  · rw [if_pos (by omega), if_pos h1, List.getElem?_set_ne (by omega), List.getElem?_set_ne (by omega), List.getElem?_take, if_pos h1]
  · rw [if_neg h1]
    by_cases h2 : j = a
    · subst h2
      rw [if_pos (by omega), List.getElem?_set_ne (by omega), List.getElem?_set_self (by omega)]
      simp
    · by_cases h3 : j = a + 1
      · subst h3
        rw [if_pos (by omega), List.getElem?_set_self (by simp; omega)]
        simp
      · rw [if_neg (by omega), List.getElem?_eq_none (by simp; omega)]
/-- the head of a row -/
theorem OV.head {w : World} {B : Nat} {A : Option Addr} {c : Nat} {l r : List Pr} (h : OV w B A c (l ++ r)) (hA : A ≠ none) : OV w B A c l := by
  rcases h.2 with ⟨hv, _⟩ | ⟨g, cap, cur, hv, hB, hg, hn, hm, hs, ht⟩
  · injection hv with e; exact absurd e hA
  · injection hv with e1 e2 e3
    subst e1; subst e3
    refine ⟨cellsOf_len l, .inr ⟨g, c, cur, rfl, hB, hg, by rw [List.length_append] at hn; omega, hm, hs, ?_⟩⟩
    have h2 : cur.toList.take ((l ++ r).length * 2) = cellsOf l ++ cellsOf r := by rw [ht, cellsOf_append]
    have h3 := congrArg (List.take (l.length * 2)) h2
    rw [List.take_take, Nat.min_eq_left (by rw [List.length_append]; omega), List.take_append_of_le_length (by rw [cellsOf_len]; exact Nat.le_refl _)] at h3
    exact h3.trans (List.take_of_length_le (by rw [cellsOf_len]; exact Nat.le_refl _))
/-- one more pair, in the room behind a row -/
theorem OV.push {w : World} {B g c : Nat} {l : List Pr} (h : OV w B (some ⟨g, 0, none⟩) c l) (hlt : l.length < c) (k : ByteArray) (z : Int) :
    (∃ v0 v1, w.cell? ⟨g, l.length * 2, none⟩ = some v0 ∧ (w.setCell ⟨g, l.length * 2, none⟩ (.string k)).cell? ⟨g, l.length * 2 + 1, none⟩ = some v1) ∧ w.frozen? ⟨g, l.length * 2, none⟩ = false ∧ (w.setCell ⟨g, l.length * 2, none⟩ (.string k)).frozen? ⟨g, l.length * 2 + 1, none⟩ = false ∧
      OV ((w.setCell ⟨g, l.length * 2, none⟩ (.string k)).setCell ⟨g, l.length * 2 + 1, none⟩ (.int .i64 z)) B (some ⟨g, 0, none⟩) c (l ++ [(k, z)]) := by
  rcases h.2 with ⟨hv, _⟩ | ⟨g', cap, cur, hv, hB, hg, hn, hm, hs, ht⟩
  · injection hv with e; cases e
  · injection hv with e1 e2 e3
    injection e1 with e1
    injection e1 with e1 _ _
    subst e1; subst e3
    have hbx : Box w g 51 cur := hg
    have hi0 : l.length * 2 < cur.size := by omega
    have hi1 : l.length * 2 + 1 < cur.size := by omega
    have o1 := hbx.set (l.length * 2) (.string k)
    have o2 := o1.set (l.length * 2 + 1) (.int .i64 z)
    refine ⟨⟨cur[l.length * 2], cur[l.length * 2 + 1], hbx.cell _ (by simp [hi0]), o1.cell _ (by rw [Array.getElem?_setIfInBounds_ne (by omega)]; simp [hi1])⟩, hbx.frozen _, o1.frozen _, ?_⟩
    refine ⟨cellsOf_len _, .inr ⟨g, c, _, rfl, hB, o2, by simp; omega, hm, by simp [hs], ?_⟩⟩
    rw [cellsOf_append, ← ht]
    have := take_set2 cur.toList (l.length * 2) (.string k) (.int .i64 z) (by rw [Array.length_toList]; exact hi1)
    rw [show (l ++ [(k, z)]).length * 2 = l.length * 2 + 2 by simp; omega]
    simpa [cellsOf] using this
/-- a row with room behind it, in which a pair stands three times -/
def RetRm (w : World) (l : List Pr) (x : Pr) (e : Ending) (w' : World) : Prop := ∃ g, e = .returned (.slice (some ⟨g, 0, none⟩) l.length (l.length + 3)) ∧ OV w' w.heap.size (some ⟨g, 0, none⟩) (l.length + 3) (l ++ List.replicate 3 x) ∧ Below w.heap.size w w'
structure RmH (w : World) (g : Nat) (l : List Pr) (x : Pr) (k : Nat) (gx : Nat) (wr : World) : Prop where
  ov : OV wr w.heap.size (some ⟨g, 0, none⟩) (l.length + 3) (l ++ List.replicate k x)
  bx : Box wr gx 51 #[.string x.1, .int .i64 x.2]
  ne : g ≠ gx
  be : Below w.heap.size w wr
def RmI (w : World) (g : Nat) (l : List Pr) (x : Pr) (gx : Nat) (i : Value) (wr : World) : Prop := ∃ k : Nat, k ≤ 3 ∧ i = .int .i64 k ∧ RmH w g l x k gx wr

set_option maxHeartbeats 2000000 in
set_option maxRecDepth 100000 in
theorem roomyP_any (A : Option Addr) (c : Nat) (l : List Pr) (x : Pr) (w : World) (hA : SV w A c l) (hn : l.length * 24 ≤ 140737488351232) :
    Calls Tryz.prog 17 #[.slice A l.length c, .agg #[.string x.1, .int .i64 x.2]] w (RetRm w l x) := by
  obtain ⟨i0, hi, hz0, hz1, hz2⟩ := info_parts pairInfo
  have hb0 := (Below.refl w.heap.size w).alloc (Nat.le_refl _) (.cells #[.string x.1, .int .i64 x.2] 51)
  have hx0 := Box.new w 51 #[.string x.1, .int .i64 x.2]
  have hA0 := hA.below hb0
  obtain ⟨w1, hmk, ho1, hg1⟩ := run_make_own (P := Tryz.prog) (w.alloc (.cells #[.string x.1, .int .i64 x.2] 51)) w.heap.size 33 51 i0 _ 2 Tryz.underlying33 hi hz0 hz1 .i64 .i64 (l.length + 3) (by rw [hz2]; omega) (by unfold maxLen; omega) hb0.size
  rw [World.size_alloc] at hmk ho1
  have hb1 : Below w.heap.size w w1 := hb0.grown hg1 hb0.size (fun j hj => by cases hj)
  have hA1 : SV w1 A c l := hA.below hb1
  have hx1 : Box w1 w.heap.size 51 #[.string x.1, .int .i64 x.2] := hx0.grown hg1 (by simp)
  obtain ⟨w2, happ, ho2, hb2, hx2⟩ : ∃ w2, (Builtin.append_ #[33, 33] 33 #[.slice (some ⟨w.heap.size + 1, 0, none⟩) 0 (l.length + 3), .slice A l.length c]).run Tryz.prog w1 = .ok (.slice (some ⟨w.heap.size + 1, 0, none⟩) l.length (l.length + 3)) w2 ∧ OV w2 w.heap.size (some ⟨w.heap.size + 1, 0, none⟩) (l.length + 3) l ∧ Below w.heap.size w w2 ∧ Box w2 w.heap.size 51 #[.string x.1, .int .i64 x.2] := by
    cases A with
    | none =>
      have h0 : c = 0 := hA.none_ rfl
      have hl : l = [] := List.length_eq_zero_iff.1 (by have := hA.le; omega)
      subst h0; subst hl
      exact ⟨w1, run_append_owned_none (P := Tryz.prog) w1 w.heap.size 33 _ 51 i0 2 Tryz.underlying33 hi _ 0 [] ho1, ho1, hb1, hx1⟩
    | some a =>
      have hcell : ∀ j u, (cellsOf l)[j]? = some u → w1.cell? (a.add j) = some u := by
        intro j u hj
        have hl : l ≠ [] := by rintro rfl; simp [cellsOf] at hj
        obtain ⟨b, o, e, _, hcc⟩ := hA1.ps.cells hl
        injection e with e
        subst e
        exact hcc j u hj
      obtain ⟨w2, h1, h2, h3⟩ := run_append_fits (P := Tryz.prog) w1 w.heap.size 33 33 51 i0 2 Tryz.underlying33 hi hz1 (w.heap.size + 1) 0 (l.length + 3) [] ho1 a l.length c (cellsOf l) (cellsOf_len l) hcell (cellsOf_one l) (by omega)
      rw [Nat.zero_add] at h1 h2
      exact ⟨w2, h1, h2, hb1.grown h3 hb1.size (fun j hj => by injection hj with hj; omega), hx1.grown h3 (fun e => by injection e with e; omega)⟩
  rw [show ((l.length + 3 : Nat) : Int) = (l.length : Int) + 3 by omega] at hmk
  have w3 : IntKind.i64.wrap ((l.length : Int) + 3) = (l.length : Int) + 3 := by simp only [IntKind.wrap_i64]; omega
  have hR : RmH w (w.heap.size + 1) l x 0 w.heap.size w2 := ⟨by simpa using ho2, hx2, by omega, hb2⟩
  have HR := hideP happ
  have g0 : (0 : Int) ≤ (l.length : Int) + 3 := by omega
  clear hA hA0 hA1 hx0 hx1 hx2 ho1 ho2 hb0 hb1 hb2 hg1 happ
  go_enter Tryz.func17, Tryz.ntmps17
  go_wp2_with (at_builtin; refine Lib.wpList_append_run _ rfl _ _ _ _ rfl _ _ rfl rfl _ _ HR.out ?_)
  clear HR hmk
  generalize hgx : w.heap.size = gx at hR ⊢
  go_loopw [13] (RmI w (gx + 1) l x gx) (fun i _ => 3 - (intOf i).toNat)
  case atStart => exact ⟨0, by omega, rfl, hR⟩
  case round =>
    clear hR
    obtain ⟨k, hk, rfl, hR⟩ := hrel
    by_cases hk3 : k < 3
    · have g1 : (k : Int) < 3 := by omega
      have hll : (l ++ List.replicate k x).length = l.length + k := by simp
      have hR2 : RmH w (gx + 1) l x k gx wr.drew := ⟨hR.ov, hR.bx, hR.ne, hR.be.drew⟩
      have z0 := hR.bx.cell 0 (v := .string x.1) rfl
      have z1 := hR.bx.cell 1 (v := .int .i64 x.2) rfl
      have wk : IntKind.i64.wrap ((l.length : Int) + (k : Int)) = (l.length : Int) + (k : Int) := by simp only [IntKind.wrap_i64]; omega
      have g2 : (0 : Int) ≤ (l.length : Int) + (k : Int) := by omega
      have g3 : (l.length : Int) + (k : Int) < (l.length : Int) + 3 := by omega
      have g4 : ((l.length : Int) + (k : Int)).toNat = l.length + k := by omega
      have g5 : ((l.length : Int) + 3).toNat = l.length + 3 := by omega
      clear hR
      go_wp2_with fail
      go_still_tail 11, (by kernel_rfl)
      change wpList _ _ _ _ _ wr.drew
      clear z0 z1
      generalize wr.drew = w4 at hR2 ⊢
      obtain ⟨⟨v0, v1, d0, d1⟩, f0, f1, hp⟩ := hR2.ov.push (by rw [hll]; omega) x.1 x.2
      rw [hll] at d0 d1 f0 f1 hp
      have hX : (l ++ List.replicate k x) ++ [(x.1, x.2)] = l ++ List.replicate (k + 1) x := by rw [List.append_assoc, List.replicate_succ']
      rw [hX] at hp
      have HN : Hid (RmH w (gx + 1) l x (k + 1) gx ((w4.setCell ⟨gx + 1, (l.length + k) * 2, none⟩ (.string x.1)).setCell ⟨gx + 1, (l.length + k) * 2 + 1, none⟩ (.int .i64 x.2))) := hideP ⟨hp, (hR2.bx.other (a := ⟨gx + 1, (l.length + k) * 2, none⟩) (by show gx + 1 ≠ gx; omega) _).other (a := ⟨gx + 1, (l.length + k) * 2 + 1, none⟩) (by show gx + 1 ≠ gx; omega) _, hR2.ne, below_set (below_set hR2.be (by omega)) (by omega)⟩
      clear hp hX
      go_wp2_with fail
      exact ⟨⟨k + 1, by omega, by rw [Int.natCast_add]; rfl, HN.out⟩, by simp only [intOf]; omega⟩
    · have hk4 : k = 3 := by omega
      have h3 : RmH w (gx + 1) l x 3 gx wr := hk4 ▸ hR
      clear hR hk4
      go_wp2_with fail
      go_ret
      exact ⟨gx + 1, rfl, h3.ov, h3.be⟩
end Go.Proofs.YtpefdonhacmaoaaGreat
