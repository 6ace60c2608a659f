/-
  slices.Equal at pairs: two that read the same are equal.
  rokeep.roomy at pairs.
  rokeep.marked at pairs: what stands in the room behind a row.
  Stores as sorted lists, and what Get, Put, Scan and Join make of them (no program in it).
-/
import Derived.Test.YtmepmiokpcddbabGreatDoorCb4
import Derived.WalkKit
import Derived.WalkSpells
import Derived.WalkLawsBesides
import Derived.Deep.QuietTactic
import Derived.BigQuiet
import Derived.Laws.StructEq
import Derived.Test.YtmepmiokpcddbabGreatDoorCb6
import Derived.Laws.OwnMore
import Derived.Laws.MakeOwn
import Derived.Deep.RegionHeld3
import Derived.StillTailTactics
import Derived.Test.YtmepmiokpcddbabGreatDoorCb1
set_option linter.unusedVariables false
set_option linter.unusedSimpArgs false
namespace Go.Proofs.YtmepmiokpcddbabGreatDoor
open Go.RowKit

theorem run_neq_pair (k : ByteArray) (n : Int) (w : World) : (binOp .neq 65 (.agg #[.string k, .int .i64 n]) (.agg #[.string k, .int .i64 n])).run Tryz.prog w = .ok (.bool false) w := by
  have u3 := Tryz.underlying3
  have u9 := Tryz.underlying9
  have a3 := Tryz.isAgg3
  have z3 := Tryz.sizeOf3
  have a9 := Tryz.isAgg9
  have z9 := Tryz.sizeOf9
  have hS : Tryz.prog.underlying 65 = some (.struct (Tryz.prog.fieldsOf 65)) := by kernel_rfl
  have hp : Tryz.prog.stoodInHeld 65 = false := by kernel_rfl
  rw [run_neq_struct, show (10000 : Nat) = 9999 + 1 from rfl, run_equalIn_agg w 9999 65 _ _ hS hp]
  simp only [Program.fieldsOf, Tryz.underlying65]
  go_simp

theorem guard_pair (x y : Operand) (xs ys : Array Value) (w : World) : (eqGuard .neq 65 x y (.agg xs) (.agg ys)).run Tryz.prog w = .ok () w := run_eqGuard_agg w .neq 65 x y xs ys (by kernel_rfl)

set_option maxHeartbeats 400000 in
set_option maxRecDepth 100000 in
theorem equal_same (A1 A2 : Option Addr) (c1 c2 : Nat) (l : List Pr) (w : World) (h1 : PS w w.heap.size A1 l) (h2 : PS w w.heap.size A2 l) (hl : l.length < 4611686018427387904) :
    Calls Tryz.prog 42 #[.slice A1 l.length c1, .slice A2 l.length c2] w fun e w' => e = .returned (.bool true) ∧ Below w.heap.size w w' := by
  have d0 : ((l.length : Int) != (l.length : Int)) = false := by simp
  go_enter Tryz.func42, Tryz.ntmps42
  go_wp2_with fail
  go_loopw [13] (fun i wr => ∃ k : Nat, k ≤ l.length ∧ i = .int .i64 k ∧ Below w.heap.size w wr) (fun i _ => l.length - (intOf i).toNat)
  case atStart => exact ⟨0, Nat.zero_le _, rfl, Below.refl _ _⟩
  case round =>
    obtain ⟨k, hk, rfl, hb⟩ := hrel
    by_cases hlt : k < l.length
    · obtain ⟨b, o, rfl, hbl, q1, q2⟩ := h1.below hb k _ (List.getElem?_eq_getElem hlt)
      obtain ⟨b', o', rfl, hbl', q3, q4⟩ := h2.below hb k _ (List.getElem?_eq_getElem hlt)
      clear h1 h2
      generalize l[k] = p at q1 q2 q3 q4
      have g1 : (0 : Int) ≤ (k : Int) := by omega
      have g2 : (k : Int) < (l.length : Int) := by omega
      have n1 := run_neq_pair p.1 p.2
      have n2 := guard_pair
      go_wp2_with fail
      go_quiet (fail)
      go_wp2_with fail
      go_roundw
      case rel => exact ⟨k + 1, by omega, by go_num, ⟨hb.os, hb.tape, hb.output, hb.size, hb.block⟩⟩
      case measure => simp [intOf]; omega
    · go_wp2_with fail
      go_ret
      exact ⟨rfl, hb⟩
end Go.Proofs.YtmepmiokpcddbabGreatDoor

set_option linter.unusedVariables false
set_option linter.unusedSimpArgs false
namespace Go.Proofs.YtmepmiokpcddbabGreatDoor
open Go.RowKit

theorem cellsOf_len (l : List Pr) : (cellsOf l).length = l.length * 2 := by
  induction l with
  | nil => rfl
  | cons p r ih => simp [cellsOf] at *; omega
/-- the head of a row -/
theorem OV.head {w : World} {B : Nat} {A : Option Addr} {c : Nat} {l r : List Pr} (h : OV w B A c (l ++ r)) (hA : A ≠ none) : OV w B A c l := by
  rcases h.2 with ⟨hv, _⟩ | ⟨g, cap, cur, hv, hB, hg, hn, hm, hs, ht⟩
  · injection hv with e; exact absurd e hA
  · injection hv with e1 e2 e3
    subst e1; subst e3
    refine ⟨cellsOf_len l, .inr ⟨g, c, cur, rfl, hB, hg, by rw [List.length_append] at hn; omega, hm, hs, ?_⟩⟩
    have h2 : cur.toList.take ((l ++ r).length * 2) = cellsOf l ++ cellsOf r := by rw [ht, cellsOf_append]
    have h3 := congrArg (List.take (l.length * 2)) h2
    rw [List.take_take, Nat.min_eq_left (by rw [List.length_append]; omega), List.take_append_of_le_length (by rw [cellsOf_len]; exact Nat.le_refl _)] at h3
    exact h3.trans (List.take_of_length_le (by rw [cellsOf_len]; exact Nat.le_refl _))
/-- one more pair, in the room behind a row -/
theorem OV.push {w : World} {B g c : Nat} {l : List Pr} (h : OV w B (some ⟨g, 0, none⟩) c l) (hlt : l.length < c) (k : ByteArray) (z : Int) :
    (∃ v0 v1, w.cell? ⟨g, l.length * 2, none⟩ = some v0 ∧ (w.setCell ⟨g, l.length * 2, none⟩ (.string k)).cell? ⟨g, l.length * 2 + 1, none⟩ = some v1) ∧ w.frozen? ⟨g, l.length * 2, none⟩ = false ∧ (w.setCell ⟨g, l.length * 2, none⟩ (.string k)).frozen? ⟨g, l.length * 2 + 1, none⟩ = false ∧
      OV ((w.setCell ⟨g, l.length * 2, none⟩ (.string k)).setCell ⟨g, l.length * 2 + 1, none⟩ (.int .i64 z)) B (some ⟨g, 0, none⟩) c (l ++ [(k, z)]) := by
  rcases h.2 with ⟨hv, _⟩ | ⟨g', cap, cur, hv, hB, hg, hn, hm, hs, ht⟩
  · injection hv with e; cases e
  · injection hv with e1 e2 e3
    injection e1 with e1
    injection e1 with e1 _ _
    subst e1; subst e3
    have hbx : Box w g 65 cur := hg
    have hi0 : l.length * 2 < cur.size := by omega
    have hi1 : l.length * 2 + 1 < cur.size := by omega
    have o1 := hbx.set (l.length * 2) (.string k)
    have o2 := o1.set (l.length * 2 + 1) (.int .i64 z)
    refine ⟨⟨cur[l.length * 2], cur[l.length * 2 + 1], hbx.cell _ (by simp [hi0]), o1.cell _ (by rw [Array.getElem?_setIfInBounds_ne (by omega)]; simp [hi1])⟩, hbx.frozen _, o1.frozen _, ?_⟩
    refine ⟨cellsOf_len _, .inr ⟨g, c, _, rfl, hB, o2, by simp; omega, hm, by simp [hs], ?_⟩⟩
    rw [cellsOf_append, ← ht]
    have := take_set2 cur.toList (l.length * 2) (.string k) (.int .i64 z) (by rw [Array.length_toList]; exact hi1)
    rw [show (l ++ [(k, z)]).length * 2 = l.length * 2 + 2 by simp; omega]
    simpa [cellsOf] using this
/-- a row with room behind it, in which a pair stands three times -/
def RetRmP (w : World) (l : List Pr) (x : Pr) (e : Ending) (w' : World) : Prop := ∃ g, e = .returned (.slice (some ⟨g, 0, none⟩) l.length (l.length + 3)) ∧ OV w' w.heap.size (some ⟨g, 0, none⟩) (l.length + 3) (l ++ List.replicate 3 x) ∧ Below w.heap.size w w'
structure RmH (w : World) (g : Nat) (l : List Pr) (x : Pr) (k : Nat) (gx : Nat) (wr : World) : Prop where
  ov : OV wr w.heap.size (some ⟨g, 0, none⟩) (l.length + 3) (l ++ List.replicate k x)
  bx : Box wr gx 65 #[.string x.1, .int .i64 x.2]
  ne : g ≠ gx
  be : Below w.heap.size w wr
def RmIP (w : World) (g : Nat) (l : List Pr) (x : Pr) (gx : Nat) (i : Value) (wr : World) : Prop := ∃ k : Nat, k ≤ 3 ∧ i = .int .i64 k ∧ RmH w g l x k gx wr

set_option maxHeartbeats 2000000 in
set_option maxRecDepth 100000 in
theorem roomyP_any (A : Option Addr) (c : Nat) (l : List Pr) (x : Pr) (w : World) (hA : SV w A c l) (hn : l.length * 24 ≤ 140737488351232) :
    Calls Tryz.prog 32 #[.slice A l.length c, .agg #[.string x.1, .int .i64 x.2]] w (RetRmP w l x) := by
  obtain ⟨i0, hi, hz0, hz1, hz2⟩ := info_parts pairInfo
  have hb0 := (Below.refl w.heap.size w).alloc (Nat.le_refl _) (.cells #[.string x.1, .int .i64 x.2] 65)
  have hx0 := Box.new w 65 #[.string x.1, .int .i64 x.2]
  have hA0 := hA.below hb0
  obtain ⟨w1, hmk, ho1, hg1⟩ := run_make_own (P := Tryz.prog) (w.alloc (.cells #[.string x.1, .int .i64 x.2] 65)) w.heap.size 58 65 i0 _ 2 Tryz.underlying58 hi hz0 hz1 .i64 .i64 (l.length + 3) (by rw [hz2]; omega) (by unfold maxLen; omega) hb0.size
  rw [World.size_alloc] at hmk ho1
  have hb1 : Below w.heap.size w w1 := hb0.grown hg1 hb0.size (fun j hj => by cases hj)
  have hA1 : SV w1 A c l := hA.below hb1
  have hx1 : Box w1 w.heap.size 65 #[.string x.1, .int .i64 x.2] := hx0.grown hg1 (by simp)
  obtain ⟨w2, happ, ho2, hb2, hx2⟩ : ∃ w2, (Builtin.append_ #[58, 58] 58 #[.slice (some ⟨w.heap.size + 1, 0, none⟩) 0 (l.length + 3), .slice A l.length c]).run Tryz.prog w1 = .ok (.slice (some ⟨w.heap.size + 1, 0, none⟩) l.length (l.length + 3)) w2 ∧ OV w2 w.heap.size (some ⟨w.heap.size + 1, 0, none⟩) (l.length + 3) l ∧ Below w.heap.size w w2 ∧ Box w2 w.heap.size 65 #[.string x.1, .int .i64 x.2] := by
    cases A with
    | none =>
      have h0 : c = 0 := hA.none_ rfl
      have hl : l = [] := List.length_eq_zero_iff.1 (by have := hA.le; omega)
      subst h0; subst hl
      exact ⟨w1, run_append_owned_none (P := Tryz.prog) w1 w.heap.size 58 _ 65 i0 2 Tryz.underlying58 hi _ 0 [] ho1, ho1, hb1, hx1⟩
    | some a =>
      have hcell : ∀ j u, (cellsOf l)[j]? = some u → w1.cell? (a.add j) = some u := by
        intro j u hj
        have hl : l ≠ [] := by rintro rfl; simp [cellsOf] at hj
        obtain ⟨b, o, e, _, hcc⟩ := hA1.ps.cells hl
        injection e with e
        subst e
        exact hcc j u hj
      obtain ⟨w2, h1, h2, h3⟩ := run_append_fits (P := Tryz.prog) w1 w.heap.size 58 58 65 i0 2 Tryz.underlying58 hi hz1 (w.heap.size + 1) 0 (l.length + 3) [] ho1 a l.length c (cellsOf l) (cellsOf_len l) hcell (cellsOf_one l) (by omega)
      rw [Nat.zero_add] at h1 h2
      exact ⟨w2, h1, h2, hb1.grown h3 hb1.size (fun j hj => by injection hj with hj; omega), hx1.grown h3 (fun e => by injection e with e; omega)⟩
  rw [show ((l.length + 3 : Nat) : Int) = (l.length : Int) + 3 by omega] at hmk
  have w3 : IntKind.i64.wrap ((l.length : Int) + 3) = (l.length : Int) + 3 := by simp only [IntKind.wrap_i64]; omega
  have hR : RmH w (w.heap.size + 1) l x 0 w.heap.size w2 := ⟨by simpa using ho2, hx2, by omega, hb2⟩
  have HR := hideP happ
  have g0 : (0 : Int) ≤ (l.length : Int) + 3 := by omega
  clear hA hA0 hA1 hx0 hx1 hx2 ho1 ho2 hb0 hb1 hb2 hg1 happ
  go_enter Tryz.func32, Tryz.ntmps32
  go_wp2_with (at_builtin; refine Lib.wpList_append_run _ rfl _ _ _ _ rfl _ _ rfl rfl _ _ HR.out ?_)
  clear HR hmk
  generalize hgx : w.heap.size = gx at hR ⊢
  go_loopw [13] (RmIP w (gx + 1) l x gx) (fun i _ => 3 - (intOf i).toNat)
  case atStart => exact ⟨0, by omega, rfl, hR⟩
  case round =>
    clear hR
    obtain ⟨k, hk, rfl, hR⟩ := hrel
    by_cases hk3 : k < 3
    · have g1 : (k : Int) < 3 := by omega
      have hll : (l ++ List.replicate k x).length = l.length + k := by simp
      have hR2 : RmH w (gx + 1) l x k gx wr.drew := ⟨hR.ov, hR.bx, hR.ne, hR.be.drew⟩
      have z0 := hR.bx.cell 0 (v := .string x.1) rfl
      have z1 := hR.bx.cell 1 (v := .int .i64 x.2) rfl
      have wk : IntKind.i64.wrap ((l.length : Int) + (k : Int)) = (l.length : Int) + (k : Int) := by simp only [IntKind.wrap_i64]; omega
      have g2 : (0 : Int) ≤ (l.length : Int) + (k : Int) := by omega
      have g3 : (l.length : Int) + (k : Int) < (l.length : Int) + 3 := by omega
      have g4 : ((l.length : Int) + (k : Int)).toNat = l.length + k := by omega
      have g5 : ((l.length : Int) + 3).toNat = l.length + 3 := by omega
      clear hR
      go_wp2_with fail
      go_still_tail 11, (by kernel_rfl)
      change wpList _ _ _ _ _ wr.drew
      clear z0 z1
      generalize wr.drew = w4 at hR2 ⊢
      obtain ⟨⟨v0, v1, d0, d1⟩, f0, f1, hp⟩ := hR2.ov.push (by rw [hll]; omega) x.1 x.2
      rw [hll] at d0 d1 f0 f1 hp
      have hX : (l ++ List.replicate k x) ++ [(x.1, x.2)] = l ++ List.replicate (k + 1) x := by rw [List.append_assoc, List.replicate_succ']
      rw [hX] at hp
      have HN : Hid (RmH w (gx + 1) l x (k + 1) gx ((w4.setCell ⟨gx + 1, (l.length + k) * 2, none⟩ (.string x.1)).setCell ⟨gx + 1, (l.length + k) * 2 + 1, none⟩ (.int .i64 x.2))) := hideP ⟨hp, (hR2.bx.other (a := ⟨gx + 1, (l.length + k) * 2, none⟩) (by show gx + 1 ≠ gx; omega) _).other (a := ⟨gx + 1, (l.length + k) * 2 + 1, none⟩) (by show gx + 1 ≠ gx; omega) _, hR2.ne, below_set (below_set hR2.be (by omega)) (by omega)⟩
      clear hp hX
      go_wp2_with fail
      exact ⟨⟨k + 1, by omega, by rw [Int.natCast_add]; rfl, HN.out⟩, by simp only [intOf]; omega⟩
    · have hk4 : k = 3 := by omega
      have h3 : RmH w (gx + 1) l x 3 gx wr := hk4 ▸ hR
      clear hR hk4
      go_wp2_with fail
      go_ret
      exact ⟨gx + 1, rfl, h3.ov, h3.be⟩
end Go.Proofs.YtmepmiokpcddbabGreatDoor

set_option linter.unusedVariables false
set_option linter.unusedSimpArgs false
namespace Go.Proofs.YtmepmiokpcddbabGreatDoor
open Go.RowKit

/-- while the room behind a row is read -/
structure MkH (w : World) (gx : Nat) (x : Pr) (wr : World) : Prop where
  bx : Box wr gx 65 #[.string x.1, .int .i64 x.2]
  be : Below w.heap.size w wr
theorem MkH.below {w wr w' : World} {gx : Nat} {x : Pr} (h : MkH w gx x wr) (hb : Below wr.heap.size wr w') : MkH w gx x w' := ⟨h.bx.below hb, h.be.trans (hb.mono h.be.size)⟩
def MkI (w : World) (gx : Nat) (x : Pr) (i : Value) (wr : World) : Prop := ∃ k : Nat, k ≤ 3 ∧ i = .int .i64 k ∧ MkH w gx x wr

set_option maxHeartbeats 2000000 in
set_option maxRecDepth 100000 in
theorem markP_any (B g : Nat) (l : List Pr) (x : Pr) (w : World) (h : OV w B (some ⟨g, 0, none⟩) (l.length + 3) (l ++ List.replicate 3 x)) (hn : l.length * 24 ≤ 140737488351232) :
    Calls Tryz.prog 43 #[.slice (some ⟨g, 0, none⟩) l.length (l.length + 3), .agg #[.string x.1, .int .i64 x.2]] w fun e w' => e = .returned (.bool true) ∧ Below w.heap.size w w' := by
  have hs := h.sv
  have hR : MkH w w.heap.size x (w.alloc (.cells #[.string x.1, .int .i64 x.2] 65)) := ⟨Box.new _ _ _, (Below.refl w.heap.size w).alloc (Nat.le_refl _) _⟩
  have hsl : ∀ w : World, (Instr.slice 58 (.slice (some ⟨g, 0, none⟩) l.length (l.length + 3)) (some (.int .i64 (l.length : Int))) (some (.int .i64 ((l.length : Int) + 3))) none).run Tryz.prog w = .ok (.slice (some ⟨g, l.length * 2, none⟩) 3 3) w := by
    intro w
    have g5 : ((l.length : Int) + 3).toNat = l.length + 3 := by omega
    have g6 : (0 : Int) ≤ (l.length : Int) + 3 := by omega
    have g7 : l.length ≤ l.length + 3 := by omega
    have g8 : l.length + 3 - l.length = 3 := by omega
    go_simp
    try simp only [g5, g6, g7, g8, if_true]
  clear h
  go_enter Tryz.func43, Tryz.ntmps43
  go_wp2_with fail
  generalize w.alloc _ = w1 at hR ⊢
  generalize hgx : w.heap.size = gx at hR ⊢
  go_loopw [14] (MkI w gx x) (fun i _ => 3 - (intOf i).toNat)
  case atStart => exact ⟨0, by omega, rfl, hR⟩
  case round =>
    clear hR
    obtain ⟨k, hk, rfl, hR⟩ := hrel
    by_cases hk3 : k < 3
    · have g1 : (k : Int) < 3 := by omega
      have g0 : (0 : Int) ≤ (k : Int) := by omega
      obtain ⟨b, o, e, hbl, c1, c2⟩ := (hs.below hR.be).ps (l.length + k) x (by rw [List.getElem?_append_right (by omega), show l.length + k - l.length = k by omega, List.getElem?_replicate, if_pos hk3])
      injection e with e
      injection e with e1 e2 e3
      subst e1; subst e2
      rw [show 0 + (l.length + k) * 2 = l.length * 2 + k * 2 by omega] at c1 c2
      have z0 := (hR.bx.alloc (.cells #[.string x.1, .int .i64 x.2] 65)).cell 0 (v := .string x.1) rfl
      have z1 := (hR.bx.alloc (.cells #[.string x.1, .int .i64 x.2] 65)).cell 1 (v := .int .i64 x.2) rfl
      have n1 := run_neq_pair x.1 x.2
      have n2 := guard_pair
      have hN := hR.below ((Below.refl wr.heap.size wr).alloc (Nat.le_refl _) (.cells #[.string x.1, .int .i64 x.2] 65))
      clear hR
      go_wp2_with fail
      go_roundw
      case rel => exact ⟨k + 1, by omega, by go_num, hN⟩
      case measure => simp [intOf]; omega
    · go_wp2_with fail
      go_ret
      exact ⟨rfl, hR.be⟩
end Go.Proofs.YtmepmiokpcddbabGreatDoor

set_option linter.unusedVariables false
set_option linter.unusedSimpArgs false
namespace Go.Proofs.YtmepmiokpcddbabGreatDoor
open Go.RowKit

/-- a valid store -/
structure Ok (l : List Pr) : Prop where
  srt : l.Pairwise (fun p q => ltB p.1 q.1 = true)
  key : ∀ p ∈ l, keyB p.1 = true
  val : ∀ p ∈ l, valB p.2 = true
  nz : ∀ p ∈ l, p.2 ≠ 0
theorem Ok.nil : Ok [] := ⟨List.Pairwise.nil, by simp, by simp, by simp⟩
theorem key_pos {s : ByteArray} (h : keyB s = true) : ltB ByteArray.empty s = true := by
  rw [ltB_iff]
  have h1 : 1 ≤ s.size := by simp [keyB] at h; exact h.1.1
  have : by8 s ≠ [] := by intro e; have := congrArg List.length e; simp [by8] at this; simp [this] at h1
  have e0 : by8 ByteArray.empty = [] := rfl
  rw [e0]
  cases hs : by8 s with
  | nil => exact absurd hs this
  | cons a r => simp
theorem chk_iff (bf : ByteArray) (l : List Pr) : chk bf l = 0 ↔ (Ok l ∧ ∀ p ∈ l, ltB bf p.1 = true) := by
  induction l generalizing bf with
  | nil => simp [chk, Ok.nil]
  | cons p r ih =>
    constructor
    · intro h
      simp only [chk] at h
      cases h1 : keyB p.1 with
      | false => simp [h1] at h
      | true =>
        cases h2 : valB p.2 with
        | false => simp [h1, h2] at h
        | true =>
          by_cases h3 : p.2 = 0
          · simp [h1, h2, h3] at h
          · cases h4 : leB p.1 bf with
            | true => simp [h1, h2, h3, h4] at h
            | false =>
              simp [h1, h2, h3, h4] at h
              obtain ⟨ok, hall⟩ := (ih p.1).1 h
              have hb := leB_no.1 h4
              refine ⟨⟨List.pairwise_cons.2 ⟨hall, ok.srt⟩, ?_, ?_, ?_⟩, ?_⟩
              · intro q hq; rcases List.mem_cons.1 hq with rfl | hq; exact h1; exact ok.key q hq
              · intro q hq; rcases List.mem_cons.1 hq with rfl | hq; exact h2; exact ok.val q hq
              · intro q hq; rcases List.mem_cons.1 hq with rfl | hq; exact h3; exact ok.nz q hq
              · intro q hq; rcases List.mem_cons.1 hq with rfl | hq; exact hb; exact ltB_trans hb (hall q hq)
    · rintro ⟨ok, hall⟩
      have h1 := ok.key p (by simp)
      have h2 := ok.val p (by simp)
      have h3 := ok.nz p (by simp)
      have h4 := leB_no.2 (hall p (by simp))
      simp only [chk, h1, h2, h3, h4]
      have hs := List.pairwise_cons.1 ok.srt
      have := (ih p.1).2 ⟨⟨hs.2, fun q hq => ok.key q (by simp [hq]), fun q hq => ok.val q (by simp [hq]), fun q hq => ok.nz q (by simp [hq])⟩, hs.1⟩
      simpa using this
theorem chk_ok {l : List Pr} : chk ByteArray.empty l = 0 ↔ Ok l :=
  ⟨fun h => ((chk_iff _ _).1 h).1, fun h => (chk_iff _ _).2 ⟨h, fun p hp => key_pos (h.key p hp)⟩⟩

/-- the value of a key -/
def valOf : List Pr → ByteArray → Int
  | [], _ => 0
  | p :: r, k => if cmpB p.1 k = 0 then p.2 else valOf r k
theorem valOf_nil (k : ByteArray) : valOf [] k = 0 := rfl
theorem valOf_none {l : List Pr} {k : ByteArray} (h : ∀ p ∈ l, p.1 ≠ k) : valOf l k = 0 := by
  induction l with
  | nil => rfl
  | cons p r ih =>
    have : cmpB p.1 k ≠ 0 := fun e => h p (by simp) (cmpB_zero.1 e)
    simp [valOf, this]
    exact ih fun q hq => h q (by simp [hq])
theorem valOf_mem {l : List Pr} (hs : l.Pairwise (fun p q => ltB p.1 q.1 = true)) {p : Pr} (h : p ∈ l) : valOf l p.1 = p.2 := by
  induction l with
  | nil => cases h
  | cons q r ih =>
    have hs' := List.pairwise_cons.1 hs
    rcases List.mem_cons.1 h with rfl | h
    · simp [valOf, cmpB_zero]
    · have : cmpB q.1 p.1 ≠ 0 := fun e => ltB_ne (hs'.1 p h) (cmpB_zero.1 e)
      simp [valOf, this]
      exact ih hs'.2 h
theorem valOf_ne {l : List Pr} {k : ByteArray} (h : valOf l k ≠ 0) : ∃ p ∈ l, p.1 = k := by
  by_cases hh : ∃ p ∈ l, p.1 = k
  · exact hh
  · exact absurd (valOf_none fun p hp e => hh ⟨p, hp, e⟩) h
theorem valOf_append {l m : List Pr} {k : ByteArray} (h : ∀ p ∈ l, p.1 ≠ k) : valOf (l ++ m) k = valOf m k := by
  induction l with
  | nil => rfl
  | cons p r ih =>
    have : cmpB p.1 k ≠ 0 := fun e => h p (by simp) (cmpB_zero.1 e)
    simp [valOf, this]
    exact ih fun q hq => h q (by simp [hq])
/-- two valid stores with the same values are one -/
theorem Ok.ext {l m : List Pr} (hl : Ok l) (hm : Ok m) (h : ∀ k, valOf l k = valOf m k) : l = m := by
  have tail : ∀ {p : Pr} {r : List Pr}, Ok (p :: r) → Ok r := fun h => ⟨(List.pairwise_cons.1 h.srt).2, fun q hq => h.key q (by simp [hq]), fun q hq => h.val q (by simp [hq]), fun q hq => h.nz q (by simp [hq])⟩
  have later : ∀ {p q : Pr} {r : List Pr}, Ok (p :: r) → ltB q.1 p.1 = true → valOf (p :: r) q.1 = 0 := by
    intro p q r h hlt
    refine valOf_none fun x hx e => ?_
    rcases List.mem_cons.1 hx with rfl | hx
    · exact ltB_ne hlt e.symm
    · exact ltB_ne (ltB_trans hlt ((List.pairwise_cons.1 h.srt).1 x hx)) e.symm
  induction l generalizing m with
  | nil =>
    cases m with
    | nil => rfl
    | cons q r => have := h q.1; rw [valOf_mem hm.srt (by simp)] at this; exact absurd this.symm (hm.nz q (by simp))
  | cons p r ih =>
    cases m with
    | nil => have := h p.1; rw [valOf_mem hl.srt (by simp)] at this; exact absurd this (hl.nz p (by simp))
    | cons q s =>
      have hkey : p.1 = q.1 := by
        refine ltB_total ?_ ?_
        · cases hc : ltB p.1 q.1
          · rfl
          · have h1 := h p.1
            rw [valOf_mem hl.srt (by simp), later hm hc] at h1
            exact absurd h1 (hl.nz p (by simp))
        · cases hc : ltB q.1 p.1
          · rfl
          · have h1 := h q.1
            rw [valOf_mem hm.srt (by simp), later hl hc] at h1
            exact absurd h1.symm (hm.nz q (by simp))
      have hval : p.2 = q.2 := by
        have h1 := h p.1
        rw [valOf_mem hl.srt (by simp), hkey, valOf_mem hm.srt (by simp)] at h1
        exact h1
      have hpq : p = q := Prod.ext hkey hval
      subst hpq
      congr 1
      refine ih (tail hl) (tail hm) fun k => ?_
      by_cases hk : p.1 = k
      · subst hk
        rw [valOf_none fun x hx e => ltB_ne ((List.pairwise_cons.1 hl.srt).1 x hx) e.symm, valOf_none fun x hx e => ltB_ne ((List.pairwise_cons.1 hm.srt).1 x hx) e.symm]
      · have := h k
        have hc : cmpB p.1 k ≠ 0 := fun e => hk (cmpB_zero.1 e)
        simpa [valOf, hc] using this

/-- where a key belongs -/
def posOf (l : List Pr) (key : ByteArray) : Nat := (l.takeWhile fun p => ltB p.1 key).length
theorem posOf_at {l : List Pr} (hs : l.Pairwise (fun p q => ltB p.1 q.1 = true)) (key : ByteArray) : At l key (posOf l key) := by
  induction l with
  | nil => exact ⟨by simp [posOf], fun j h => by simp at h, fun j h => by simp at h⟩
  | cons p r ih =>
    have hs' := List.pairwise_cons.1 hs
    have ih := ih hs'.2
    cases hc : ltB p.1 key
    · have h0 : posOf (p :: r) key = 0 := by simp [posOf, List.takeWhile_cons, hc]
      rw [h0]
      refine ⟨Nat.zero_le _, fun j _ hj => by omega, fun j hj _ => ?_⟩
      cases j with
      | zero => exact hc
      | succ j =>
        simp only [List.getElem_cons_succ]
        cases hd : ltB (r[j]'(by simpa using hj)).1 key
        · rfl
        · rw [ltB_trans (hs'.1 _ (List.getElem_mem _)) hd] at hc; cases hc
    · have h0 : posOf (p :: r) key = posOf r key + 1 := by simp [posOf, List.takeWhile_cons, hc]
      rw [h0]
      refine ⟨by have := ih.le; simp; omega, fun j hj hlt => ?_, fun j hj hle => ?_⟩
      · cases j with
        | zero => exact hc
        | succ j => simp only [List.getElem_cons_succ]; exact ih.lo j (by simpa using hj) (by omega)
      · cases j with
        | zero => omega
        | succ j => simp only [List.getElem_cons_succ]; exact ih.hi j (by simpa using hj) (by omega)
/-- what Put makes -/
def putL (l : List Pr) (key : ByteArray) (n : Int) (q : Nat) : List Pr :=
  l.take q ++ ((if n = 0 then [] else [(key, n)]) ++ l.drop (if fnd l key q = true then q + 1 else q))

section
variable {l : List Pr} {key : ByteArray} {q : Nat}
theorem At.ahead (h : At l key q) {p : Pr} (hp : p ∈ l.take q) : ltB p.1 key = true := by
  obtain ⟨j, hj, rfl⟩ := List.mem_iff_getElem.1 hp
  simp only [List.getElem_take]
  simp at hj
  exact h.lo j (by omega) (by omega)
theorem At.behind (h : At l key q) {p : Pr} (hp : p ∈ l.drop q) : ltB p.1 key = false := by
  obtain ⟨j, hj, rfl⟩ := List.mem_iff_getElem.1 hp
  simp only [List.getElem_drop]
  simp at hj
  exact h.hi (q + j) (by omega) (by omega)
theorem fnd_iff (h : q < l.length) : fnd l key q = true ↔ (l[q]).1 = key := by
  simp [fnd, h, cmpB_zero]
theorem fnd_lt (h : fnd l key q = true) : q < l.length := by
  rcases Nat.lt_or_ge q l.length with hlt | hge
  · exact hlt
  · simp [fnd, hge] at h
/-- what lies behind the key's place is greater -/
theorem At.beyond (h : At l key q) (hs : l.Pairwise (fun p q => ltB p.1 q.1 = true)) {p : Pr} (hp : p ∈ l.drop (if fnd l key q = true then q + 1 else q)) : ltB key p.1 = true := by
  by_cases hf : fnd l key q = true
  · rw [if_pos hf] at hp
    have hq := fnd_lt hf
    have hk := (fnd_iff hq).1 hf
    obtain ⟨j, hj, rfl⟩ := List.mem_iff_getElem.1 hp
    simp only [List.getElem_drop]
    simp at hj
    have := List.pairwise_iff_getElem.1 hs q (q + 1 + j) hq (by omega) (by omega)
    rw [hk] at this
    exact this
  · rw [if_neg hf] at hp
    have hb := h.behind hp
    cases hc : ltB key p.1
    · have he := ltB_total hb hc
      obtain ⟨j, hj, hpj⟩ := List.mem_iff_getElem.1 hp
      simp only [List.getElem_drop] at hpj
      simp at hj
      cases j with
      | zero =>
        have hq : q < l.length := by omega
        simp only [Nat.add_zero] at hpj
        exact absurd ((fnd_iff hq).2 (by rw [hpj]; exact he)) hf
      | succ j =>
        have h1 := List.pairwise_iff_getElem.1 hs q (q + (j + 1)) (by omega) (by omega) (by omega)
        rw [hpj, he] at h1
        have h2 := h.hi q (by omega) (by omega)
        rw [h1] at h2; cases h2
    · rfl
theorem valOf_at (h : At l key q) (hs : l.Pairwise (fun p q => ltB p.1 q.1 = true)) : valOf l key = if hf : fnd l key q = true then (l[q]'(fnd_lt hf)).2 else 0 := by
  by_cases hf : fnd l key q = true
  · rw [dif_pos hf]
    have hq := fnd_lt hf
    have hk := (fnd_iff hq).1 hf
    have := valOf_mem hs (List.getElem_mem hq)
    rw [hk] at this
    exact this
  · rw [dif_neg hf]
    refine valOf_none fun p hp e => ?_
    rw [← List.take_append_drop q l] at hp
    rcases List.mem_append.1 hp with hp | hp
    · exact ltB_ne (h.ahead hp) e
    · have := h.beyond hs (p := p) (by rw [if_neg hf]; exact hp)
      exact ltB_ne this e.symm
theorem putL_ok (hl : Ok l) (h : At l key q) (hk : keyB key = true) {n : Int} (hn : valB n = true) : Ok (putL l key n q) ∧ ∀ k, valOf (putL l key n q) k = if k = key then n else valOf l k := by
  have sub1 : (l.take q).Sublist l := List.take_sublist _ _
  have sub2 : (l.drop (if fnd l key q = true then q + 1 else q)).Sublist l := List.drop_sublist _ _
  have hm : ∀ p ∈ putL l key n q, p ∈ l ∨ (n ≠ 0 ∧ p = (key, n)) := by
    intro p hp
    unfold putL at hp
    rcases List.mem_append.1 hp with hp | hp
    · exact .inl (sub1.subset hp)
    · rcases List.mem_append.1 hp with hp | hp
      · by_cases h0 : n = 0
        · simp [h0] at hp
        · simp [h0] at hp; exact .inr ⟨h0, hp⟩
      · exact .inl (sub2.subset hp)
  have hsrt : (putL l key n q).Pairwise (fun p q => ltB p.1 q.1 = true) := by
    unfold putL
    rw [List.pairwise_append, List.pairwise_append]
    refine ⟨hl.srt.sublist sub1, ⟨?_, hl.srt.sublist sub2, ?_⟩, ?_⟩
    · by_cases h0 : n = 0 <;> simp [h0]
    · intro a ha b hb
      by_cases h0 : n = 0
      · simp [h0] at ha
      · simp [h0] at ha; subst ha; exact h.beyond hl.srt hb
    · intro a ha b hb
      rcases List.mem_append.1 hb with hb | hb
      · by_cases h0 : n = 0
        · simp [h0] at hb
        · simp [h0] at hb; subst hb; exact h.ahead ha
      · exact ltB_trans (h.ahead ha) (h.beyond hl.srt hb)
  refine ⟨⟨hsrt, ?_, ?_, ?_⟩, fun k => ?_⟩
  · intro p hp; rcases hm p hp with hp | ⟨_, rfl⟩; exact hl.key p hp; exact hk
  · intro p hp; rcases hm p hp with hp | ⟨_, rfl⟩; exact hl.val p hp; exact hn
  · intro p hp; rcases hm p hp with hp | ⟨h0, rfl⟩; exact hl.nz p hp; exact h0
  · by_cases hkk : k = key
    · subst hkk
      rw [if_pos rfl]
      by_cases h0 : n = 0
      · rw [h0]
        refine valOf_none fun p hp e => ?_
        unfold putL at hp
        simp only [if_pos h0, List.nil_append] at hp
        rcases List.mem_append.1 hp with hp | hp
        · exact ltB_ne (h.ahead hp) e
        · exact ltB_ne (h.beyond hl.srt hp) e.symm
      · have hin : (k, n) ∈ putL l k n q := by unfold putL; simp [h0]
        exact valOf_mem hsrt hin
    · rw [if_neg hkk]
      by_cases hv : ∃ p ∈ l, p.1 = k
      · obtain ⟨p, hp, rfl⟩ := hv
        rw [valOf_mem hl.srt hp]
        refine valOf_mem hsrt ?_
        have hp' : p ∈ l.take q ++ l.drop q := by rw [List.take_append_drop]; exact hp
        unfold putL
        rcases List.mem_append.1 hp' with hp1 | hp1
        · simp [hp1]
        · by_cases hf : fnd l key q = true
          · rw [if_pos hf]
            have hq := fnd_lt hf
            rw [List.drop_eq_getElem_cons hq] at hp1
            rcases List.mem_cons.1 hp1 with rfl | hp1
            · exact absurd ((fnd_iff hq).1 hf) hkk
            · simp [hp1]
          · rw [if_neg hf]; simp [hp1]
      · rw [valOf_none fun p hp e => hv ⟨p, hp, e⟩]
        refine valOf_none fun p hp e => ?_
        rcases hm p hp with hp | ⟨_, rfl⟩
        · exact hv ⟨p, hp, e⟩
        · exact hkk e.symm
end
end Go.Proofs.YtmepmiokpcddbabGreatDoor
