/-
  Rows of one-cell values with room behind them (no body of the program in it).
  rokeep.roomy and rokeep.marked at string.
  rokeep.roomy and rokeep.marked at int.
  Lists: two cells behind the first ones.
  The block of a slice (no program in it).
  Lists of pairs in memory: their cells, rows of the call's own, append (no body of the program in it).
  A pair in a slice of one.
-/
import Derived.Test.YtmepmiokpcddbabGreatDoorCb2
import Derived.Test.YtmepmiokpcddbabGreatDoorCb3
import Derived.WalkKit
import Derived.WalkSpells
import Derived.WalkLawsBesides
import Derived.Laws.OwnMore
import Derived.Laws.MakeOwn
import Derived.OwnWalk
import Derived.Test.YtmepmiokpcddbabGreatDoorCb1
import Derived.Test.YtmepmiokpcddbabGreatDoorProg
import Derived.Maps.AppendAt
import Derived.Deep.AppendLies
import Derived.Lib.AppendZerosOnto
set_option linter.unusedVariables false
set_option linter.unusedSimpArgs false
namespace Go.Proofs.YtmepmiokpcddbabGreatDoor
open Go.RowKit

theorem OR.head {w : World} {B : Nat} {t : TypeId} {A : Option Addr} {c : Nat} {l r : List Value} (h : OR w B t A c (l ++ r)) (hA : A ≠ none) : OR w B t A c l := by
  rcases h.2 with ⟨hv, _⟩ | ⟨g, cap, cur, hv, hB, hg, hn, hm, hs, ht⟩
  · injection hv with e; exact absurd e hA
  · injection hv with e1 e2 e3
    subst e1; subst e3
    refine ⟨(Nat.mul_one _).symm, .inr ⟨g, c, cur, rfl, hB, hg, by rw [List.length_append] at hn; omega, hm, hs, ?_⟩⟩
    rw [Nat.mul_one] at ht ⊢
    have h3 := congrArg (List.take l.length) ht
    rw [List.take_take, Nat.min_eq_left (by rw [List.length_append]; omega), List.take_append_of_le_length (Nat.le_refl _)] at h3
    exact h3.trans (List.take_of_length_le (Nat.le_refl _))
theorem OR.push {w : World} {B g c : Nat} {t : TypeId} {l : List Value} (h : OR w B t (some ⟨g, 0, none⟩) c l) (hlt : l.length < c) (v : Value) :
    (∃ v0, w.cell? ⟨g, l.length, none⟩ = some v0) ∧ w.frozen? ⟨g, l.length, none⟩ = false ∧ OR (w.setCell ⟨g, l.length, none⟩ v) B t (some ⟨g, 0, none⟩) c (l ++ [v]) := by
  rcases h.2 with ⟨hv, _⟩ | ⟨g', cap, cur, hv, hB, hg, hn, hm, hs, ht⟩
  · injection hv with e; cases e
  · injection hv with e1 e2 e3
    injection e1 with e1
    injection e1 with e1 _ _
    subst e1; subst e3
    have hbx : Box w g t cur := hg
    have hi0 : l.length < cur.size := by omega
    have o1 := hbx.set l.length v
    refine ⟨⟨cur[l.length], hbx.cell _ (by simp [hi0])⟩, hbx.frozen _, ?_⟩
    refine ⟨(Nat.mul_one _).symm, .inr ⟨g, c, _, rfl, hB, o1, by simp; omega, hm, by simp [hs], ?_⟩⟩
    rw [Nat.mul_one] at ht ⊢
    rw [List.length_append, List.length_singleton, Array.toList_setIfInBounds]
    apply List.ext_getElem?
    intro j
    rw [List.getElem?_take]
    by_cases h1 : j < l.length
    · rw [if_pos (by omega), List.getElem?_set_ne (by omega), List.getElem?_append_left h1, ← ht, List.getElem?_take, if_pos h1]
    · rw [List.getElem?_append_right (by omega)]
      by_cases h2 : j = l.length
      · subst h2
        rw [if_pos (by omega), List.getElem?_set_self (by rw [Array.length_toList]; exact hi0)]
        simp
      · rw [if_neg (by omega), List.getElem?_eq_none (by simp; omega)]
end Go.Proofs.YtmepmiokpcddbabGreatDoor

set_option linter.unusedVariables false
set_option linter.unusedSimpArgs false
namespace Go.Proofs.YtmepmiokpcddbabGreatDoor
open Go.RowKit

/-- a row with room behind it, in which a value stands three times -/
def RetRmS (w : World) (l : List Value) (v : Value) (e : Ending) (w' : World) : Prop := ∃ g, e = .returned (.slice (some ⟨g, 0, none⟩) l.length (l.length + 3)) ∧ OR w' w.heap.size 9 (some ⟨g, 0, none⟩) (l.length + 3) (l ++ List.replicate 3 v) ∧ Below w.heap.size w w'
structure RmHS (w : World) (g : Nat) (l : List Value) (v : Value) (k : Nat) (wr : World) : Prop where
  ov : OR wr w.heap.size 9 (some ⟨g, 0, none⟩) (l.length + 3) (l ++ List.replicate k v)
  be : Below w.heap.size w wr
def RmIS (w : World) (g : Nat) (l : List Value) (v : Value) (i : Value) (wr : World) : Prop := ∃ k : Nat, k ≤ 3 ∧ i = .int .i64 k ∧ RmHS w g l v k wr

set_option maxHeartbeats 2000000 in
set_option maxRecDepth 100000 in
theorem roomyS_any (A : Option Addr) (c : Nat) (l : List Value) (x : ByteArray) (w : World) (hA : VS w A l) (hc : l.length ≤ c) (h0 : A = none → c = 0) (hone : ∀ u ∈ l, u.oneCell' = true) (hn : l.length * 16 ≤ 140737488351232) :
    Calls Tryz.prog 30 #[.slice A l.length c, Value.string x] w (RetRmS w l (Value.string x)) := by
  obtain ⟨i0, hi, hz0, hz1, hz2⟩ := info_parts strInfo
  obtain ⟨w1, hmk, ho1, hg1⟩ := run_make_own (P := Tryz.prog) w w.heap.size 25 9 i0 _ 1 Tryz.underlying25 hi hz0 hz1 .i64 .i64 (l.length + 3) (by rw [hz2]; omega) (by unfold maxLen; omega) (Nat.le_refl _)
  have hb1 : Below w.heap.size w w1 := (Below.refl w.heap.size w).grown hg1 (Nat.le_refl _) (fun j hj => by cases hj)
  have hA1 : VS w1 A l := hA.below hb1
  obtain ⟨w2, happ, ho2, hb2⟩ : ∃ w2, (Builtin.append_ #[25, 25] 25 #[.slice (some ⟨w.heap.size, 0, none⟩) 0 (l.length + 3), .slice A l.length c]).run Tryz.prog w1 = .ok (.slice (some ⟨w.heap.size, 0, none⟩) l.length (l.length + 3)) w2 ∧ OR w2 w.heap.size 9 (some ⟨w.heap.size, 0, none⟩) (l.length + 3) l ∧ Below w.heap.size w w2 := by
    cases A with
    | none =>
      have hc0 : c = 0 := h0 rfl
      have hl : l = [] := List.length_eq_zero_iff.1 (by omega)
      subst hc0; subst hl
      exact ⟨w1, run_append_owned_none (P := Tryz.prog) w1 w.heap.size 25 _ 9 i0 1 Tryz.underlying25 hi _ 0 [] ho1, ho1, hb1⟩
    | some a =>
      have hcell : ∀ j u, l[j]? = some u → w1.cell? (a.add j) = some u := by
        intro j u hj
        obtain ⟨b, o, e, _, hcc⟩ := hA1 j u hj
        injection e with e
        subst e
        rw [Addr.add_lit]; exact hcc
      obtain ⟨w2, h1, h2, h3⟩ := run_append_fits (P := Tryz.prog) w1 w.heap.size 25 25 9 i0 1 Tryz.underlying25 hi hz1 w.heap.size 0 (l.length + 3) [] ho1 a l.length c l (Nat.mul_one _).symm hcell hone (by omega)
      rw [Nat.zero_add] at h1 h2
      exact ⟨w2, h1, h2, hb1.grown h3 hb1.size (fun j hj => by injection hj with hj; omega)⟩
  rw [show ((l.length + 3 : Nat) : Int) = (l.length : Int) + 3 by omega] at hmk
  have w3 : IntKind.i64.wrap ((l.length : Int) + 3) = (l.length : Int) + 3 := by simp only [IntKind.wrap_i64]; omega
  have hR : RmHS w w.heap.size l (Value.string x) 0 w2 := ⟨by simpa using ho2, hb2⟩
  have HR := hideP happ
  have g0 : (0 : Int) ≤ (l.length : Int) + 3 := by omega
  clear hA hA1 ho1 ho2 hb1 hb2 hg1 happ
  go_enter Tryz.func30, Tryz.ntmps30
  go_wp2_with (at_builtin; refine Lib.wpList_append_run _ rfl _ _ _ _ rfl _ _ rfl rfl _ _ HR.out ?_)
  clear HR hmk
  generalize hgx : w.heap.size = gx at hR ⊢
  go_loopw [13] (RmIS w gx l (Value.string x)) (fun i _ => 3 - (intOf i).toNat)
  case atStart => exact ⟨0, by omega, rfl, hR⟩
  case round =>
    clear hR
    obtain ⟨k, hk, rfl, hR⟩ := hrel
    by_cases hk3 : k < 3
    · have g1 : (k : Int) < 3 := by omega
      have hll : (l ++ List.replicate k (Value.string x)).length = l.length + k := by simp
      have wk : IntKind.i64.wrap ((l.length : Int) + (k : Int)) = (l.length : Int) + (k : Int) := by simp only [IntKind.wrap_i64]; omega
      have g2 : (0 : Int) ≤ (l.length : Int) + (k : Int) := by omega
      have g3 : (l.length : Int) + (k : Int) < (l.length : Int) + 3 := by omega
      have g4 : ((l.length : Int) + (k : Int)).toNat = l.length + k := by omega
      have g5 : ((l.length : Int) + 3).toNat = l.length + 3 := by omega
      obtain ⟨⟨v0, d0⟩, f0, hp⟩ := hR.ov.push (by rw [hll]; omega) (Value.string x)
      rw [hll] at d0 f0 hp
      have hX : (l ++ List.replicate k (Value.string x)) ++ [Value.string x] = l ++ List.replicate (k + 1) (Value.string x) := by rw [List.append_assoc, List.replicate_succ']
      rw [hX] at hp
      have HN : Hid (RmHS w gx l (Value.string x) (k + 1) (wr.setCell ⟨gx, l.length + k, none⟩ (Value.string x))) := hideP ⟨hp, below_set hR.be (by omega)⟩
      clear hp hX hR hll
      go_wp2_with fail
      go_roundw
      case rel => exact ⟨k + 1, by omega, by go_num, HN.out⟩
      case measure => simp [intOf]; omega
    · have hk4 : k = 3 := by omega
      have h3 : RmHS w gx l (Value.string x) 3 wr := hk4 ▸ hR
      clear hR hk4
      go_wp2_with fail
      go_ret
      exact ⟨gx, rfl, h3.ov, h3.be⟩
def MkIS (w : World) (i : Value) (wr : World) : Prop := ∃ k : Nat, k ≤ 3 ∧ i = .int .i64 k ∧ wr = w

set_option maxHeartbeats 2000000 in
set_option maxRecDepth 100000 in
theorem markS_any (B g : Nat) (l : List Value) (x : ByteArray) (w : World) (h : OR w B 9 (some ⟨g, 0, none⟩) (l.length + 3) (l ++ List.replicate 3 (Value.string x))) (hn : l.length * 16 ≤ 140737488351232) :
    Calls Tryz.prog 40 #[.slice (some ⟨g, 0, none⟩) l.length (l.length + 3), Value.string x] w fun e w' => e = .returned (.bool true) ∧ w' = w := by
  have hs := h.vs
  have hsl : ∀ w : World, (Instr.slice 25 (.slice (some ⟨g, 0, none⟩) l.length (l.length + 3)) (some (.int .i64 (l.length : Int))) (some (.int .i64 ((l.length : Int) + 3))) none).run Tryz.prog w = .ok (.slice (some ⟨g, l.length, none⟩) 3 3) w := by
    intro w
    have g5 : ((l.length : Int) + 3).toNat = l.length + 3 := by omega
    have g6 : (0 : Int) ≤ (l.length : Int) + 3 := by omega
    have g7 : l.length ≤ l.length + 3 := by omega
    have g8 : l.length + 3 - l.length = 3 := by omega
    go_simp
    try simp only [g5, g6, g7, g8, if_true]
  clear h
  go_enter Tryz.func40, Tryz.ntmps40
  go_wp2_with fail
  go_loopw [14] (MkIS w) (fun i _ => 3 - (intOf i).toNat)
  case atStart => exact ⟨0, by omega, rfl, rfl⟩
  case round =>
    obtain ⟨k, hk, rfl, rfl⟩ := hrel
    by_cases hk3 : k < 3
    · have g1 : (k : Int) < 3 := by omega
      have g0 : (0 : Int) ≤ (k : Int) := by omega
      obtain ⟨b, o, e, hbl, c1⟩ := hs (l.length + k) (Value.string x) (by rw [List.getElem?_append_right (by omega), show l.length + k - l.length = k by omega, List.getElem?_replicate, if_pos hk3])
      injection e with e
      injection e with e1 e2 e3
      subst e1; subst e2
      rw [Nat.zero_add] at c1
      have n1 : (x.toList != x.toList) = false := by simp
      have n2 : (x.toList == x.toList) = true := by simp
      clear hs
      go_wp2_with fail
      go_roundw
      case rel => exact ⟨k + 1, by omega, by go_num, rfl⟩
      case measure => simp [intOf]; omega
    · go_wp2_with fail
      go_ret
      exact ⟨rfl, rfl⟩
end Go.Proofs.YtmepmiokpcddbabGreatDoor

set_option linter.unusedVariables false
set_option linter.unusedSimpArgs false
namespace Go.Proofs.YtmepmiokpcddbabGreatDoor
open Go.RowKit

/-- a row with room behind it, in which a value stands three times -/
def RetRmI (w : World) (l : List Value) (v : Value) (e : Ending) (w' : World) : Prop := ∃ g, e = .returned (.slice (some ⟨g, 0, none⟩) l.length (l.length + 3)) ∧ OR w' w.heap.size 3 (some ⟨g, 0, none⟩) (l.length + 3) (l ++ List.replicate 3 v) ∧ Below w.heap.size w w'
structure RmHI (w : World) (g : Nat) (l : List Value) (v : Value) (k : Nat) (wr : World) : Prop where
  ov : OR wr w.heap.size 3 (some ⟨g, 0, none⟩) (l.length + 3) (l ++ List.replicate k v)
  be : Below w.heap.size w wr
def RmII (w : World) (g : Nat) (l : List Value) (v : Value) (i : Value) (wr : World) : Prop := ∃ k : Nat, k ≤ 3 ∧ i = .int .i64 k ∧ RmHI w g l v k wr

set_option maxHeartbeats 2000000 in
set_option maxRecDepth 100000 in
theorem roomyI_any (A : Option Addr) (c : Nat) (l : List Value) (x : Int) (w : World) (hA : VS w A l) (hc : l.length ≤ c) (h0 : A = none → c = 0) (hone : ∀ u ∈ l, u.oneCell' = true) (hn : l.length * 8 ≤ 140737488351232) :
    Calls Tryz.prog 31 #[.slice A l.length c, Value.int .i64 x] w (RetRmI w l (Value.int .i64 x)) := by
  obtain ⟨i0, hi, hz0, hz1, hz2⟩ := info_parts intInfo
  obtain ⟨w1, hmk, ho1, hg1⟩ := run_make_own (P := Tryz.prog) w w.heap.size 26 3 i0 _ 1 Tryz.underlying26 hi hz0 hz1 .i64 .i64 (l.length + 3) (by rw [hz2]; omega) (by unfold maxLen; omega) (Nat.le_refl _)
  have hb1 : Below w.heap.size w w1 := (Below.refl w.heap.size w).grown hg1 (Nat.le_refl _) (fun j hj => by cases hj)
  have hA1 : VS w1 A l := hA.below hb1
  obtain ⟨w2, happ, ho2, hb2⟩ : ∃ w2, (Builtin.append_ #[26, 26] 26 #[.slice (some ⟨w.heap.size, 0, none⟩) 0 (l.length + 3), .slice A l.length c]).run Tryz.prog w1 = .ok (.slice (some ⟨w.heap.size, 0, none⟩) l.length (l.length + 3)) w2 ∧ OR w2 w.heap.size 3 (some ⟨w.heap.size, 0, none⟩) (l.length + 3) l ∧ Below w.heap.size w w2 := by
    cases A with
    | none =>
      have hc0 : c = 0 := h0 rfl
      have hl : l = [] := List.length_eq_zero_iff.1 (by omega)
      subst hc0; subst hl
      exact ⟨w1, run_append_owned_none (P := Tryz.prog) w1 w.heap.size 26 _ 3 i0 1 Tryz.underlying26 hi _ 0 [] ho1, ho1, hb1⟩
    | some a =>
      have hcell : ∀ j u, l[j]? = some u → w1.cell? (a.add j) = some u := by
        intro j u hj
        obtain ⟨b, o, e, _, hcc⟩ := hA1 j u hj
        injection e with e
        subst e
        rw [Addr.add_lit]; exact hcc
      obtain ⟨w2, h1, h2, h3⟩ := run_append_fits (P := Tryz.prog) w1 w.heap.size 26 26 3 i0 1 Tryz.underlying26 hi hz1 w.heap.size 0 (l.length + 3) [] ho1 a l.length c l (Nat.mul_one _).symm hcell hone (by omega)
      rw [Nat.zero_add] at h1 h2
      exact ⟨w2, h1, h2, hb1.grown h3 hb1.size (fun j hj => by injection hj with hj; omega)⟩
  rw [show ((l.length + 3 : Nat) : Int) = (l.length : Int) + 3 by omega] at hmk
  have w3 : IntKind.i64.wrap ((l.length : Int) + 3) = (l.length : Int) + 3 := by simp only [IntKind.wrap_i64]; omega
  have hR : RmHI w w.heap.size l (Value.int .i64 x) 0 w2 := ⟨by simpa using ho2, hb2⟩
  have HR := hideP happ
  have g0 : (0 : Int) ≤ (l.length : Int) + 3 := by omega
  clear hA hA1 ho1 ho2 hb1 hb2 hg1 happ
  go_enter Tryz.func31, Tryz.ntmps31
  go_wp2_with (at_builtin; refine Lib.wpList_append_run _ rfl _ _ _ _ rfl _ _ rfl rfl _ _ HR.out ?_)
  clear HR hmk
  generalize hgx : w.heap.size = gx at hR ⊢
  go_loopw [13] (RmII w gx l (Value.int .i64 x)) (fun i _ => 3 - (intOf i).toNat)
  case atStart => exact ⟨0, by omega, rfl, hR⟩
  case round =>
    clear hR
    obtain ⟨k, hk, rfl, hR⟩ := hrel
    by_cases hk3 : k < 3
    · have g1 : (k : Int) < 3 := by omega
      have hll : (l ++ List.replicate k (Value.int .i64 x)).length = l.length + k := by simp
      have wk : IntKind.i64.wrap ((l.length : Int) + (k : Int)) = (l.length : Int) + (k : Int) := by simp only [IntKind.wrap_i64]; omega
      have g2 : (0 : Int) ≤ (l.length : Int) + (k : Int) := by omega
      have g3 : (l.length : Int) + (k : Int) < (l.length : Int) + 3 := by omega
      have g4 : ((l.length : Int) + (k : Int)).toNat = l.length + k := by omega
      have g5 : ((l.length : Int) + 3).toNat = l.length + 3 := by omega
      obtain ⟨⟨v0, d0⟩, f0, hp⟩ := hR.ov.push (by rw [hll]; omega) (Value.int .i64 x)
      rw [hll] at d0 f0 hp
      have hX : (l ++ List.replicate k (Value.int .i64 x)) ++ [Value.int .i64 x] = l ++ List.replicate (k + 1) (Value.int .i64 x) := by rw [List.append_assoc, List.replicate_succ']
      rw [hX] at hp
      have HN : Hid (RmHI w gx l (Value.int .i64 x) (k + 1) (wr.setCell ⟨gx, l.length + k, none⟩ (Value.int .i64 x))) := hideP ⟨hp, below_set hR.be (by omega)⟩
      clear hp hX hR hll
      go_wp2_with fail
      go_roundw
      case rel => exact ⟨k + 1, by omega, by go_num, HN.out⟩
      case measure => simp [intOf]; omega
    · have hk4 : k = 3 := by omega
      have h3 : RmHI w gx l (Value.int .i64 x) 3 wr := hk4 ▸ hR
      clear hR hk4
      go_wp2_with fail
      go_ret
      exact ⟨gx, rfl, h3.ov, h3.be⟩
def MkII (w : World) (i : Value) (wr : World) : Prop := ∃ k : Nat, k ≤ 3 ∧ i = .int .i64 k ∧ wr = w

set_option maxHeartbeats 2000000 in
set_option maxRecDepth 100000 in
theorem markI_any (B g : Nat) (l : List Value) (x : Int) (w : World) (h : OR w B 3 (some ⟨g, 0, none⟩) (l.length + 3) (l ++ List.replicate 3 (Value.int .i64 x))) (hn : l.length * 8 ≤ 140737488351232) :
    Calls Tryz.prog 41 #[.slice (some ⟨g, 0, none⟩) l.length (l.length + 3), Value.int .i64 x] w fun e w' => e = .returned (.bool true) ∧ w' = w := by
  have hs := h.vs
  have hsl : ∀ w : World, (Instr.slice 26 (.slice (some ⟨g, 0, none⟩) l.length (l.length + 3)) (some (.int .i64 (l.length : Int))) (some (.int .i64 ((l.length : Int) + 3))) none).run Tryz.prog w = .ok (.slice (some ⟨g, l.length, none⟩) 3 3) w := by
    intro w
    have g5 : ((l.length : Int) + 3).toNat = l.length + 3 := by omega
    have g6 : (0 : Int) ≤ (l.length : Int) + 3 := by omega
    have g7 : l.length ≤ l.length + 3 := by omega
    have g8 : l.length + 3 - l.length = 3 := by omega
    go_simp
    try simp only [g5, g6, g7, g8, if_true]
  clear h
  go_enter Tryz.func41, Tryz.ntmps41
  go_wp2_with fail
  go_loopw [14] (MkII w) (fun i _ => 3 - (intOf i).toNat)
  case atStart => exact ⟨0, by omega, rfl, rfl⟩
  case round =>
    obtain ⟨k, hk, rfl, rfl⟩ := hrel
    by_cases hk3 : k < 3
    · have g1 : (k : Int) < 3 := by omega
      have g0 : (0 : Int) ≤ (k : Int) := by omega
      obtain ⟨b, o, e, hbl, c1⟩ := hs (l.length + k) (Value.int .i64 x) (by rw [List.getElem?_append_right (by omega), show l.length + k - l.length = k by omega, List.getElem?_replicate, if_pos hk3])
      injection e with e
      injection e with e1 e2 e3
      subst e1; subst e2
      rw [Nat.zero_add] at c1
      have n1 : (x != x) = false := by simp
      clear hs
      go_wp2_with fail
      go_roundw
      case rel => exact ⟨k + 1, by omega, by go_num, rfl⟩
      case measure => simp [intOf]; omega
    · go_wp2_with fail
      go_ret
      exact ⟨rfl, rfl⟩
end Go.Proofs.YtmepmiokpcddbabGreatDoor

set_option linter.unusedVariables false
set_option linter.unusedSimpArgs false
namespace Go.Proofs.YtmepmiokpcddbabGreatDoor

theorem take_set2 {α : Type} (L : List α) (a : Nat) (x y : α) (h : a + 1 < L.length) : ((L.set a x).set (a + 1) y).take (a + 2) = L.take a ++ [x, y] := by
  apply List.ext_getElem?
  intro j
  rw [List.getElem?_take, List.getElem?_append, List.length_take, Nat.min_eq_left (by omega)]
  by_cases h1 : j < a
  · rw [if_pos (by omega), if_pos h1, List.getElem?_set_ne (by omega), List.getElem?_set_ne (by omega), List.getElem?_take, if_pos h1]
  · rw [if_neg h1]
    by_cases h2 : j = a
    · subst h2
      rw [if_pos (by omega), List.getElem?_set_ne (by omega), List.getElem?_set_self (by omega)]
      simp
    · by_cases h3 : j = a + 1
      · subst h3
        rw [if_pos (by omega), List.getElem?_set_self (by simp; omega)]
        simp
      · rw [if_neg (by omega), List.getElem?_eq_none (by simp; omega)]
end Go.Proofs.YtmepmiokpcddbabGreatDoor

set_option linter.unusedVariables false
set_option linter.unusedSimpArgs false
namespace Go.Proofs.YtmepmiokpcddbabGreatDoor
open Go.RowKit

/-- the block of a slice's row -/
def blk (A : Option Addr) : Option Nat := A.map (·.block)
theorem ownBlock_slice (A : Option Addr) (n c : Nat) : (Value.slice A n c).ownBlock = blk A := by cases A <;> rfl
end Go.Proofs.YtmepmiokpcddbabGreatDoor

set_option linter.unusedVariables false
set_option linter.unusedSimpArgs false
namespace Go.Proofs.YtmepmiokpcddbabGreatDoor
open Go.RowKit

/-- the cells of a list of pairs -/
def cellsOf : List Pr → List Value
  | [] => []
  | p :: r => .string p.1 :: .int .i64 p.2 :: cellsOf r
theorem cellsOf_length (l : List Pr) : (cellsOf l).length = l.length * 2 := by
  induction l with
  | nil => rfl
  | cons p r ih => simp [cellsOf, ih]; omega
theorem cellsOf_append (l m : List Pr) : cellsOf (l ++ m) = cellsOf l ++ cellsOf m := by
  induction l with
  | nil => rfl
  | cons p r ih => simp [cellsOf, ih]
theorem cellsOf_get (l : List Pr) (i : Nat) (p : Pr) (h : l[i]? = some p) : (cellsOf l)[i * 2]? = some (.string p.1) ∧ (cellsOf l)[i * 2 + 1]? = some (.int .i64 p.2) := by
  induction l generalizing i with
  | nil => simp at h
  | cons q r ih =>
    cases i with
    | zero => simp at h; subst h; simp [cellsOf]
    | succ i => simp at h; have := ih i h; rw [show (i + 1) * 2 = i * 2 + 1 + 1 by omega]; simpa [cellsOf] using this
theorem cellsOf_at (l : List Pr) (j : Nat) (u : Value) (h : (cellsOf l)[j]? = some u) : ∃ i p, l[i]? = some p ∧ (j = i * 2 ∧ u = .string p.1 ∨ j = i * 2 + 1 ∧ u = .int .i64 p.2) := by
  induction l generalizing j with
  | nil => simp [cellsOf] at h
  | cons q r ih =>
    match j with
    | 0 => simp [cellsOf] at h; exact ⟨0, q, rfl, .inl ⟨rfl, h.symm⟩⟩
    | 1 => simp [cellsOf] at h; exact ⟨0, q, rfl, .inr ⟨rfl, h.symm⟩⟩
    | j + 2 =>
      simp [cellsOf] at h
      obtain ⟨i, p, hp, hh⟩ := ih j h
      refine ⟨i + 1, p, by simpa using hp, ?_⟩
      rcases hh with ⟨e, hu⟩ | ⟨e, hu⟩
      · exact .inl ⟨by omega, hu⟩
      · exact .inr ⟨by omega, hu⟩
theorem cellsOf_one (l : List Pr) : ∀ u ∈ cellsOf l, u.oneCell' = true := by
  intro u hu
  obtain ⟨j, hj⟩ := List.mem_iff_getElem?.1 hu
  obtain ⟨i, p, _, h⟩ := cellsOf_at l j u hj
  rcases h with ⟨_, rfl⟩ | ⟨_, rfl⟩ <;> rfl

section
variable {w w' : World} {B : Nat} {A : Option Addr} {l : List Pr}
theorem PS.cells (h : PS w B A l) (hl : l ≠ []) : ∃ b o, A = some ⟨b, o, none⟩ ∧ b < B ∧ ∀ j u, (cellsOf l)[j]? = some u → w.cell? ((⟨b, o, none⟩ : Addr).add j) = some u := by
  cases l with
  | nil => exact absurd rfl hl
  | cons q r =>
    obtain ⟨b, o, e, hlt, _, _⟩ := h 0 q rfl
    refine ⟨b, o, e, hlt, fun j u hj => ?_⟩
    obtain ⟨i, p, hp, hh⟩ := cellsOf_at _ j u hj
    obtain ⟨b', o', e', _, h1, h2⟩ := h i p hp
    rw [e] at e'
    injection e' with e'
    injection e' with eb eo _
    subst eb; subst eo
    rcases hh with ⟨rfl, rfl⟩ | ⟨rfl, rfl⟩
    · rw [Addr.add_lit]; exact h1
    · rw [Addr.add_lit, ← Nat.add_assoc]; exact h2
theorem PS.of_own {base : Nat} {e : TypeId} {v : Value} (h : w.ownsRow base e 2 v l.length (cellsOf l)) : ∃ A c, v = .slice A l.length c ∧ PS w w.heap.size A l := by
  rcases Nat.eq_zero_or_pos l.length with h0 | h0
  · have : l = [] := List.length_eq_zero_iff.1 h0
    subst this
    rcases h.2 with ⟨rfl, _⟩ | ⟨g, cap, cur, rfl, _⟩
    · exact ⟨_, _, rfl, PS.nil⟩
    · exact ⟨_, _, rfl, PS.nil⟩
  · obtain ⟨g, cap, rfl, _, hlt⟩ := h.form h0
    refine ⟨_, _, rfl, fun i p hp => ⟨g, 0, rfl, hlt, ?_⟩⟩
    have hc := h.cells (g := g) rfl
    have hg := cellsOf_get l i p hp
    have h1 := hc _ _ hg.1
    have h2 := hc _ _ hg.2
    rw [Addr.add_lit] at h1 h2
    exact ⟨h1, by rw [Nat.add_assoc]; exact h2⟩
end

/-- a slice of pairs as a value -/
structure SV (w : World) (A : Option Addr) (c : Nat) (l : List Pr) : Prop where
  ps : PS w w.heap.size A l
  le : l.length ≤ c
  cap : c ≤ maxLen
  none_ : A = none → c = 0
  lit : 0 < c → ∀ a, A = some a → ∃ b o, a = ⟨b, o, none⟩
theorem SV.of_own {w : World} {base : Nat} {e : TypeId} {v : Value} {l : List Pr} (h : w.ownsRow base e 2 v l.length (cellsOf l)) : ∃ A c, v = .slice A l.length c ∧ SV w A c l := by
  obtain ⟨A, c, hv, hp⟩ := PS.of_own h
  refine ⟨A, c, hv, hp, ?_, ?_, ?_, ?_⟩
  all_goals
    rcases h.2 with ⟨h1, h0⟩ | ⟨g, cap, cur, h1, _, _, h4, h5, _⟩
    · rw [hv] at h1; injection h1 with a b c; subst a; subst c; simp_all
    · rw [hv] at h1; injection h1 with a b c; subst a; subst c; simp_all
theorem SV.below {w w' : World} {A : Option Addr} {c : Nat} {l : List Pr} (h : SV w A c l) (hb : Below w.heap.size w w') : SV w' A c l :=
  ⟨(h.ps.below hb).more hb.size, h.le, h.cap, h.none_, h.lit⟩
theorem SV.none_nil {w : World} {c : Nat} {l : List Pr} (h : SV w none c l) : l = [] ∧ c = 0 := by
  have := h.none_ rfl
  have := h.le
  exact ⟨List.length_eq_zero_iff.1 (by omega), by assumption⟩
theorem SV.nil (w : World) : SV w none 0 [] := ⟨PS.nil, by simp, by simp, fun _ => rfl, fun _ a h => by cases h⟩
theorem pairInfo : (Tryz.prog.info? 65).map (fun i => (i.zero, i.size, i.bytes)) = some (some (.agg #[.string ByteArray.empty, .int .i64 0]), 2, 24) := by kernel_rfl

set_option maxRecDepth 100000 in
/-- append onto a row of the call's own, whatever the source -/
theorem app_pairs (w : World) (base : Nat) (ty : TypeId) (v : Value) (xs : List Pr) (hown : w.ownsRow base 65 2 v xs.length (cellsOf xs)) (B : Nat) (A : Option Addr) (c : Nat) (l : List Pr)
    (hA : PS w B A l) (h63 : (xs.length + l.length) * 24 ≤ 140737488355328) (hbase : base ≤ w.heap.size) :
    ∃ v' w', (Builtin.append_ #[58, 58] ty #[v, .slice A l.length c]).run Tryz.prog w = .ok v' w' ∧ w'.ownsRow base 65 2 v' (xs ++ l).length (cellsOf (xs ++ l)) ∧ w.grownBy w' v.ownBlock ∧
      (v'.ownBlock = v.ownBlock ∨ v'.ownBlock = some w.heap.size) := by
  obtain ⟨i0, hi, hz0, hz1, hz2⟩ := info_parts pairInfo
  have hm : xs.length + l.length ≤ maxLen := by unfold maxLen; omega
  rw [List.length_append, cellsOf_append]
  cases A with
  | none =>
    have h0 : l = [] := by
      cases l with
      | nil => rfl
      | cons q r => obtain ⟨_, _, e, _⟩ := hA 0 q rfl; cases e
    subst h0
    refine ⟨v, w, ?_, by simpa [cellsOf] using hown, ⟨rfl, rfl, rfl, Nat.le_refl _, fun _ _ _ => rfl⟩, .inl rfl⟩
    rcases hown.2 with ⟨rfl, h0⟩ | ⟨g, cap, cur, rfl, _, _, hnc, _⟩
    · simp [Builtin.append_, run_underlying Tryz.underlying58, sizeOf, typeInfo, hi, Builtin.lenOf, Builtin.firstCells]
    · simp [Builtin.append_, run_underlying Tryz.underlying58, sizeOf, typeInfo, hi, Builtin.lenOf, Builtin.firstCells, hnc, storeCells]
  | some ad =>
    have hc : ∀ j u, (cellsOf l)[j]? = some u → w.cell? (ad.add j) = some u := by
      intro j u hu
      have hl : l ≠ [] := by rintro rfl; simp [cellsOf] at hu
      obtain ⟨b, o, e, _, hcc⟩ := hA.cells hl
      injection e with e
      subst e
      exact hcc j u hu
    obtain ⟨v', w', hrun, h2, h3, _, h5⟩ := run_append_own_at (P := Tryz.prog) w base 58 ty 65 i0 _ 2 24 Tryz.underlying58 hi hz0 hz1 hz2 rfl (by decide) v xs.length (cellsOf xs) hown ad l.length c (cellsOf l)
      (cellsOf_length l) hc (cellsOf_one l) hm h63 hbase
    exact ⟨v', w', hrun, h2, h3, h5⟩

/-- a slice of pairs that the call itself has made: its row lies from block B on -/
def OV (w : World) (B : Nat) (A : Option Addr) (c : Nat) (l : List Pr) : Prop := w.ownsRow B 65 2 (.slice A l.length c) l.length (cellsOf l)
theorem OV.mono {w : World} {B B' : Nat} {A : Option Addr} {c : Nat} {l : List Pr} (h : OV w B A c l) (hB : B' ≤ B) : OV w B' A c l :=
  ⟨h.1, h.2.imp id fun ⟨g, cap, cur, h1, h2, h3⟩ => ⟨g, cap, cur, h1, Nat.le_trans hB h2, h3⟩⟩
theorem OV.below {w w' : World} {B : Nat} {A : Option Addr} {c : Nat} {l : List Pr} (h : OV w B A c l) (hb : Below w.heap.size w w') : OV w' B A c l :=
  ⟨h.1, h.2.imp id fun ⟨g, cap, cur, h1, h2, h3, h4⟩ => ⟨g, cap, cur, h1, h2, (hb.block g (Array.getElem?_eq_some_iff.1 h3).1).trans h3, h4⟩⟩
theorem OV.sv {w : World} {B : Nat} {A : Option Addr} {c : Nat} {l : List Pr} (h : OV w B A c l) : SV w A c l := by
  obtain ⟨A', c', hv, hs⟩ := SV.of_own h
  injection hv with a b d
  subst a; subst d
  exact hs
theorem OV.of_own {w : World} {B : Nat} {v : Value} {l : List Pr} (h : w.ownsRow B 65 2 v l.length (cellsOf l)) : ∃ A c, v = .slice A l.length c ∧ OV w B A c l := by
  obtain ⟨A, c, hv, hs⟩ := SV.of_own h
  subst hv
  exact ⟨A, c, rfl, h⟩
end Go.Proofs.YtmepmiokpcddbabGreatDoor

set_option linter.unusedVariables false
set_option linter.unusedSimpArgs false
namespace Go.Proofs.YtmepmiokpcddbabGreatDoor
open Go.RowKit

theorem PS.one (w : World) (key : ByteArray) (n : Int) (t : TypeId) : PS (w.alloc (.cells #[.string key, .int .i64 n] t)) (w.alloc (.cells #[.string key, .int .i64 n] t)).heap.size (some ⟨w.heap.size, 0, none⟩) [(key, n)] := fun i p hp => by
  cases i with
  | zero => simp at hp; subst hp; exact ⟨w.heap.size, 0, rfl, by simp, by simp, by simp⟩
  | succ i => simp at hp
end Go.Proofs.YtmepmiokpcddbabGreatDoor
