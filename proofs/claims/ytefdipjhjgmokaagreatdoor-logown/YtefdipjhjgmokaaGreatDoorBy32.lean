/-
  rokeep.roomy and rokeep.marked at int.
  Lists: two cells behind the first ones.
-/
import Derived.Test.YtefdipjhjgmokaaGreatDoorBy31
import Derived.Test.YtefdipjhjgmokaaGreatDoorBy1
import Derived.WalkKit
import Derived.WalkSpells
import Derived.WalkLawsBesides
import Derived.Laws.OwnMore
import Derived.Laws.MakeOwn
set_option linter.unusedVariables false
set_option linter.unusedSimpArgs false
namespace Go.Proofs.YtefdipjhjgmokaaGreatDoor
open Go.RowKit

/-- a row with room behind it, in which a value stands three times -/
def RetRmI (w : World) (l : List Value) (v : Value) (e : Ending) (w' : World) : Prop := ∃ g, e = .returned (.slice (some ⟨g, 0, none⟩) l.length (l.length + 3)) ∧ OR w' w.heap.size 3 (some ⟨g, 0, none⟩) (l.length + 3) (l ++ List.replicate 3 v) ∧ Below w.heap.size w w'
structure RmHI (w : World) (g : Nat) (l : List Value) (v : Value) (k : Nat) (wr : World) : Prop where
  ov : OR wr w.heap.size 3 (some ⟨g, 0, none⟩) (l.length + 3) (l ++ List.replicate k v)
  be : Below w.heap.size w wr
def RmII (w : World) (g : Nat) (l : List Value) (v : Value) (i : Value) (wr : World) : Prop := ∃ k : Nat, k ≤ 3 ∧ i = .int .i64 k ∧ RmHI w g l v k wr

set_option maxHeartbeats 2000000 in
set_option maxRecDepth 100000 in
theorem roomyI_any (A : Option Addr) (c : Nat) (l : List Value) (x : Int) (w : World) (hA : VS w A l) (hc : l.length ≤ c) (h0 : A = none → c = 0) (hone : ∀ u ∈ l, u.oneCell' = true) (hn : l.length * 8 ≤ 140737488351232) :
    Calls Tryz.prog 27 #[.slice A l.length c, Value.int .i64 x] w (RetRmI w l (Value.int .i64 x)) := by
  obtain ⟨i0, hi, hz0, hz1, hz2⟩ := info_parts intInfo
  obtain ⟨w1, hmk, ho1, hg1⟩ := run_make_own (P := Tryz.prog) w w.heap.size 22 3 i0 _ 1 Tryz.underlying22 hi hz0 hz1 .i64 .i64 (l.length + 3) (by rw [hz2]; omega) (by unfold maxLen; omega) (Nat.le_refl _)
  have hb1 : Below w.heap.size w w1 := (Below.refl w.heap.size w).grown hg1 (Nat.le_refl _) (fun j hj => by cases hj)
  have hA1 : VS w1 A l := hA.below hb1
  obtain ⟨w2, happ, ho2, hb2⟩ : ∃ w2, (Builtin.append_ #[22, 22] 22 #[.slice (some ⟨w.heap.size, 0, none⟩) 0 (l.length + 3), .slice A l.length c]).run Tryz.prog w1 = .ok (.slice (some ⟨w.heap.size, 0, none⟩) l.length (l.length + 3)) w2 ∧ OR w2 w.heap.size 3 (some ⟨w.heap.size, 0, none⟩) (l.length + 3) l ∧ Below w.heap.size w w2 := by
    cases A with
    | none =>
      have hc0 : c = 0 := h0 rfl
      have hl : l = [] := List.length_eq_zero_iff.1 (by omega)
      subst hc0; subst hl
      exact ⟨w1, run_append_owned_none (P := Tryz.prog) w1 w.heap.size 22 _ 3 i0 1 Tryz.underlying22 hi _ 0 [] ho1, ho1, hb1⟩
    | some a =>
      have hcell : ∀ j u, l[j]? = some u → w1.cell? (a.add j) = some u := by
        intro j u hj
        obtain ⟨b, o, e, _, hcc⟩ := hA1 j u hj
        injection e with e
        subst e
        rw [Addr.add_lit]; exact hcc
      obtain ⟨w2, h1, h2, h3⟩ := run_append_fits (P := Tryz.prog) w1 w.heap.size 22 22 3 i0 1 Tryz.underlying22 hi hz1 w.heap.size 0 (l.length + 3) [] ho1 a l.length c l (Nat.mul_one _).symm hcell hone (by omega)
      rw [Nat.zero_add] at h1 h2
      exact ⟨w2, h1, h2, hb1.grown h3 hb1.size (fun j hj => by injection hj with hj; omega)⟩
  rw [show ((l.length + 3 : Nat) : Int) = (l.length : Int) + 3 by omega] at hmk
  have w3 : IntKind.i64.wrap ((l.length : Int) + 3) = (l.length : Int) + 3 := by simp only [IntKind.wrap_i64]; omega
  have hR : RmHI w w.heap.size l (Value.int .i64 x) 0 w2 := ⟨by simpa using ho2, hb2⟩
  have HR := hideP happ
  have g0 : (0 : Int) ≤ (l.length : Int) + 3 := by omega
  clear hA hA1 ho1 ho2 hb1 hb2 hg1 happ
  go_enter Tryz.func27, Tryz.ntmps27
  go_wp2_with (at_builtin; refine Lib.wpList_append_run _ rfl _ _ _ _ rfl _ _ rfl rfl _ _ HR.out ?_)
  clear HR hmk
  generalize hgx : w.heap.size = gx at hR ⊢
  go_loopw [13] (RmII w gx l (Value.int .i64 x)) (fun i _ => 3 - (intOf i).toNat)
  case atStart => exact ⟨0, by omega, rfl, hR⟩
  case round =>
    clear hR
    obtain ⟨k, hk, rfl, hR⟩ := hrel
    by_cases hk3 : k < 3
    · have g1 : (k : Int) < 3 := by omega
      have hll : (l ++ List.replicate k (Value.int .i64 x)).length = l.length + k := by simp
      have wk : IntKind.i64.wrap ((l.length : Int) + (k : Int)) = (l.length : Int) + (k : Int) := by simp only [IntKind.wrap_i64]; omega
      have g2 : (0 : Int) ≤ (l.length : Int) + (k : Int) := by omega
      have g3 : (l.length : Int) + (k : Int) < (l.length : Int) + 3 := by omega
      have g4 : ((l.length : Int) + (k : Int)).toNat = l.length + k := by omega
      have g5 : ((l.length : Int) + 3).toNat = l.length + 3 := by omega
      obtain ⟨⟨v0, d0⟩, f0, hp⟩ := hR.ov.push (by rw [hll]; omega) (Value.int .i64 x)
      rw [hll] at d0 f0 hp
      have hX : (l ++ List.replicate k (Value.int .i64 x)) ++ [Value.int .i64 x] = l ++ List.replicate (k + 1) (Value.int .i64 x) := by rw [List.append_assoc, List.replicate_succ']
      rw [hX] at hp
      have HN : Hid (RmHI w gx l (Value.int .i64 x) (k + 1) (wr.setCell ⟨gx, l.length + k, none⟩ (Value.int .i64 x))) := hideP ⟨hp, below_set hR.be (by omega)⟩
      clear hp hX hR hll
      go_wp2_with fail
      go_roundw
      case rel => exact ⟨k + 1, by omega, by go_num, HN.out⟩
      case measure => simp [intOf]; omega
    · have hk4 : k = 3 := by omega
      have h3 : RmHI w gx l (Value.int .i64 x) 3 wr := hk4 ▸ hR
      clear hR hk4
      go_wp2_with fail
      go_ret
      exact ⟨gx, rfl, h3.ov, h3.be⟩
def MkII (w : World) (i : Value) (wr : World) : Prop := ∃ k : Nat, k ≤ 3 ∧ i = .int .i64 k ∧ wr = w

set_option maxHeartbeats 2000000 in
set_option maxRecDepth 100000 in
theorem markI_any (B g : Nat) (l : List Value) (x : Int) (w : World) (h : OR w B 3 (some ⟨g, 0, none⟩) (l.length + 3) (l ++ List.replicate 3 (Value.int .i64 x))) (hn : l.length * 8 ≤ 140737488351232) :
    Calls Tryz.prog 31 #[.slice (some ⟨g, 0, none⟩) l.length (l.length + 3), Value.int .i64 x] w fun e w' => e = .returned (.bool true) ∧ w' = w := by
  have hs := h.vs
  have hsl : ∀ w : World, (Instr.slice 22 (.slice (some ⟨g, 0, none⟩) l.length (l.length + 3)) (some (.int .i64 (l.length : Int))) (some (.int .i64 ((l.length : Int) + 3))) none).run Tryz.prog w = .ok (.slice (some ⟨g, l.length, none⟩) 3 3) w := by
    intro w
    have g5 : ((l.length : Int) + 3).toNat = l.length + 3 := by omega
    have g6 : (0 : Int) ≤ (l.length : Int) + 3 := by omega
    have g7 : l.length ≤ l.length + 3 := by omega
    have g8 : l.length + 3 - l.length = 3 := by omega
    go_simp
    try simp only [g5, g6, g7, g8, if_true]
  clear h
  go_enter Tryz.func31, Tryz.ntmps31
  go_wp2_with fail
  go_loopw [14] (MkII w) (fun i _ => 3 - (intOf i).toNat)
  case atStart => exact ⟨0, by omega, rfl, rfl⟩
  case round =>
    obtain ⟨k, hk, rfl, rfl⟩ := hrel
    by_cases hk3 : k < 3
    · have g1 : (k : Int) < 3 := by omega
      have g0 : (0 : Int) ≤ (k : Int) := by omega
      obtain ⟨b, o, e, hbl, c1⟩ := hs (l.length + k) (Value.int .i64 x) (by rw [List.getElem?_append_right (by omega), show l.length + k - l.length = k by omega, List.getElem?_replicate, if_pos hk3])
      injection e with e
      injection e with e1 e2 e3
      subst e1; subst e2
      rw [Nat.zero_add] at c1
      have n1 : (x != x) = false := by simp
      clear hs
      go_wp2_with fail
      go_roundw
      case rel => exact ⟨k + 1, by omega, by go_num, rfl⟩
      case measure => simp [intOf]; omega
    · go_wp2_with fail
      go_ret
      exact ⟨rfl, rfl⟩
end Go.Proofs.YtefdipjhjgmokaaGreatDoor

set_option linter.unusedVariables false
set_option linter.unusedSimpArgs false
namespace Go.Proofs.YtefdipjhjgmokaaGreatDoor

theorem take_set2 {α : Type} (L : List α) (a : Nat) (x y : α) (h : a + 1 < L.length) : ((L.set a x).set (a + 1) y).take (a + 2) = L.take a ++ [x, y] := by
  apply List.ext_getElem?
  intro j
  rw [List.getElem?_take, List.getElem?_append, List.length_take, Nat.min_eq_left (by omega)]
  by_cases h1 : j < a
  · rw [if_pos (by omega), if_pos h1, List.getElem?_set_ne (by omega), List.getElem?_set_ne (by omega), List.getElem?_take, if_pos h1]
  · rw [if_neg h1]
    by_cases h2 : j = a
    · subst h2
      rw [if_pos (by omega), List.getElem?_set_ne (by omega), List.getElem?_set_self (by omega)]
      simp
    · by_cases h3 : j = a + 1
      · subst h3
        rw [if_pos (by omega), List.getElem?_set_self (by simp; omega)]
        simp
      · rw [if_neg (by omega), List.getElem?_eq_none (by simp; omega)]
end Go.Proofs.YtefdipjhjgmokaaGreatDoor
