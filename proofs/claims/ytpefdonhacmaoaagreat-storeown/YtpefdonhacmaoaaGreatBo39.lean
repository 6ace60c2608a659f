/-
  rokeep.marked at pairs: what stands in the room behind a row.
  Rows of one-cell values with room behind them (no body of the program in it).
  rokeep.roomy and rokeep.marked at int.
  Rows of operations and of transactions in memory of the call's own (no body of the program in it).
-/
import Derived.Test.YtpefdonhacmaoaaGreatBo38
import Derived.Test.YtpefdonhacmaoaaGreatBo11
import Derived.Test.YtpefdonhacmaoaaGreatBo17
import Derived.Test.YtpefdonhacmaoaaGreatBo37
import Derived.WalkKit
import Derived.WalkSpells
import Derived.WalkLawsBesides
import Derived.Laws.OwnMore
import Derived.Laws.MakeOwn
import Derived.Test.YtpefdonhacmaoaaGreatBo12
import Derived.Shelf.Sort.Plain
import Derived.Shelf.Slices.CompactS
import Derived.Shelf.Slices.In.SortNone
import Derived.Sort.OwnSorted
import Derived.Lib.OwnBridge
set_option linter.unusedVariables false
set_option linter.unusedSimpArgs false
namespace Go.Proofs.YtpefdonhacmaoaaGreat
open Go.RowKit

/-- while the room behind a row is read -/
structure MkH (w : World) (gx : Nat) (x : Pr) (wr : World) : Prop where
  bx : Box wr gx 51 #[.string x.1, .int .i64 x.2]
  be : Below w.heap.size w wr
theorem MkH.below {w wr w' : World} {gx : Nat} {x : Pr} (h : MkH w gx x wr) (hb : Below wr.heap.size wr w') : MkH w gx x w' := ⟨h.bx.below hb, h.be.trans (hb.mono h.be.size)⟩
def MkI (w : World) (gx : Nat) (x : Pr) (i : Value) (wr : World) : Prop := ∃ k : Nat, k ≤ 3 ∧ i = .int .i64 k ∧ MkH w gx x wr

set_option maxHeartbeats 2000000 in
set_option maxRecDepth 100000 in
theorem markP_any (B g : Nat) (l : List Pr) (x : Pr) (w : World) (h : OV w B (some ⟨g, 0, none⟩) (l.length + 3) (l ++ List.replicate 3 x)) (hn : l.length * 24 ≤ 140737488351232) :
    Calls Tryz.prog 32 #[.slice (some ⟨g, 0, none⟩) l.length (l.length + 3), .agg #[.string x.1, .int .i64 x.2]] w fun e w' => e = .returned (.bool true) ∧ Below w.heap.size w w' := by
  have hs := h.sv
  have hR : MkH w w.heap.size x (w.alloc (.cells #[.string x.1, .int .i64 x.2] 51)) := ⟨Box.new _ _ _, (Below.refl w.heap.size w).alloc (Nat.le_refl _) _⟩
  have hsl : ∀ w : World, (Instr.slice 33 (.slice (some ⟨g, 0, none⟩) l.length (l.length + 3)) (some (.int .i64 (l.length : Int))) (some (.int .i64 ((l.length : Int) + 3))) none).run Tryz.prog w = .ok (.slice (some ⟨g, l.length * 2, none⟩) 3 3) w := by
    intro w
    have g5 : ((l.length : Int) + 3).toNat = l.length + 3 := by omega
    have g6 : (0 : Int) ≤ (l.length : Int) + 3 := by omega
    have g7 : l.length ≤ l.length + 3 := by omega
    have g8 : l.length + 3 - l.length = 3 := by omega
    go_simp
    try simp only [g5, g6, g7, g8, if_true]
  clear h
  go_enter Tryz.func32, Tryz.ntmps32
  go_wp2_with fail
  generalize w.alloc _ = w1 at hR ⊢
  generalize hgx : w.heap.size = gx at hR ⊢
  go_loopw [14] (MkI w gx x) (fun i _ => 3 - (intOf i).toNat)
  case atStart => exact ⟨0, by omega, rfl, hR⟩
  case round =>
    clear hR
    obtain ⟨k, hk, rfl, hR⟩ := hrel
    by_cases hk3 : k < 3
    · have g1 : (k : Int) < 3 := by omega
      have g0 : (0 : Int) ≤ (k : Int) := by omega
      obtain ⟨b, o, e, hbl, c1, c2⟩ := (hs.below hR.be).ps (l.length + k) x (by rw [List.getElem?_append_right (by omega), show l.length + k - l.length = k by omega, List.getElem?_replicate, if_pos hk3])
      injection e with e
      injection e with e1 e2 e3
      subst e1; subst e2
      rw [show 0 + (l.length + k) * 2 = l.length * 2 + k * 2 by omega] at c1 c2
      have z0 := (hR.bx.alloc (.cells #[.string x.1, .int .i64 x.2] 51)).cell 0 (v := .string x.1) rfl
      have z1 := (hR.bx.alloc (.cells #[.string x.1, .int .i64 x.2] 51)).cell 1 (v := .int .i64 x.2) rfl
      have n1 := run_neq_pair x.1 x.2
      have n2 := guard_pair
      have hN := hR.below ((Below.refl wr.heap.size wr).alloc (Nat.le_refl _) (.cells #[.string x.1, .int .i64 x.2] 51))
      clear hR
      go_wp2_with fail
      go_roundw
      case rel => exact ⟨k + 1, by omega, by go_num, hN⟩
      case measure => simp [intOf]; omega
    · go_wp2_with fail
      go_ret
      exact ⟨rfl, hR.be⟩
end Go.Proofs.YtpefdonhacmaoaaGreat

set_option linter.unusedVariables false
set_option linter.unusedSimpArgs false
namespace Go.Proofs.YtpefdonhacmaoaaGreat
open Go.RowKit

theorem OR.head {w : World} {B : Nat} {t : TypeId} {A : Option Addr} {c : Nat} {l r : List Value} (h : OR w B t A c (l ++ r)) (hA : A ≠ none) : OR w B t A c l := by
  rcases h.2 with ⟨hv, _⟩ | ⟨g, cap, cur, hv, hB, hg, hn, hm, hs, ht⟩
  · injection hv with e; exact absurd e hA
  · injection hv with e1 e2 e3
    subst e1; subst e3
    refine ⟨(Nat.mul_one _).symm, .inr ⟨g, c, cur, rfl, hB, hg, by rw [List.length_append] at hn; omega, hm, hs, ?_⟩⟩
    rw [Nat.mul_one] at ht ⊢
    have h3 := congrArg (List.take l.length) ht
    rw [List.take_take, Nat.min_eq_left (by rw [List.length_append]; omega), List.take_append_of_le_length (Nat.le_refl _)] at h3
    exact h3.trans (List.take_of_length_le (Nat.le_refl _))
theorem OR.push {w : World} {B g c : Nat} {t : TypeId} {l : List Value} (h : OR w B t (some ⟨g, 0, none⟩) c l) (hlt : l.length < c) (v : Value) :
    (∃ v0, w.cell? ⟨g, l.length, none⟩ = some v0) ∧ w.frozen? ⟨g, l.length, none⟩ = false ∧ OR (w.setCell ⟨g, l.length, none⟩ v) B t (some ⟨g, 0, none⟩) c (l ++ [v]) := by
  rcases h.2 with ⟨hv, _⟩ | ⟨g', cap, cur, hv, hB, hg, hn, hm, hs, ht⟩
  · injection hv with e; cases e
  · injection hv with e1 e2 e3
    injection e1 with e1
    injection e1 with e1 _ _
    subst e1; subst e3
    have hbx : Box w g t cur := hg
    have hi0 : l.length < cur.size := by omega
    have o1 := hbx.set l.length v
    refine ⟨⟨cur[l.length], hbx.cell _ (by simp [hi0])⟩, hbx.frozen _, ?_⟩
    refine ⟨(Nat.mul_one _).symm, .inr ⟨g, c, _, rfl, hB, o1, by simp; omega, hm, by simp [hs], ?_⟩⟩
    rw [Nat.mul_one] at ht ⊢
    rw [List.length_append, List.length_singleton, Array.toList_setIfInBounds]
    apply List.ext_getElem?
    intro j
    rw [List.getElem?_take]
    by_cases h1 : j < l.length
    · rw [if_pos (by omega), List.getElem?_set_ne (by omega), List.getElem?_append_left h1, ← ht, List.getElem?_take, if_pos h1]
    · rw [List.getElem?_append_right (by omega)]
      by_cases h2 : j = l.length
      · subst h2
        rw [if_pos (by omega), List.getElem?_set_self (by rw [Array.length_toList]; exact hi0)]
        simp
      · rw [if_neg (by omega), List.getElem?_eq_none (by simp; omega)]
end Go.Proofs.YtpefdonhacmaoaaGreat

set_option linter.unusedVariables false
set_option linter.unusedSimpArgs false
namespace Go.Proofs.YtpefdonhacmaoaaGreat
open Go.RowKit

/-- a row with room behind it, in which a value stands three times -/
def RetRmI (w : World) (l : List Value) (v : Value) (e : Ending) (w' : World) : Prop := ∃ g, e = .returned (.slice (some ⟨g, 0, none⟩) l.length (l.length + 3)) ∧ OR w' w.heap.size 3 (some ⟨g, 0, none⟩) (l.length + 3) (l ++ List.replicate 3 v) ∧ Below w.heap.size w w'
structure RmHI (w : World) (g : Nat) (l : List Value) (v : Value) (k : Nat) (wr : World) : Prop where
  ov : OR wr w.heap.size 3 (some ⟨g, 0, none⟩) (l.length + 3) (l ++ List.replicate k v)
  be : Below w.heap.size w wr
def RmII (w : World) (g : Nat) (l : List Value) (v : Value) (i : Value) (wr : World) : Prop := ∃ k : Nat, k ≤ 3 ∧ i = .int .i64 k ∧ RmHI w g l v k wr

set_option maxHeartbeats 2000000 in
set_option maxRecDepth 100000 in
theorem roomyI_any (A : Option Addr) (c : Nat) (l : List Value) (x : Int) (w : World) (hA : VS w A l) (hc : l.length ≤ c) (h0 : A = none → c = 0) (hone : ∀ u ∈ l, u.oneCell' = true) (hn : l.length * 8 ≤ 140737488351232) :
    Calls Tryz.prog 20 #[.slice A l.length c, Value.int .i64 x] w (RetRmI w l (Value.int .i64 x)) := by
  obtain ⟨i0, hi, hz0, hz1, hz2⟩ := info_parts intInfo
  obtain ⟨w1, hmk, ho1, hg1⟩ := run_make_own (P := Tryz.prog) w w.heap.size 22 3 i0 _ 1 Tryz.underlying22 hi hz0 hz1 .i64 .i64 (l.length + 3) (by rw [hz2]; omega) (by unfold maxLen; omega) (Nat.le_refl _)
  have hb1 : Below w.heap.size w w1 := (Below.refl w.heap.size w).grown hg1 (Nat.le_refl _) (fun j hj => by cases hj)
  have hA1 : VS w1 A l := hA.below hb1
  obtain ⟨w2, happ, ho2, hb2⟩ : ∃ w2, (Builtin.append_ #[22, 22] 22 #[.slice (some ⟨w.heap.size, 0, none⟩) 0 (l.length + 3), .slice A l.length c]).run Tryz.prog w1 = .ok (.slice (some ⟨w.heap.size, 0, none⟩) l.length (l.length + 3)) w2 ∧ OR w2 w.heap.size 3 (some ⟨w.heap.size, 0, none⟩) (l.length + 3) l ∧ Below w.heap.size w w2 := by
    cases A with
    | none =>
      have hc0 : c = 0 := h0 rfl
      have hl : l = [] := List.length_eq_zero_iff.1 (by omega)
      subst hc0; subst hl
      exact ⟨w1, run_append_owned_none (P := Tryz.prog) w1 w.heap.size 22 _ 3 i0 1 Tryz.underlying22 hi _ 0 [] ho1, ho1, hb1⟩
    | some a =>
      have hcell : ∀ j u, l[j]? = some u → w1.cell? (a.add j) = some u := by
        intro j u hj
        obtain ⟨b, o, e, _, hcc⟩ := hA1 j u hj
        injection e with e
        subst e
        rw [Addr.add_lit]; exact hcc
      obtain ⟨w2, h1, h2, h3⟩ := run_append_fits (P := Tryz.prog) w1 w.heap.size 22 22 3 i0 1 Tryz.underlying22 hi hz1 w.heap.size 0 (l.length + 3) [] ho1 a l.length c l (Nat.mul_one _).symm hcell hone (by omega)
      rw [Nat.zero_add] at h1 h2
      exact ⟨w2, h1, h2, hb1.grown h3 hb1.size (fun j hj => by injection hj with hj; omega)⟩
  rw [show ((l.length + 3 : Nat) : Int) = (l.length : Int) + 3 by omega] at hmk
  have w3 : IntKind.i64.wrap ((l.length : Int) + 3) = (l.length : Int) + 3 := by simp only [IntKind.wrap_i64]; omega
  have hR : RmHI w w.heap.size l (Value.int .i64 x) 0 w2 := ⟨by simpa using ho2, hb2⟩
  have HR := hideP happ
  have g0 : (0 : Int) ≤ (l.length : Int) + 3 := by omega
  clear hA hA1 ho1 ho2 hb1 hb2 hg1 happ
  go_enter Tryz.func20, Tryz.ntmps20
  go_wp2_with (at_builtin; refine Lib.wpList_append_run _ rfl _ _ _ _ rfl _ _ rfl rfl _ _ HR.out ?_)
  clear HR hmk
  generalize hgx : w.heap.size = gx at hR ⊢
  go_loopw [13] (RmII w gx l (Value.int .i64 x)) (fun i _ => 3 - (intOf i).toNat)
  case atStart => exact ⟨0, by omega, rfl, hR⟩
  case round =>
    clear hR
    obtain ⟨k, hk, rfl, hR⟩ := hrel
    by_cases hk3 : k < 3
    · have g1 : (k : Int) < 3 := by omega
      have hll : (l ++ List.replicate k (Value.int .i64 x)).length = l.length + k := by simp
      have wk : IntKind.i64.wrap ((l.length : Int) + (k : Int)) = (l.length : Int) + (k : Int) := by simp only [IntKind.wrap_i64]; omega
      have g2 : (0 : Int) ≤ (l.length : Int) + (k : Int) := by omega
      have g3 : (l.length : Int) + (k : Int) < (l.length : Int) + 3 := by omega
      have g4 : ((l.length : Int) + (k : Int)).toNat = l.length + k := by omega
      have g5 : ((l.length : Int) + 3).toNat = l.length + 3 := by omega
      obtain ⟨⟨v0, d0⟩, f0, hp⟩ := hR.ov.push (by rw [hll]; omega) (Value.int .i64 x)
      rw [hll] at d0 f0 hp
      have hX : (l ++ List.replicate k (Value.int .i64 x)) ++ [Value.int .i64 x] = l ++ List.replicate (k + 1) (Value.int .i64 x) := by rw [List.append_assoc, List.replicate_succ']
      rw [hX] at hp
      have HN : Hid (RmHI w gx l (Value.int .i64 x) (k + 1) (wr.setCell ⟨gx, l.length + k, none⟩ (Value.int .i64 x))) := hideP ⟨hp, below_set hR.be (by omega)⟩
      clear hp hX hR hll
      go_wp2_with fail
      go_roundw
      case rel => exact ⟨k + 1, by omega, by go_num, HN.out⟩
      case measure => simp [intOf]; omega
    · have hk4 : k = 3 := by omega
      have h3 : RmHI w gx l (Value.int .i64 x) 3 wr := hk4 ▸ hR
      clear hR hk4
      go_wp2_with fail
      go_ret
      exact ⟨gx, rfl, h3.ov, h3.be⟩
def MkII (w : World) (i : Value) (wr : World) : Prop := ∃ k : Nat, k ≤ 3 ∧ i = .int .i64 k ∧ wr = w

set_option maxHeartbeats 2000000 in
set_option maxRecDepth 100000 in
theorem markI_any (B g : Nat) (l : List Value) (x : Int) (w : World) (h : OR w B 3 (some ⟨g, 0, none⟩) (l.length + 3) (l ++ List.replicate 3 (Value.int .i64 x))) (hn : l.length * 8 ≤ 140737488351232) :
    Calls Tryz.prog 35 #[.slice (some ⟨g, 0, none⟩) l.length (l.length + 3), Value.int .i64 x] w fun e w' => e = .returned (.bool true) ∧ w' = w := by
  have hs := h.vs
  have hsl : ∀ w : World, (Instr.slice 22 (.slice (some ⟨g, 0, none⟩) l.length (l.length + 3)) (some (.int .i64 (l.length : Int))) (some (.int .i64 ((l.length : Int) + 3))) none).run Tryz.prog w = .ok (.slice (some ⟨g, l.length, none⟩) 3 3) w := by
    intro w
    have g5 : ((l.length : Int) + 3).toNat = l.length + 3 := by omega
    have g6 : (0 : Int) ≤ (l.length : Int) + 3 := by omega
    have g7 : l.length ≤ l.length + 3 := by omega
    have g8 : l.length + 3 - l.length = 3 := by omega
    go_simp
    try simp only [g5, g6, g7, g8, if_true]
  clear h
  go_enter Tryz.func35, Tryz.ntmps35
  go_wp2_with fail
  go_loopw [14] (MkII w) (fun i _ => 3 - (intOf i).toNat)
  case atStart => exact ⟨0, by omega, rfl, rfl⟩
  case round =>
    obtain ⟨k, hk, rfl, rfl⟩ := hrel
    by_cases hk3 : k < 3
    · have g1 : (k : Int) < 3 := by omega
      have g0 : (0 : Int) ≤ (k : Int) := by omega
      obtain ⟨b, o, e, hbl, c1⟩ := hs (l.length + k) (Value.int .i64 x) (by rw [List.getElem?_append_right (by omega), show l.length + k - l.length = k by omega, List.getElem?_replicate, if_pos hk3])
      injection e with e
      injection e with e1 e2 e3
      subst e1; subst e2
      rw [Nat.zero_add] at c1
      have n1 : (x != x) = false := by simp
      clear hs
      go_wp2_with fail
      go_roundw
      case rel => exact ⟨k + 1, by omega, by go_num, rfl⟩
      case measure => simp [intOf]; omega
    · go_wp2_with fail
      go_ret
      exact ⟨rfl, rfl⟩
end Go.Proofs.YtpefdonhacmaoaaGreat

set_option linter.unusedVariables false
set_option linter.unusedSimpArgs false
namespace Go.Proofs.YtpefdonhacmaoaaGreat
open Go.RowKit

/-- the cells of a list of operations -/
def opCells : List Opr → List Value
  | [] => []
  | o :: r => .int .i64 o.kind :: .string o.key :: .string o.src :: .int .i64 o.n :: opCells r
theorem opCells_length (l : List Opr) : (opCells l).length = l.length * 4 := by
  induction l with
  | nil => rfl
  | cons p r ih => simp [opCells, ih]; omega
theorem opCells_append (l m : List Opr) : opCells (l ++ m) = opCells l ++ opCells m := by
  induction l with
  | nil => rfl
  | cons p r ih => simp [opCells, ih]
theorem opCells_get (l : List Opr) (i : Nat) (p : Opr) (h : l[i]? = some p) : (opCells l)[i * 4]? = some (.int .i64 p.kind) ∧ (opCells l)[i * 4 + 1]? = some (.string p.key) ∧ (opCells l)[i * 4 + 2]? = some (.string p.src) ∧ (opCells l)[i * 4 + 3]? = some (.int .i64 p.n) := by
  induction l generalizing i with
  | nil => simp at h
  | cons q r ih =>
    cases i with
    | zero => simp at h; subst h; simp [opCells]
    | succ i => simp at h; have := ih i h; rw [show (i + 1) * 4 = i * 4 + 1 + 1 + 1 + 1 by omega]; simpa [opCells] using this
theorem opInfo : (Tryz.prog.info? 57).map (fun i => (i.zero, i.size, i.bytes)) = some (some (.agg #[.int .i64 0, .string ByteArray.empty, .string ByteArray.empty, .int .i64 0]), 4, 48) := by kernel_rfl
theorem deedInfo : (Tryz.prog.info? 39).map (fun i => (i.zero, i.size, i.bytes)) = some (some (.agg #[.slice none 0 0]), 1, 24) := by kernel_rfl
/-- a slice of operations that the call itself has made -/
def OO (w : World) (B : Nat) (D : Option Addr) (c : Nat) (d : List Opr) : Prop := w.ownsRow B 57 4 (.slice D d.length c) d.length (opCells d)
section
variable {w w' : World} {B B' : Nat} {D : Option Addr} {c : Nat} {d : List Opr}
theorem OO.mono (h : OO w B D c d) (hB : B' ≤ B) : OO w B' D c d :=
  ⟨h.1, h.2.imp id fun ⟨g, cap, cur, h1, h2, h3⟩ => ⟨g, cap, cur, h1, Nat.le_trans hB h2, h3⟩⟩
theorem OO.below (h : OO w B D c d) (hb : Below w.heap.size w w') : OO w' B D c d :=
  ⟨h.1, h.2.imp id fun ⟨g, cap, cur, h1, h2, h3, h4⟩ => ⟨g, cap, cur, h1, h2, (hb.block g (Array.getElem?_eq_some_iff.1 h3).1).trans h3, h4⟩⟩
theorem OO.nil (w : World) (B : Nat) : OO w B none 0 [] := World.ownsRow_nil w _ _ _
theorem OO.os (h : OO w B D c d) : OS w w.heap.size D d := by
  rcases Nat.eq_zero_or_pos d.length with h0 | h0
  · rw [List.length_eq_zero_iff.1 h0]; exact OS.nil
  · obtain ⟨g, cap, hv, _, hlt⟩ := World.ownsRow.form h h0
    injection hv with a b e
    subst a; subst e
    have hc := h.cells (g := g) rfl
    intro i p hp
    obtain ⟨g1, g2, g3, g4⟩ := opCells_get d i p hp
    have h1 := hc _ _ g1
    have h2 := hc _ _ g2
    have h3 := hc _ _ g3
    have h4 := hc _ _ g4
    rw [Addr.add_lit] at h1 h2 h3 h4
    refine ⟨g, 0, rfl, hlt, h1, ?_, ?_, ?_⟩
    · rw [Nat.add_assoc]; exact h2
    · rw [Nat.add_assoc]; exact h3
    · rw [Nat.add_assoc]; exact h4
theorem OO.lt (h : OO w B D c d) {k : Nat} (hk : blk D = some k) : B ≤ k ∧ k < w.heap.size := World.ownsRow.lt h k (by rw [ownBlock_slice]; exact hk)
theorem OO.some_ (h : OO w B D c d) (hd : d ≠ []) : ∃ k, blk D = some k := by
  obtain ⟨g, cap, hv, _, _⟩ := World.ownsRow.form h (List.length_pos_iff.2 hd)
  injection hv with a b e
  subst a
  exact ⟨g, rfl⟩
end
/-- append of one operation onto such a row -/
theorem app_op (w : World) (base : Nat) (ty : TypeId) (D : Option Addr) (c : Nat) (d : List Opr) (hown : OO w base D c d) (o : Opr) (hl : d.length ≤ 1000) (hbase : base ≤ w.heap.size) :
    ∃ D' c' w', (Builtin.append_ #[37, 37] ty #[.slice D d.length c, .slice (some ⟨w.heap.size, 0, none⟩) 1 1]).run Tryz.prog (w.alloc (.cells #[.int .i64 o.kind, .string o.key, .string o.src, .int .i64 o.n] 57)) = .ok (.slice D' (d ++ [o]).length c') w' ∧ OO w' base D' c' (d ++ [o]) ∧
      (w.alloc (.cells #[.int .i64 o.kind, .string o.key, .string o.src, .int .i64 o.n] 57)).grownBy w' (blk D) ∧ (∀ B a, B ≤ base → Below B a w → Below B a w') ∧ (blk D' = blk D ∨ blk D' = some (w.heap.size + 1)) := by
  obtain ⟨i0, hi, hz0, hz1, hz2⟩ := info_parts opInfo
  have hc : ∀ j u, (opCells [o])[j]? = some u → (w.alloc (.cells (opCells [o]).toArray 57)).cell? ((⟨w.heap.size, 0, none⟩ : Addr).add j) = some u := by
    intro j u hu
    rw [Addr.add_lit]
    simp only [World.cell?]
    rw [heap_alloc_new]
    simp [hu]
  have hown' : (w.alloc (.cells (opCells [o]).toArray 57)).ownsRow base 57 4 (.slice D d.length c) d.length (opCells d) := World.ownsRow.alloc hown _
  obtain ⟨v', w', hrun, h2, h3, _, h5⟩ := run_append_own_at (P := Tryz.prog) (w.alloc (.cells (opCells [o]).toArray 57)) base 37 ty 57 i0 _ 4 48 Tryz.underlying37 hi hz0 hz1 hz2 rfl (by decide) _ d.length (opCells d) hown' ⟨w.heap.size, 0, none⟩ 1 1 (opCells [o]) (by simp [opCells]) hc
    (by intro u hu; simp [opCells] at hu; rcases hu with rfl | rfl | rfl | rfl <;> rfl) (by unfold maxLen; omega) (by omega) (by simp; omega)
  rw [← opCells_append, show d.length + 1 = (d ++ [o]).length by simp] at h2
  obtain ⟨D', c', rfl⟩ : ∃ D' c', v' = .slice D' (d ++ [o]).length c' := by
    rcases h2.2 with ⟨rfl, h0⟩ | ⟨g, cap, cur, rfl, _⟩
    · exact ⟨none, 0, by rw [h0]⟩
    · exact ⟨_, _, rfl⟩
  rw [ownBlock_slice, ownBlock_slice] at h5
  refine ⟨D', c', w', hrun, h2, by rw [ownBlock_slice] at h3; exact h3, fun B a hB hb => ?_, by simpa using h5⟩
  have hb' := hb.alloc (Nat.le_trans hB hbase) (.cells (opCells [o]).toArray 57)
  exact hb'.grown h3 (by simp; omega) fun k hk => Nat.le_trans hB (World.ownsRow.lt hown' k hk).1
end Go.Proofs.YtpefdonhacmaoaaGreat
