/-
  Lists of keys: read and write sets, sorted and without duplicates (no program in it).
  The block of a slice (no program in it).
-/
import Derived.Test.YtpefdonhacmaoaaGreatBo8
import Derived.Test.YtpefdonhacmaoaaGreatBo1
import Derived.Lib.SlicesCompact
import Derived.WalkKit
import Derived.OwnWalk
set_option linter.unusedVariables false
set_option linter.unusedSimpArgs false
namespace Go.Proofs.YtpefdonhacmaoaaGreat
open Go.RowKit

/-- what an operation reads, and writes -/
def rdO (o : Opr) : List ByteArray := if o.kind = 2 then [o.key] else if o.kind = 3 then [o.src] else if o.kind = 4 then [o.key] else if o.kind = 5 then [o.src, o.key] else []
def wrO (o : Opr) : List ByteArray := if o.kind = 4 then [] else if o.kind = 5 then [o.src, o.key] else [o.key]
def rdL (d : List Opr) : List ByteArray := d.flatMap rdO
def wrL (d : List Opr) : List ByteArray := d.flatMap wrO
theorem rdL_take {d : List Opr} {k : Nat} (h : k < d.length) : rdL (d.take (k + 1)) = rdL (d.take k) ++ rdO d[k] := by
  unfold rdL; rw [List.take_succ_eq_append_getElem h, List.flatMap_append]; simp
theorem wrL_take {d : List Opr} {k : Nat} (h : k < d.length) : wrL (d.take (k + 1)) = wrL (d.take k) ++ wrO d[k] := by
  unfold wrL; rw [List.take_succ_eq_append_getElem h, List.flatMap_append]; simp
theorem rdO_len (o : Opr) : (rdO o).length ≤ 2 := by
  unfold rdO
  split
  · simp
  · split
    · simp
    · split
      · simp
      · split <;> simp
theorem wrO_len (o : Opr) : (wrO o).length ≤ 2 := by
  unfold wrO
  split
  · simp
  · split <;> simp
theorem flat_len {f : Opr → List ByteArray} (hf : ∀ o, (f o).length ≤ 2) : ∀ d : List Opr, (d.flatMap f).length ≤ 2 * d.length
  | [] => by simp
  | o :: r => by have := flat_len hf r; have := hf o; simp [List.flatMap_cons] at *; omega
theorem rdL_len (d : List Opr) : (rdL d).length ≤ 2 * d.length := flat_len rdO_len d
theorem wrL_len (d : List Opr) : (wrL d).length ≤ 2 * d.length := flat_len wrO_len d

section
theorem get_bang {α : Type} [Inhabited α] (zs : List α) {m : Nat} (h : m < zs.length) : zs.toArray[m]! = zs[m] := by simp [getElem!_pos, h]
variable {α : Type} [Inhabited α] [DecidableEq α]
theorem upTo_mem (zs : List α) (m : Nat) (hm : m ≤ zs.length) (x : α) : x ∈ Lib.compactUpTo zs.toArray m ↔ x ∈ zs.take m := by
  induction m with
  | zero => simp [Lib.compactUpTo]
  | succ m ih =>
    have hlt : m < zs.length := by omega
    rw [Lib.compactUpTo_succ, List.take_succ_eq_append_getElem hlt, List.mem_append, List.mem_append, ih (by omega), get_bang zs hlt]
    cases hk : Lib.keeps zs.toArray m with
    | true => simp
    | false =>
      simp only [Lib.keeps, decide_eq_false_iff_not, not_or, Decidable.not_not] at hk
      have hp : m - 1 < zs.length := by omega
      rw [get_bang zs hlt, get_bang zs hp] at hk
      constructor
      · rintro (h | h)
        · exact .inl h
        · simp at h
      · rintro (h | h)
        · exact .inl h
        · simp at h
          refine .inl ?_
          rw [h, hk.2]
          exact List.mem_take_iff_getElem.2 ⟨m - 1, by omega, rfl⟩
end
theorem upTo_sorted (zs : List (List UInt8)) (hs : zs.Pairwise (fun a b => ¬ b < a)) (m : Nat) (hm : m ≤ zs.length) : (Lib.compactUpTo zs.toArray m).Pairwise (fun a b => a < b) := by
  induction m with
  | zero => simp [Lib.compactUpTo]
  | succ m ih =>
    have hlt : m < zs.length := by omega
    rw [Lib.compactUpTo_succ, get_bang zs hlt]
    refine List.pairwise_append.2 ⟨ih (by omega), ?_, ?_⟩
    · split <;> simp
    · intro a ha b hb
      cases hk : Lib.keeps zs.toArray m with
      | false => simp [hk] at hb
      | true =>
        simp [hk] at hb
        subst hb
        rw [upTo_mem zs m (by omega)] at ha
        obtain ⟨j, hj, rfl⟩ := List.mem_take_iff_getElem.1 ha
        simp only [Lib.keeps, decide_eq_true_eq] at hk
        rcases hk with h0 | hne
        · omega
        · rw [get_bang zs hlt, get_bang zs (by omega)] at hne
          have hp : m - 1 < zs.length := by omega
          have h1 : ¬ zs[m] < zs[m - 1] := List.pairwise_iff_getElem.1 hs (m - 1) m (by omega) hlt (by omega)
          have h2 : ¬ zs[m - 1] < zs[j] := by
            rcases Nat.lt_or_ge j (m - 1) with h | h
            · exact List.pairwise_iff_getElem.1 hs j (m - 1) (by omega) (by omega) h
            · have : j = m - 1 := by omega
              subst this; exact List.lt_irrefl _
          have h3 : zs[m - 1] < zs[m] := by
            by_cases h : zs[m - 1] < zs[m]
            · exact h
            · exact absurd (List.le_antisymm (show zs[m] ≤ zs[m - 1] from h) (show zs[m - 1] ≤ zs[m] from h1)) hne
          by_cases h4 : zs[j] < zs[m - 1]
          · exact List.lt_trans h4 h3
          · have := List.le_antisymm (show zs[j] ≤ zs[m - 1] from h2) (show zs[m - 1] ≤ zs[j] from h4)
            rw [this]; exact h3
/-- keys in order and without duplicates -/
def keysOf (l : List ByteArray) : List ByteArray := (Lib.compact ((l.map by8).mergeSort fun x y => decide (x ≤ y))).map fun s => ⟨s.toArray⟩
theorem keysOf_mem (l : List ByteArray) (k : ByteArray) : k ∈ keysOf l ↔ k ∈ l := by
  unfold keysOf Lib.compact
  have hl : ((l.map by8).mergeSort fun x y => decide (x ≤ y)).length = l.length := by simp
  constructor
  · intro h
    obtain ⟨s, hs, rfl⟩ := List.mem_map.1 h
    rw [upTo_mem _ _ (Nat.le_refl _), List.take_length, List.mem_mergeSort] at hs
    obtain ⟨x, hx, rfl⟩ := List.mem_map.1 hs
    exact hx
  · intro h
    refine List.mem_map.2 ⟨by8 k, ?_, rfl⟩
    rw [upTo_mem _ _ (Nat.le_refl _), List.take_length, List.mem_mergeSort]
    exact List.mem_map.2 ⟨k, h, rfl⟩
theorem keysOf_sorted (l : List ByteArray) : (keysOf l).Pairwise (fun a b => ltB a b = true) := by
  unfold keysOf Lib.compact
  rw [List.pairwise_map]
  have hs : ((l.map by8).mergeSort fun x y => decide (x ≤ y)).Pairwise (fun a b => ¬ b < a) := by
    have := List.pairwise_mergeSort (le := fun x y : List UInt8 => decide (x ≤ y)) (by intro a b c h1 h2; simp at *; exact List.le_trans h1 h2) (by intro a b; simp; exact List.le_total a b) (l.map by8)
    exact this.imp (by intro a b h; simpa using h)
  exact (upTo_sorted _ hs _ (Nat.le_refl _)).imp (by intro a b h; rw [ltB_iff]; exact h)
theorem keysOf_len (l : List ByteArray) : (keysOf l).length ≤ l.length := by
  unfold keysOf
  rw [List.length_map]
  have h : ∀ (zs : List (List UInt8)), (Lib.compact zs).length ≤ zs.length := fun zs => by
    unfold Lib.compact Lib.compactUpTo
    rw [List.length_map]
    exact Nat.le_trans (List.length_filter_le _ _) (by simp)
  exact Nat.le_trans (h _) (by simp)
/-- two sorted lists with the same keys are one -/
theorem sorted_ext {l m : List ByteArray} (hl : l.Pairwise (fun a b => ltB a b = true)) (hm : m.Pairwise (fun a b => ltB a b = true)) (h : ∀ k, k ∈ l ↔ k ∈ m) : l = m := by
  induction l generalizing m with
  | nil =>
    cases m with
    | nil => rfl
    | cons q s => exact absurd ((h q).2 (by simp)) (by simp)
  | cons p r ih =>
    cases m with
    | nil => exact absurd ((h p).1 (by simp)) (by simp)
    | cons q s =>
      have hl' := List.pairwise_cons.1 hl
      have hm' := List.pairwise_cons.1 hm
      have hpq : p = q := by
        rcases List.mem_cons.1 ((h p).1 (by simp)) with e | e
        · exact e
        · rcases List.mem_cons.1 ((h q).2 (by simp)) with e2 | e2
          · exact e2.symm
          · have a := hl'.1 q e2
            have b := hm'.1 p e
            rw [ltB_asymm a] at b; cases b
      subst hpq
      congr 1
      refine ih hl'.2 hm'.2 fun k => ?_
      constructor
      · intro hk
        rcases List.mem_cons.1 ((h k).1 (by simp [hk])) with e | e
        · exact absurd e.symm (ltB_ne (hl'.1 k hk))
        · exact e
      · intro hk
        rcases List.mem_cons.1 ((h k).2 (by simp [hk])) with e | e
        · exact absurd e.symm (ltB_ne (hm'.1 k hk))
        · exact e
end Go.Proofs.YtpefdonhacmaoaaGreat

set_option linter.unusedVariables false
set_option linter.unusedSimpArgs false
namespace Go.Proofs.YtpefdonhacmaoaaGreat
open Go.RowKit

/-- the block of a slice's row -/
def blk (A : Option Addr) : Option Nat := A.map (·.block)
theorem ownBlock_slice (A : Option Addr) (n c : Nat) : (Value.slice A n c).ownBlock = blk A := by cases A <;> rfl
end Go.Proofs.YtpefdonhacmaoaaGreat
