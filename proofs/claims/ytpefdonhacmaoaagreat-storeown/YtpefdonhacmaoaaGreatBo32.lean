/-
  Orders that keep the order of conflicts: they make the same store, with the same outcomes (no program in it).
  A number within bounds, plainly (no program in it).
-/
import Derived.Test.YtpefdonhacmaoaaGreatBo31
import Derived.WalkKit
import Derived.WalkSpells
set_option linter.unusedVariables false
set_option linter.unusedSimpArgs false
namespace Go.Proofs.YtpefdonhacmaoaaGreat

/-- the values behind the transactions of an order -/
def exO (dd : List (List Opr)) (v : VF) : List Nat → VF
  | [] => v
  | i :: r => exO dd (doneV v (dd.getD i [])).1 r
/-- their outcomes, each with its number -/
def outO (dd : List (List Opr)) (v : VF) : List Nat → List (Nat × Bool)
  | [] => []
  | i :: r => (i, (doneV v (dd.getD i [])).2) :: outO dd (doneV v (dd.getD i [])).1 r
section
variable {dd : List (List Opr)}
theorem exO_append (v : VF) (a b : List Nat) : exO dd v (a ++ b) = exO dd (exO dd v a) b := by
  induction a generalizing v with
  | nil => rfl
  | cons i r ih => simp only [List.cons_append, exO, ih]
theorem outO_append (v : VF) (a b : List Nat) : outO dd v (a ++ b) = outO dd v a ++ outO dd (exO dd v a) b := by
  induction a generalizing v with
  | nil => rfl
  | cons i r ih => simp only [List.cons_append, outO, exO, ih]
/-- one is moved behind all those that it does not conflict with -/
theorem move_back (hd : ∀ d ∈ dd, chkD d = 0) {m : Nat} (hm : m < dd.length) (b : List Nat) (hb : ∀ x ∈ b, x < dd.length ∧ clB (dd.getD x []) (dd.getD m []) = false) (v : VF) :
    exO dd v (m :: b) = exO dd v (b ++ [m]) ∧ ∀ p, p ∈ outO dd v (m :: b) ↔ p ∈ outO dd v (b ++ [m]) := by
  have hg : ∀ i, i < dd.length → ∀ o ∈ dd.getD i [], chkO o = 0 := fun i hi o ho => by
    have : dd.getD i [] ∈ dd := by
      rw [List.getD_eq_getElem?_getD, List.getElem?_eq_getElem hi]
      exact List.getElem_mem hi
    exact (chkD_zero.1 (hd _ this)).2.2 o ho
  induction b generalizing v with
  | nil => exact ⟨rfl, fun p => Iff.rfl⟩
  | cons y b ih =>
    obtain ⟨hy, hc⟩ := hb y (by simp)
    obtain ⟨h1, h2, h3⟩ := commute (hg m hm) (hg y hy) (clB_free (by rw [clB_symm]; exact hc)) v
    obtain ⟨i1, i2⟩ := ih (fun x hx => hb x (by simp [hx])) (doneV v (dd.getD y [])).1
    constructor
    · show exO dd (doneV (doneV v (dd.getD m [])).1 (dd.getD y [])).1 b = exO dd (doneV v (dd.getD y [])).1 (b ++ [m])
      rw [h1, ← i1]
      rfl
    · intro p
      show p ∈ (m, (doneV v (dd.getD m [])).2) :: (y, (doneV (doneV v (dd.getD m [])).1 (dd.getD y [])).2) :: outO dd (doneV (doneV v (dd.getD m [])).1 (dd.getD y [])).1 b ↔ p ∈ (y, (doneV v (dd.getD y [])).2) :: outO dd (doneV v (dd.getD y [])).1 (b ++ [m])
      rw [h1, h2, h3]
      have h4 := i2 p
      rw [List.mem_cons, List.mem_cons, List.mem_cons, ← h4]
      show _ ↔ _ ∨ p ∈ (m, (doneV (doneV v (dd.getD y [])).1 (dd.getD m [])).2) :: outO dd (doneV (doneV v (dd.getD y [])).1 (dd.getD m [])).1 b
      rw [List.mem_cons]
      exact ⟨fun h => h.elim (fun h => .inr (.inl h)) fun h => h.elim .inl fun h => .inr (.inr h), fun h => h.elim (fun h => .inr (.inl h)) fun h => h.elim .inl fun h => .inr (.inr h)⟩
/-- an order of the first n numbers that keeps the order of conflicts -/
structure Kept (dd : List (List Opr)) (n : Nat) (o : List Nat) : Prop where
  nodup : o.Nodup
  mem : ∀ x, x ∈ o ↔ x < n
  ord : o.Pairwise fun s x => x < s → clB (dd.getD x []) (dd.getD s []) = false
theorem kept_same (hd : ∀ d ∈ dd, chkD d = 0) (n : Nat) (hn : n ≤ dd.length) (o : List Nat) (h : Kept dd n o) (v : VF) :
    exO dd v o = exO dd v (List.range n) ∧ ∀ p, p ∈ outO dd v o ↔ p ∈ outO dd v (List.range n) := by
  induction n generalizing o with
  | zero =>
    have : o = [] := List.eq_nil_iff_forall_not_mem.2 fun x hx => by have := (h.mem x).1 hx; omega
    subst this
    exact ⟨rfl, fun p => Iff.rfl⟩
  | succ n ih =>
    obtain ⟨a, b, rfl⟩ := List.append_of_mem ((h.mem n).2 (by omega))
    have hnd := h.nodup
    rw [List.nodup_append] at hnd
    obtain ⟨n1, n2, n3⟩ := hnd
    rw [List.nodup_cons] at n2
    have hp := List.pairwise_append.1 h.ord
    have hp2 := List.pairwise_cons.1 hp.2.1
    have hlt : ∀ x ∈ b, x < n := fun x hx => by
      have h1 := (h.mem x).1 (by simp [hx])
      have h2 : x ≠ n := fun e => n2.1 (e ▸ hx)
      omega
    have hk : Kept dd n (a ++ b) := by
      refine ⟨?_, fun x => ?_, ?_⟩
      · exact h.nodup.sublist (List.Sublist.append_left (List.sublist_cons_self _ _) _)
      · constructor
        · intro hx
          have h1 := (h.mem x).1 (by rcases List.mem_append.1 hx with hx | hx <;> simp [hx])
          have h2 : x ≠ n := fun e => by
            subst e
            rcases List.mem_append.1 hx with hx | hx
            · exact n3 x hx x (by simp) rfl
            · exact n2.1 hx
          omega
        · intro hx
          have h1 := (h.mem x).2 (by omega)
          rcases List.mem_append.1 h1 with h1 | h1
          · simp [h1]
          · rcases List.mem_cons.1 h1 with h1 | h1
            · omega
            · simp [h1]
      · exact h.ord.sublist (List.Sublist.append_left (List.sublist_cons_self _ _) _)
    obtain ⟨i1, i2⟩ := ih (by omega) (a ++ b) hk
    obtain ⟨m1, m2⟩ := move_back hd (m := n) (by omega) b (fun x hx => ⟨by have := hlt x hx; omega, hp2.1 x hx (hlt x hx)⟩) (exO dd v a)
    rw [List.range_succ]
    constructor
    · rw [exO_append, m1, ← exO_append, ← List.append_assoc, exO_append, i1, ← exO_append]
    · intro p
      rw [outO_append, List.mem_append, m2, ← List.mem_append, ← outO_append, ← List.append_assoc, outO_append, List.mem_append, i2, i1, ← List.mem_append, ← outO_append]
/-- the transactions of an order -/
def atD (dd : List (List Opr)) (o : List Nat) : List (List Opr) := o.map fun i => dd.getD i []
theorem serV_atD (v : VF) (o : List Nat) : (serV v (atD dd o)).1 = exO dd v o ∧ outO dd v o = o.zip (serV v (atD dd o)).2 := by
  induction o generalizing v with
  | nil => exact ⟨rfl, rfl⟩
  | cons i r ih =>
    obtain ⟨h1, h2⟩ := ih (doneV v (dd.getD i [])).1
    refine ⟨h1, ?_⟩
    show (i, (doneV v (dd.getD i [])).2) :: outO dd (doneV v (dd.getD i [])).1 r = _
    rw [h2]
    rfl
theorem atD_range (dd : List (List Opr)) : atD dd (List.range dd.length) = dd := by
  unfold atD
  apply List.ext_getElem?
  intro i
  by_cases h : i < dd.length <;> simp [h]
theorem mem_out {v : VF} {i : Nat} {b : Bool} : (i, b) ∈ outO dd v (List.range dd.length) ↔ (serV v dd).2[i]? = some b := by
  have h := (serV_atD (dd := dd) v (List.range dd.length)).2
  rw [atD_range] at h
  rw [h, List.mem_iff_getElem?]
  have hl := serV_len v dd
  constructor
  · rintro ⟨j, hj⟩
    rw [List.getElem?_zip_eq_some] at hj
    obtain ⟨h1, h2⟩ := hj
    have hj : j < dd.length := by
      have := (List.getElem?_eq_some_iff.1 h2).1
      omega
    rw [List.getElem?_eq_getElem (by simpa using hj)] at h1
    simp at h1
    subst h1
    exact h2
  · intro h1
    have hi : i < dd.length := by have := (List.getElem?_eq_some_iff.1 h1).1; omega
    exact ⟨i, by rw [List.getElem?_zip_eq_some]; exact ⟨by simp [hi], h1⟩⟩
/-- an order that keeps the order of conflicts makes what the list makes -/
theorem kept_ser (hd : ∀ d ∈ dd, chkD d = 0) {o : List Nat} (h : Kept dd dd.length o) (v : VF) :
    (serV v (atD dd o)).1 = (serV v dd).1 ∧ ∀ (j i : Nat), o[j]? = some i → (serV v (atD dd o)).2[j]? = (serV v dd).2[i]? := by
  obtain ⟨h1, h2⟩ := kept_same hd dd.length (Nat.le_refl _) o h v
  obtain ⟨s1, s2⟩ := serV_atD (dd := dd) v o
  obtain ⟨s3, s4⟩ := serV_atD (dd := dd) v (List.range dd.length)
  rw [atD_range] at s3
  refine ⟨by rw [s1, h1, s3], fun j i hji => ?_⟩
  have hj : j < o.length := (List.getElem?_eq_some_iff.1 hji).1
  have hl : (serV v (atD dd o)).2.length = o.length := by rw [serV_len]; simp [atD]
  rw [List.getElem?_eq_getElem (by omega)]
  have hm : (i, (serV v (atD dd o)).2[j]'(by omega)) ∈ outO dd v o := by
    rw [s2, List.mem_iff_getElem?]
    exact ⟨j, by rw [List.getElem?_zip_eq_some]; exact ⟨hji, List.getElem?_eq_getElem (by omega)⟩⟩
  exact (mem_out.1 ((h2 _).1 hm)).symm
/-- what Order lets by keeps the order of conflicts -/
theorem kept_of_order {o : List Nat} (h : chkOr dd.length (o.map fun (k : Nat) => (k : Int)) = 0) (hb : ordB dd (o.map fun (k : Nat) => (k : Int)) = true) : Kept dd dd.length o := by
  obtain ⟨hl, hr, hn⟩ := chkOr_zero.1 h
  rw [List.length_map] at hl
  have hnd : o.Nodup := by
    unfold List.Nodup at hn ⊢
    rw [List.pairwise_map] at hn
    exact hn.imp fun h e => h (by rw [e])
  have hlt : ∀ x ∈ o, x < dd.length := fun x hx => by have := hr x (List.mem_map.2 ⟨x, hx, rfl⟩); omega
  refine ⟨hnd, fun x => ⟨hlt x, fun hx => Classical.byContradiction fun hm => ?_⟩, ?_⟩
  · have h2 := (List.nodup_cons.2 ⟨hm, hnd⟩).length_le_of_subset (l₂ := List.range dd.length) fun y hy => by
      rcases List.mem_cons.1 hy with rfl | hy
      · exact List.mem_range.2 hx
      · exact List.mem_range.2 (hlt y hy)
    rw [List.length_cons, List.length_range] at h2
    omega
  · rw [ordB_iff, List.pairwise_map] at hb
    refine hb.imp ?_
    intro s x hsx hlt
    have := hsx (by omega)
    rwa [Int.toNat_natCast, Int.toNat_natCast] at this
theorem Kept.order {o : List Nat} (h : Kept dd dd.length o) : orV dd (o.map fun (k : Nat) => (k : Int)) = (true, 0) := by
  have hp : o.Perm (List.range dd.length) := (List.perm_ext_iff_of_nodup h.nodup List.nodup_range).2 fun i => by rw [h.mem, List.mem_range]
  have h0 : chkOr dd.length (o.map fun (k : Nat) => (k : Int)) = 0 := by
    refine chkOr_zero.2 ⟨by rw [List.length_map, hp.length_eq, List.length_range], fun z hz => ?_, ?_⟩
    · obtain ⟨i, hi, rfl⟩ := List.mem_map.1 hz
      have := (h.mem i).1 hi
      omega
    · unfold List.Nodup
      rw [List.pairwise_map]
      exact h.nodup.imp fun h e => h (by omega)
  unfold orV
  rw [if_pos h0]
  congr 1
  rw [ordB_iff, List.pairwise_map]
  refine h.ord.imp ?_
  intro s x hsx hlt
  rw [Int.toNat_natCast, Int.toNat_natCast]
  exact hsx (by omega)
end
end Go.Proofs.YtpefdonhacmaoaaGreat

set_option linter.unusedVariables false
set_option linter.unusedSimpArgs false
namespace Go.Proofs.YtpefdonhacmaoaaGreat
open Go.RowKit

/-- what Within answers -/
def wi (k : Int) (n : Nat) : Nat := ((IntKind.u64.wrap k).tmod n).toNat
theorem wrap_u64_nonneg (k : Int) : 0 ≤ IntKind.u64.wrap k := by simp [IntKind.wrap_u64]; omega
theorem wi_lt (k : Int) (n : Nat) (h : 1 ≤ n) : wi k n < n := by
  have h0 := wrap_u64_nonneg k
  unfold wi
  have := Int.tmod_lt_of_pos (IntKind.u64.wrap k) (show (0 : Int) < n by omega)
  omega
theorem wi_eq (k : Int) (n : Nat) (h : 1 ≤ n) (h2 : n ≤ 1000) : wrap64 ((IntKind.u64.wrap k).tmod (n : Int)) = (wi k n : Int) := by
  have h0 := wrap_u64_nonneg k
  have h1 := Int.tmod_lt_of_pos (IntKind.u64.wrap k) (show (0 : Int) < n by omega)
  have h3 := Int.tmod_nonneg (n : Int) h0
  unfold wi wrap64
  omega
end Go.Proofs.YtpefdonhacmaoaaGreat
