/-
  Transactions level by level, plainly (no program in it).
-/
import Derived.Test.YtgcnbifgnaepnaaDoorLv
import Derived.Test.YtgcnbifgnaepnaaDoorOrdPl
set_option linter.unusedVariables false
set_option linter.unusedSimpArgs false
namespace Go.Proofs.YtgcnbifgnaepnaaDoor

theorem lvL_at (dd : List (List Opr)) {n k : Nat} (h : k < n) : (lvL dd n)[k]? = some (lv dd k) := by rw [lvL_eq]; simp [h]
/-- those of one level -/
def byLv (dd : List (List Opr)) (n m : Nat) : List Nat := (List.range n).filter fun i => decide (lv dd i = m)
theorem byLv_mem {dd : List (List Opr)} {n m i : Nat} : i ∈ byLv dd n m ↔ i < n ∧ lv dd i = m := by simp [byLv]
theorem byLv_next (dd : List (List Opr)) (k m : Nat) : byLv dd (k + 1) m = byLv dd k m ++ if lv dd k = m then [k] else [] := by
  unfold byLv
  rw [List.range_succ, List.filter_append]
  by_cases h : lv dd k = m <;> simp [h]
/-- those of the levels below m -/
def ordM (dd : List (List Opr)) (n m : Nat) : List Nat := (List.range m).flatMap (byLv dd n)
theorem ordM_next (dd : List (List Opr)) (n m : Nat) : ordM dd n (m + 1) = ordM dd n m ++ byLv dd n m := by
  unfold ordM
  rw [List.range_succ, List.flatMap_append]
  simp
theorem ordM_mem {dd : List (List Opr)} {n m i : Nat} : i ∈ ordM dd n m ↔ i < n ∧ lv dd i < m := by
  unfold ordM
  rw [List.mem_flatMap]
  constructor
  · rintro ⟨a, ha, hi⟩
    rw [byLv_mem] at hi
    rw [List.mem_range] at ha
    omega
  · rintro ⟨h1, h2⟩
    exact ⟨lv dd i, List.mem_range.2 h2, byLv_mem.2 ⟨h1, rfl⟩⟩
theorem ordM_sorted (dd : List (List Opr)) (n m : Nat) : (ordM dd n m).Pairwise fun s x => lv dd s ≤ lv dd x ∧ s ≠ x := by
  unfold ordM
  rw [List.pairwise_flatMap]
  refine ⟨fun a _ => ?_, ?_⟩
  · have h1 : (byLv dd n a).Pairwise (· < ·) := List.Pairwise.sublist List.filter_sublist List.pairwise_lt_range
    refine List.Pairwise.imp_of_mem ?_ h1
    intro s x hs hx hlt
    have e1 := (byLv_mem.1 hs).2
    have e2 := (byLv_mem.1 hx).2
    omega
  · refine List.Pairwise.imp ?_ List.pairwise_lt_range
    intro a b hab s hs x hx
    have e1 := (byLv_mem.1 hs).2
    have e2 := (byLv_mem.1 hx).2
    refine ⟨by omega, fun e => ?_⟩
    subst e
    omega
theorem ordM_nodup (dd : List (List Opr)) (n m : Nat) : (ordM dd n m).Nodup := (ordM_sorted dd n m).imp fun h => h.2
theorem ordM_len (dd : List (List Opr)) (n : Nat) : (ordM dd n n).length = n := by
  have h : (ordM dd n n).Perm (List.range n) := (List.perm_ext_iff_of_nodup (ordM_nodup dd n n) List.nodup_range).2 fun i => by
    rw [ordM_mem, List.mem_range]
    have := lv_le dd i
    omega
  rw [h.length_eq, List.length_range]
theorem byLv_len (dd : List (List Opr)) (n m : Nat) : (byLv dd n m).length ≤ n := by
  have := List.length_filter_le (fun i => decide (lv dd i = m)) (List.range n)
  rwa [List.length_range] at this
theorem ordM_le (dd : List (List Opr)) (n m : Nat) : (ordM dd n m).length ≤ n := by
  have h := (ordM_nodup dd n m).length_le_of_subset (l₂ := List.range n) fun i hi => List.mem_range.2 (ordM_mem.1 hi).1
  rwa [List.length_range] at h
/-- level by level all that conflict stand in order -/
theorem ordM_ok (dd : List (List Opr)) : orV dd ((ordM dd dd.length dd.length).map fun (k : Nat) => (k : Int)) = (true, 0) := by
  have h0 : chkOr dd.length ((ordM dd dd.length dd.length).map fun (k : Nat) => (k : Int)) = 0 := by
    refine chkOr_zero.2 ⟨by rw [List.length_map, ordM_len], fun z hz => ?_, ?_⟩
    · obtain ⟨i, hi, rfl⟩ := List.mem_map.1 hz
      have := (ordM_mem.1 hi).1
      omega
    · unfold List.Nodup
      rw [List.pairwise_map]
      exact (ordM_sorted dd _ _).imp fun h e => h.2 (by omega)
  unfold orV
  rw [if_pos h0]
  congr 1
  rw [ordB_iff, List.pairwise_map]
  refine (ordM_sorted dd _ _).imp ?_
  intro s x hsx hlt
  rw [Int.toNat_natCast, Int.toNat_natCast]
  cases hc : clB (dd.getD x []) (dd.getD s []) with
  | false => rfl
  | true => have := lv_lt (by omega) hc; omega
/-- is one ahead of the i-th, among the first k? -/
def ahB (dd : List (List Opr)) (i : Nat) : Nat → Bool
  | 0 => decide (lv dd i = 0)
  | k + 1 => ahB dd i k || (clB (dd.getD k []) (dd.getD i []) && decide (lv dd k + 1 = lv dd i))
theorem ahB_iff {dd : List (List Opr)} {i k : Nat} : ahB dd i k = true ↔ lv dd i = 0 ∨ ∃ j, j < k ∧ clB (dd.getD j []) (dd.getD i []) = true ∧ lv dd j + 1 = lv dd i := by
  induction k with
  | zero => simp [ahB]
  | succ k ih =>
    simp only [ahB, Bool.or_eq_true, Bool.and_eq_true, decide_eq_true_eq, ih]
    constructor
    · rintro ((h | ⟨j, hj, h⟩) | h)
      · exact .inl h
      · exact .inr ⟨j, by omega, h⟩
      · exact .inr ⟨k, by omega, h⟩
    · rintro (h | ⟨j, hj, h⟩)
      · exact .inl (.inl h)
      · by_cases e : j = k
        · subst e; exact .inr h
        · exact .inl (.inr ⟨j, by omega, h⟩)
theorem ahB_all (dd : List (List Opr)) (i : Nat) : ahB dd i i = true := by
  rw [ahB_iff]
  rcases lv_hit dd i with h | ⟨j, h1, h2, h3⟩
  · exact .inl h
  · exact .inr ⟨j, h1, h2, h3.symm⟩
end Go.Proofs.YtgcnbifgnaepnaaDoor
