/-
  The levels of transactions in the conflict graph, plainly (no program in it).
-/
import Derived.Test.YtgcnbifgnaepnaaDoorClPl
set_option linter.unusedVariables false
set_option linter.unusedSimpArgs false
namespace Go.Proofs.YtgcnbifgnaepnaaDoor

/-- the level that the first k give to d, their levels being L -/
def lvS (dd : List (List Opr)) (L : Nat → Nat) (d : List Opr) : Nat → Nat
  | 0 => 0
  | k + 1 => if clB (dd.getD k []) d = true then max (lvS dd L d k) (L k + 1) else lvS dd L d k
/-- the first n levels -/
def lvL (dd : List (List Opr)) : Nat → List Nat
  | 0 => []
  | n + 1 => lvL dd n ++ [lvS dd (fun j => (lvL dd n).getD j 0) (dd.getD n []) n]
/-- the level of the i-th -/
def lv (dd : List (List Opr)) (i : Nat) : Nat := (lvL dd (i + 1)).getD i 0
theorem lvL_len (dd : List (List Opr)) (n : Nat) : (lvL dd n).length = n := by
  induction n with
  | zero => rfl
  | succ n ih => simp [lvL, ih]
theorem lvL_get (dd : List (List Opr)) {i n : Nat} (h : i < n) : (lvL dd n).getD i 0 = lv dd i := by
  induction n with
  | zero => omega
  | succ n ih =>
    by_cases e : i = n
    · subst e; rfl
    · have hi : i < n := by omega
      rw [← ih hi]
      simp only [lvL, List.getD_eq_getElem?_getD]
      rw [List.getElem?_append_left (by rw [lvL_len]; exact hi)]
theorem lvS_congr {dd : List (List Opr)} {L L' : Nat → Nat} {d : List Opr} {k : Nat} (h : ∀ j, j < k → L j = L' j) : lvS dd L d k = lvS dd L' d k := by
  induction k with
  | zero => rfl
  | succ k ih =>
    have h1 := ih fun j hj => h j (by omega)
    have h2 := h k (by omega)
    simp only [lvS, h1, h2]
theorem lv_eq (dd : List (List Opr)) (i : Nat) : lv dd i = lvS dd (lv dd) (dd.getD i []) i := by
  have h : lv dd i = lvS dd (fun j => (lvL dd i).getD j 0) (dd.getD i []) i := by
    unfold lv
    simp only [lvL, List.getD_eq_getElem?_getD]
    rw [List.getElem?_append_right (by rw [lvL_len]; exact Nat.le_refl _), lvL_len]
    simp
  rw [h]
  exact lvS_congr fun j hj => lvL_get dd hj
theorem lvL_eq (dd : List (List Opr)) (n : Nat) : lvL dd n = (List.range n).map (lv dd) := by
  induction n with
  | zero => rfl
  | succ n ih =>
    rw [List.range_succ, List.map_append, ← ih]
    simp only [lvL, List.map_cons, List.map_nil]
    rw [lv_eq]
    congr 2
    exact lvS_congr fun j hj => lvL_get dd hj
theorem lvS_ge {dd : List (List Opr)} {L : Nat → Nat} {d : List Opr} {j k : Nat} (h : j < k) (hc : clB (dd.getD j []) d = true) : L j + 1 ≤ lvS dd L d k := by
  induction k with
  | zero => omega
  | succ k ih =>
    simp only [lvS]
    by_cases e : j = k
    · subst e; rw [if_pos hc]; omega
    · have := ih (by omega)
      split <;> omega
theorem lvS_hit (dd : List (List Opr)) (L : Nat → Nat) (d : List Opr) (k : Nat) : lvS dd L d k = 0 ∨ ∃ j, j < k ∧ clB (dd.getD j []) d = true ∧ lvS dd L d k = L j + 1 := by
  induction k with
  | zero => exact .inl rfl
  | succ k ih =>
    simp only [lvS]
    by_cases hc : clB (dd.getD k []) d = true
    · rw [if_pos hc]
      rcases Nat.le_total (lvS dd L d k) (L k + 1) with h | h
      · exact .inr ⟨k, by omega, hc, by omega⟩
      · rw [Nat.max_eq_left h]
        rcases ih with e | ⟨j, hj, h1, h2⟩
        · omega
        · exact .inr ⟨j, by omega, h1, h2⟩
    · rw [if_neg hc]
      rcases ih with e | ⟨j, hj, h1, h2⟩
      · exact .inl e
      · exact .inr ⟨j, by omega, h1, h2⟩
theorem lvS_le {dd : List (List Opr)} {L : Nat → Nat} {d : List Opr} {k : Nat} (h : ∀ j, j < k → L j ≤ j) : lvS dd L d k ≤ k := by
  rcases lvS_hit dd L d k with e | ⟨j, hj, _, e⟩
  · omega
  · have := h j hj; omega
theorem lv_le (dd : List (List Opr)) (i : Nat) : lv dd i ≤ i := by
  induction i using Nat.strongRecOn with
  | _ i ih => rw [lv_eq]; exact lvS_le ih
theorem lv_lt {dd : List (List Opr)} {j i : Nat} (h : j < i) (hc : clB (dd.getD j []) (dd.getD i []) = true) : lv dd j < lv dd i := by
  rw [lv_eq dd i]
  exact lvS_ge h hc
theorem lv_hit (dd : List (List Opr)) (i : Nat) : lv dd i = 0 ∨ ∃ j, j < i ∧ clB (dd.getD j []) (dd.getD i []) = true ∧ lv dd i = lv dd j + 1 := by
  rw [lv_eq]
  exact lvS_hit _ _ _ _
/-- the levels while they are reckoned: those before i are done, the i-th stands at v -/
def lvM (dd : List (List Opr)) (n i v : Nat) : List Nat := (List.range n).map fun x => if x < i then lv dd x else if x = i then v else 0
theorem lvM_len (dd : List (List Opr)) (n i v : Nat) : (lvM dd n i v).length = n := by simp [lvM]
theorem lvM_get {dd : List (List Opr)} {n i v x : Nat} (h : x < n) : (lvM dd n i v)[x]? = some (if x < i then lv dd x else if x = i then v else 0) := by simp [lvM, h]
theorem lvM_start (dd : List (List Opr)) (n : Nat) : lvM dd n 0 0 = List.replicate n 0 := by
  unfold lvM
  apply List.ext_getElem?
  intro x
  by_cases h : x < n <;> simp [h, List.getElem?_replicate]
theorem lvM_set (dd : List (List Opr)) (n i v u : Nat) : (lvM dd n i v).set i u = lvM dd n i u := by
  apply List.ext_getElem?
  intro x
  rw [List.getElem?_set, lvM_len]
  by_cases hx : x < n
  · by_cases e : i = x
    · subst e; rw [if_pos rfl, if_pos hx, lvM_get hx]; simp
    · have e' : ¬ x = i := fun h => e h.symm
      rw [if_neg e, lvM_get hx, lvM_get hx, if_neg e', if_neg e']
  · by_cases e : i = x
    · subst e; rw [if_pos rfl, if_neg hx]; exact (List.getElem?_eq_none (by rw [lvM_len]; omega)).symm
    · rw [if_neg e, List.getElem?_eq_none (by rw [lvM_len]; omega), List.getElem?_eq_none (by rw [lvM_len]; omega)]
theorem lvM_next (dd : List (List Opr)) (n i : Nat) : lvM dd n i (lv dd i) = lvM dd n (i + 1) 0 := by
  unfold lvM
  apply List.map_congr_left
  intro x _
  by_cases h : x < i
  · rw [if_pos h, if_pos (by omega)]
  · by_cases e : x = i
    · subst e; rw [if_neg h, if_pos rfl, if_pos (by omega)]
    · rw [if_neg h, if_neg e, if_neg (by omega)]; split <;> rfl
theorem lvM_end (dd : List (List Opr)) (n v : Nat) : lvM dd n n v = lvL dd n := by
  rw [lvL_eq]
  unfold lvM
  apply List.map_congr_left
  intro x hx
  rw [if_pos (List.mem_range.1 hx)]
end Go.Proofs.YtgcnbifgnaepnaaDoor
