/-
  Neighbours of an order change places, plainly (no program in it).
-/
import Derived.Test.YtgcnbifgnaepnaaGreatBd31
import Derived.Test.YtgcnbifgnaepnaaGreatBd15
set_option linter.unusedVariables false
set_option linter.unusedSimpArgs false
namespace Go.Proofs.YtgcnbifgnaepnaaGreat

/-- the k-th and the next one change places -/
def swp (o : List Nat) (k : Nat) : List Nat := (o.set k (o.getD (k + 1) 0)).set (k + 1) (o.getD k 0)
theorem swp_len (o : List Nat) (k : Nat) : (swp o k).length = o.length := by simp [swp]
theorem swp_cons (x : Nat) (o : List Nat) (k : Nat) : swp (x :: o) (k + 1) = x :: swp o k := by simp [swp, List.getD_eq_getElem?_getD]
theorem swp_perm {o : List Nat} {k : Nat} (h : k + 1 < o.length) : (swp o k).Perm o := by
  induction k generalizing o with
  | zero =>
    obtain ⟨x, o, rfl⟩ : ∃ x r, o = x :: r := by cases o with | nil => simp at h | cons x r => exact ⟨x, r, rfl⟩
    obtain ⟨y, o, rfl⟩ : ∃ x r, o = x :: r := by cases o with | nil => simp at h | cons x r => exact ⟨x, r, rfl⟩
    simp [swp, List.getD_eq_getElem?_getD]
    exact List.Perm.swap x y o
  | succ k ih =>
    obtain ⟨x, o, rfl⟩ : ∃ x r, o = x :: r := by cases o with | nil => simp at h | cons x r => exact ⟨x, r, rfl⟩
    rw [swp_cons]
    exact (ih (by simpa using h)).cons x
theorem swp_back {o : List Nat} {k : Nat} (h : k + 1 < o.length) : swp (swp o k) k = o := by
  induction k generalizing o with
  | zero =>
    obtain ⟨x, o, rfl⟩ : ∃ x r, o = x :: r := by cases o with | nil => simp at h | cons x r => exact ⟨x, r, rfl⟩
    obtain ⟨y, o, rfl⟩ : ∃ x r, o = x :: r := by cases o with | nil => simp at h | cons x r => exact ⟨x, r, rfl⟩
    simp [swp, List.getD_eq_getElem?_getD]
  | succ k ih =>
    obtain ⟨x, o, rfl⟩ : ∃ x r, o = x :: r := by cases o with | nil => simp at h | cons x r => exact ⟨x, r, rfl⟩
    rw [swp_cons, swp_cons, ih (by simpa using h)]
/-- a list of the first n numbers, each once -/
structure Prm (n : Nat) (o : List Nat) : Prop where
  nodup : o.Nodup
  mem : ∀ x, x ∈ o ↔ x < n
theorem Prm.len {n : Nat} {o : List Nat} (h : Prm n o) : o.length = n := by
  have hp : o.Perm (List.range n) := (List.perm_ext_iff_of_nodup h.nodup List.nodup_range).2 fun i => by rw [h.mem, List.mem_range]
  rw [hp.length_eq, List.length_range]
theorem Prm.swp {n : Nat} {o : List Nat} (h : Prm n o) {k : Nat} (hk : k + 1 < n) : Prm n (swp o k) := by
  have hp := swp_perm (o := o) (k := k) (by rw [h.len]; exact hk)
  exact ⟨hp.nodup_iff.2 h.nodup, fun x => by rw [hp.mem_iff]; exact h.mem x⟩
theorem Prm.chk {n : Nat} {o : List Nat} (h : Prm n o) : chkOr n (o.map fun (k : Nat) => (k : Int)) = 0 := by
  refine chkOr_zero.2 ⟨by rw [List.length_map, h.len], fun z hz => ?_, ?_⟩
  · obtain ⟨i, hi, rfl⟩ := List.mem_map.1 hz
    have := (h.mem i).1 hi
    omega
  · unfold List.Nodup
    rw [List.pairwise_map]
    exact h.nodup.imp fun h e => h (by omega)
theorem Kept.prm {dd : List (List Opr)} {n : Nat} {o : List Nat} (h : Kept dd n o) : Prm n o := ⟨h.nodup, h.mem⟩
theorem kept_range (dd : List (List Opr)) (n : Nat) : Kept dd n (List.range n) :=
  ⟨List.nodup_range, fun x => List.mem_range, List.pairwise_lt_range.imp fun h h2 => by omega⟩
/-- the numbers while they are written -/
def filM (n k : Nat) : List Nat := (List.range n).map fun x => if x < k then x else 0
theorem filM_len (n k : Nat) : (filM n k).length = n := by simp [filM]
theorem filM_start (n : Nat) : filM n 0 = List.replicate n 0 := by
  unfold filM
  apply List.ext_getElem?
  intro x
  by_cases h : x < n <;> simp [h, List.getElem?_replicate]
theorem filM_end (n : Nat) : filM n n = List.range n := by
  unfold filM
  conv => rhs; rw [← List.map_id (List.range n)]
  apply List.map_congr_left
  intro x hx
  rw [if_pos (List.mem_range.1 hx)]; rfl
theorem filM_next {n k : Nat} (hk : k < n) : (filM n k).set k k = filM n (k + 1) := by
  apply List.ext_getElem?
  intro x
  rw [List.getElem?_set, filM_len]
  unfold filM
  by_cases hx : x < n
  · by_cases e : k = x
    · subst e; simp [hk]
    · rw [if_neg e]
      simp [hx]
      by_cases h1 : x < k
      · rw [if_pos h1, if_pos (by omega)]
      · rw [if_neg h1, if_neg (by omega)]
  · by_cases e : k = x
    · omega
    · rw [if_neg e]; simp [hx]
/-- the transactions of an order, in memory -/
def dsO (ds : List Dl) (o : List Nat) : List Dl := o.map fun i => ds.getD i ⟨none, 0, []⟩
theorem dsO_len (ds : List Dl) (o : List Nat) : (dsO ds o).length = o.length := by simp [dsO]
theorem dsO_dd (ds : List Dl) (o : List Nat) : ddOf (dsO ds o) = atD (ddOf ds) o := by
  unfold dsO ddOf atD
  rw [List.map_map]
  apply List.map_congr_left
  intro i _
  simp only [Function.comp, List.getD_eq_getElem?_getD, List.getElem?_map]
  cases ds[i]? <;> rfl
theorem dsO_take {ds : List Dl} {o : List Nat} {j : Nat} (hj : j < o.length) : dsO ds (o.take (j + 1)) = dsO ds (o.take j) ++ [ds.getD o[j] ⟨none, 0, []⟩] := by
  unfold dsO; rw [List.take_succ_eq_append_getElem hj, List.map_append]; rfl
theorem dsO_mem {ds : List Dl} {o : List Nat} (h : ∀ x ∈ o, x < ds.length) {x : Dl} (hx : x ∈ dsO ds o) : x ∈ ds := by
  obtain ⟨i, hi, rfl⟩ := List.mem_map.1 hx
  have := h i hi
  rw [List.getD_eq_getElem?_getD, List.getElem?_eq_getElem this]
  exact List.getElem_mem this
end Go.Proofs.YtgcnbifgnaepnaaGreat
