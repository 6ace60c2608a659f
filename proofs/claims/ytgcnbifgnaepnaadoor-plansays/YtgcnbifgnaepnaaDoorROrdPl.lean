/-
  Orders of transactions asked one by one, plainly (no program in it).
-/
import Derived.Test.YtgcnbifgnaepnaaDoorOrdPl
set_option linter.unusedVariables false
set_option linter.unusedSimpArgs false
namespace Go.Proofs.YtgcnbifgnaepnaaDoor

/-- is one of the first n that the k-th conflicts with not among pre? -/
def wtO (dd : List (List Opr)) (pre : List Int) (k : Nat) : Nat → Bool
  | 0 => false
  | n + 1 => wtO dd pre k n || (!inI (n : Int) pre && clB (dd.getD n []) (dd.getD k []))
theorem wtO_iff {dd : List (List Opr)} {pre : List Int} {k n : Nat} : wtO dd pre k n = true ↔ ∃ i, i < n ∧ (i : Int) ∉ pre ∧ clB (dd.getD i []) (dd.getD k []) = true := by
  induction n with
  | zero => simp [wtO]
  | succ n ih =>
    simp only [wtO, Bool.or_eq_true, Bool.and_eq_true, ih, Bool.not_eq_true', inI_no]
    constructor
    · rintro (⟨i, h1, h2⟩ | h)
      · exact ⟨i, by omega, h2⟩
      · exact ⟨n, by omega, h⟩
    · rintro ⟨i, h1, h2⟩
      by_cases e : i = n
      · subst e; exact .inr h2
      · exact .inl ⟨i, by omega, h2⟩
theorem wtO_more {dd : List (List Opr)} {pre : List Int} {k j n : Nat} (h : wtO dd pre k j = true) (hj : j ≤ n) : wtO dd pre k n = true := by
  obtain ⟨i, h1, h2⟩ := wtO_iff.1 h
  exact wtO_iff.2 ⟨i, by omega, h2⟩
/-- one by one: whether one that it conflicts with, and stands ahead, is missing -/
def ordP (dd : List (List Opr)) (pre : List Int) : List Int → Bool
  | [] => true
  | z :: r => !wtO dd pre z.toNat z.toNat && ordP dd (pre ++ [z]) r
theorem ordP_next (dd : List (List Opr)) {l : List Int} {k : Nat} (h : k < l.length) : ordP dd (l.take k) (l.drop k) = (!wtO dd (l.take k) l[k].toNat l[k].toNat && ordP dd (l.take (k + 1)) (l.drop (k + 1))) := by
  rw [List.drop_eq_getElem_cons h, List.take_succ_eq_append_getElem h]; rfl
theorem ordP_eq {dd : List (List Opr)} (r pre : List Int) (hn : (pre ++ r).Nodup) (h0 : ∀ z ∈ pre ++ r, 0 ≤ z) (hall : ∀ z ∈ pre ++ r, ∀ i : Int, 0 ≤ i → i < z → i ∈ pre ++ r) : ordP dd pre r = ordB dd r := by
  induction r generalizing pre with
  | nil => rfl
  | cons z r ih =>
    have e : (pre ++ [z]) ++ r = pre ++ z :: r := by simp
    have h1 := ih (pre ++ [z]) (by rw [e]; exact hn) (by rw [e]; exact h0) (by rw [e]; exact hall)
    simp only [ordP, ordB, h1]
    congr 2
    have hz0 := h0 z (by simp)
    rw [List.nodup_append] at hn
    obtain ⟨_, hn2, hn3⟩ := hn
    rw [Bool.eq_iff_iff, wtO_iff]
    unfold invB
    rw [List.any_eq_true]
    constructor
    · rintro ⟨i, hi, hp, hc⟩
      have hm := hall z (by simp) (i : Int) (by omega) (by omega)
      have hr : (i : Int) ∈ r := by
        rcases List.mem_append.1 hm with hm | hm
        · exact absurd hm hp
        · rcases List.mem_cons.1 hm with hm | hm
          · omega
          · exact hm
      refine ⟨i, hr, ?_⟩
      rw [Bool.and_eq_true, Int.toNat_natCast]
      exact ⟨by simp; omega, hc⟩
    · rintro ⟨x, hx, h⟩
      rw [Bool.and_eq_true] at h
      have hlt := of_decide_eq_true h.1
      have hx0 := h0 x (by simp [hx])
      refine ⟨x.toNat, by omega, fun hp => ?_, h.2⟩
      rw [Int.toNat_of_nonneg hx0] at hp
      exact hn3 x hp x (List.mem_cons_of_mem _ hx) rfl
theorem ordP_ok {dd : List (List Opr)} {l : List Int} (h : chkOr dd.length l = 0) : ordP dd [] l = ordB dd l := by
  obtain ⟨hl, hr, hn⟩ := chkOr_zero.1 h
  refine ordP_eq l [] (by simpa using hn) (fun z hz => (hr z (by simpa using hz)).1) fun z hz i hi hiz => ?_
  have hz' := hr z (by simpa using hz)
  rw [List.nil_append]
  refine Classical.byContradiction fun hm => ?_
  have h1 : (i :: l).Nodup := List.nodup_cons.2 ⟨hm, hn⟩
  have h2 := h1.length_le_of_subset (l₂ := (List.range dd.length).map fun (k : Nat) => (k : Int)) fun x hx => by
    rcases List.mem_cons.1 hx with rfl | hx
    · exact List.mem_map.2 ⟨x.toNat, List.mem_range.2 (by omega), by omega⟩
    · have := hr x hx
      exact List.mem_map.2 ⟨x.toNat, List.mem_range.2 (by omega), by omega⟩
  rw [List.length_cons, List.length_map, List.length_range] at h2
  omega
end Go.Proofs.YtgcnbifgnaepnaaDoor
