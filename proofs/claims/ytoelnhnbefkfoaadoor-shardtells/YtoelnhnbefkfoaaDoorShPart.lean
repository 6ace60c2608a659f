/-
  Parts of a store, plainly (no program in it).
-/
import Derived.Test.YtoelnhnbefkfoaaDoorShCut
import Derived.Test.YtoelnhnbefkfoaaDoorSpec
set_option linter.unusedVariables false
set_option linter.unusedSimpArgs false
namespace Go.Proofs.YtoelnhnbefkfoaaDoor

/-- the pairs whose keys belong to an owner -/
def ptL (cs : List ByteArray) (os : List Int) (n : Int) (l : List Pr) : List Pr := l.filter fun p => decide (whV cs os p.1 = n)
/-- the pairs whose keys belong to an owner below a number -/
def upL (cs : List ByteArray) (os : List Int) (n : Int) (l : List Pr) : List Pr := l.filter fun p => decide (whV cs os p.1 < n)
theorem Ok.filter {l : List Pr} (h : Ok l) (f : Pr → Bool) : Ok (l.filter f) :=
  ⟨h.srt.sublist List.filter_sublist, fun p hp => h.key p ((List.mem_filter.1 hp).1), fun p hp => h.val p ((List.mem_filter.1 hp).1), fun p hp => h.nz p ((List.mem_filter.1 hp).1)⟩
section
variable {cs : List ByteArray} {os : List Int} {l : List Pr}
theorem ptL_ok (h : Ok l) (n : Int) : Ok (ptL cs os n l) := h.filter _
theorem upL_ok (h : Ok l) (n : Int) : Ok (upL cs os n l) := h.filter _
theorem ptL_snoc (n : Int) (p : Pr) : ptL cs os n (l ++ [p]) = ptL cs os n l ++ (if whV cs os p.1 = n then [p] else []) := by
  unfold ptL
  rw [List.filter_append]
  congr 1
  by_cases e : whV cs os p.1 = n <;> simp [e]
theorem upL_zero (h : OkM cs os) : upL cs os 0 l = [] := by
  unfold upL
  rw [List.filter_eq_nil_iff]
  intro p _
  have := h.own _ (whV_mem h p.1)
  simp; omega
theorem upL_all (h : OkM cs os) : upL cs os 4 l = l := by
  unfold upL
  rw [List.filter_eq_self]
  intro p _
  have := h.own _ (whV_mem h p.1)
  simp; omega
theorem upL_len (n : Int) : (upL cs os (n + 1) l).length = (upL cs os n l).length + (ptL cs os n l).length := by
  unfold upL ptL
  induction l with
  | nil => rfl
  | cons p r ih =>
    simp only [List.filter_cons]
    by_cases h1 : whV cs os p.1 < n
    · rw [if_pos (by simp; omega), if_pos (by simpa using h1), if_neg (by simp; omega)]; simp [ih]; omega
    · by_cases h2 : whV cs os p.1 = n
      · rw [if_pos (by simp; omega), if_neg (by simpa using h1), if_pos (by simpa using h2)]; simp [ih]; omega
      · rw [if_neg (by simp; omega), if_neg (by simpa using h1), if_neg (by simpa using h2)]; exact ih
theorem valOf_filter (hs : l.Pairwise (fun p q => ltB p.1 q.1 = true)) (f : ByteArray → Bool) (k : ByteArray) : valOf (l.filter fun p => f p.1) k = if f k = true then valOf l k else 0 := by
  by_cases hk : f k = true
  · rw [if_pos hk]
    by_cases he : ∃ p ∈ l, p.1 = k
    · obtain ⟨p, hp, rfl⟩ := he
      rw [valOf_mem hs hp, valOf_mem (hs.sublist List.filter_sublist) (List.mem_filter.2 ⟨hp, hk⟩)]
    · rw [valOf_none fun p hp e => he ⟨p, hp, e⟩, valOf_none fun p hp e => he ⟨p, (List.mem_filter.1 hp).1, e⟩]
  · rw [if_neg hk]
    exact valOf_none fun p hp e => hk (e ▸ (List.mem_filter.1 hp).2)
theorem up_apart (n : Int) : ∀ p ∈ upL cs os n l, ∀ q ∈ ptL cs os n l, p.1 ≠ q.1 := fun p hp q hq e => by
  have h1 := (List.mem_filter.1 hp).2
  have h2 := (List.mem_filter.1 hq).2
  rw [e] at h1
  simp at h1 h2
  omega
theorem up_mem (n : Int) (p : Pr) : p ∈ upL cs os (n + 1) l ↔ p ∈ upL cs os n l ∨ p ∈ ptL cs os n l := by
  simp only [upL, ptL, List.mem_filter, decide_eq_true_eq]
  constructor
  · rintro ⟨h1, h2⟩
    by_cases h3 : whV cs os p.1 = n
    · exact .inr ⟨h1, h3⟩
    · exact .inl ⟨h1, by omega⟩
  · rintro (⟨h1, h2⟩ | ⟨h1, h2⟩)
    · exact ⟨h1, by omega⟩
    · exact ⟨h1, by omega⟩
end
/-- two valid stores with the same pairs are one -/
theorem Ok.one_ {l m : List Pr} (hl : Ok l) (hm : Ok m) (h : ∀ p, p ∈ l ↔ p ∈ m) : l = m := by
  refine hl.ext hm fun k => ?_
  by_cases he : ∃ p ∈ l, p.1 = k
  · obtain ⟨p, hp, rfl⟩ := he
    rw [valOf_mem hl.srt hp, valOf_mem hm.srt ((h p).1 hp)]
  · rw [valOf_none fun p hp e => he ⟨p, hp, e⟩, valOf_none fun p hp e => he ⟨p, (h p).2 hp, e⟩]
end Go.Proofs.YtoelnhnbefkfoaaDoor
