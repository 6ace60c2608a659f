/-
  There are no more valid keys than 27^6, so that a valid store is no longer (no program in it).
-/
import Derived.Test.YtoelnhnbefkfoaaDoorSpec
set_option linter.unusedVariables false
set_option linter.unusedSimpArgs false
namespace Go.Proofs.YtoelnhnbefkfoaaDoor
open Go.RowKit

/-- a key as a number of n digits to the base 27 -/
def num : Nat → List UInt8 → Nat
  | 0, _ => 0
  | _ + 1, [] => 0
  | n + 1, c :: r => (c.toNat - 96) * 27 ^ n + num n r
theorem low_dig {c : UInt8} (h : lowB c = true) : 1 ≤ c.toNat - 96 ∧ c.toNat - 96 ≤ 26 := by
  simp [lowB] at h; omega
theorem num_lt : ∀ (n : Nat) (l : List UInt8), l.all lowB = true → num n l < 27 ^ n
  | 0, l, _ => by simp [num]
  | n + 1, [], _ => by simp only [num]; exact Nat.pow_pos (by omega)
  | n + 1, c :: r, h => by
    simp only [List.all_cons, Bool.and_eq_true] at h
    have h1 := low_dig h.1
    have h2 := num_lt n r h.2
    simp only [num]
    have h3 : (c.toNat - 96) * 27 ^ n ≤ 26 * 27 ^ n := Nat.mul_le_mul_right _ h1.2
    rw [Nat.pow_succ]
    omega
theorem num_mono : ∀ (n : Nat) (l m : List UInt8), l.all lowB = true → m.all lowB = true → l.length ≤ n → m.length ≤ n → l < m → num n l < num n m
  | 0, l, m, _, _, h1, h2, h => by
    have e1 : l = [] := List.length_eq_zero_iff.1 (by omega)
    have e2 : m = [] := List.length_eq_zero_iff.1 (by omega)
    subst e1; subst e2; exact absurd h (List.lt_irrefl _)
  | n + 1, [], [], _, _, _, _, h => absurd h (List.lt_irrefl _)
  | n + 1, [], c :: r, _, hm, _, _, _ => by
    simp only [List.all_cons, Bool.and_eq_true] at hm
    have h1 := low_dig hm.1
    simp only [num]
    have h3 : 1 * 27 ^ n ≤ (c.toNat - 96) * 27 ^ n := Nat.mul_le_mul_right _ h1.1
    have h4 : 0 < 27 ^ n := Nat.pow_pos (by omega)
    omega
  | n + 1, c :: r, [], _, _, _, _, h => absurd h (List.not_lt_nil _)
  | n + 1, c :: r, d :: s, hl, hm, h1, h2, h => by
    simp only [List.all_cons, Bool.and_eq_true] at hl hm
    have c1 := low_dig hl.1
    have d1 := low_dig hm.1
    have hr := num_lt n r hl.2
    simp only [num]
    rcases List.cons_lt_cons_iff.1 h with hcd | ⟨rfl, hrs⟩
    · have hlt : c.toNat < d.toNat := UInt8.lt_iff_toNat_lt.1 hcd
      have h3 : (c.toNat - 96 + 1) * 27 ^ n ≤ (d.toNat - 96) * 27 ^ n := Nat.mul_le_mul_right _ (by omega)
      rw [Nat.add_mul] at h3
      omega
    · have := num_mono n r s hl.2 hm.2 (by simp at h1; omega) (by simp at h2; omega) hrs
      omega
theorem len_of_incr {B : Nat} : ∀ (l : List Nat) (lo : Nat), l.Pairwise (· < ·) → (∀ x ∈ l, lo ≤ x ∧ x < B) → lo ≤ B → lo + l.length ≤ B
  | [], lo, _, _, h => by simpa using h
  | x :: r, lo, hp, hb, h => by
    have hp' := List.pairwise_cons.1 hp
    have hx := hb x (by simp)
    have := len_of_incr r (x + 1) hp'.2 (fun y hy => ⟨hp'.1 y hy, (hb y (by simp [hy])).2⟩) (by omega)
    simp only [List.length_cons]
    omega
theorem Ok.small {l : List Pr} (h : Ok l) : l.length ≤ 387420489 := by
  have hk : ∀ p ∈ l, (by8 p.1).all lowB = true ∧ (by8 p.1).length ≤ 6 := fun p hp => by
    have := h.key p hp
    simp only [keyB, Bool.and_eq_true, decide_eq_true_eq] at this
    exact ⟨this.2, by have := this.1.2; simpa [by8] using this⟩
  have hp : (l.map fun p => num 6 (by8 p.1)).Pairwise (· < ·) := by
    rw [List.pairwise_map]
    refine h.srt.imp_of_mem ?_
    intro p q hp hq hlt
    exact num_mono 6 _ _ (hk p hp).1 (hk q hq).1 (hk p hp).2 (hk q hq).2 (ltB_iff.1 hlt)
  have := len_of_incr (B := 387420489) _ 0 hp (fun x hx => by
    obtain ⟨p, hp, rfl⟩ := List.mem_map.1 hx
    exact ⟨Nat.zero_le _, num_lt 6 _ (hk p hp).1⟩) (by omega)
  simpa using this
end Go.Proofs.YtoelnhnbefkfoaaDoor
