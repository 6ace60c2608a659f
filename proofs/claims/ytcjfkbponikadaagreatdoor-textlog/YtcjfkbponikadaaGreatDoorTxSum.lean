/-
  The sum of a text, the last space of a line, plainly (no program in it).
-/
import Derived.Test.YtcjfkbponikadaaGreatDoorTxNum
set_option linter.unusedVariables false
set_option linter.unusedSimpArgs false
namespace Go.Proofs.YtcjfkbponikadaaGreatDoor
open Go.Lib

/-- each byte times its place -/
def wsum (i : Nat) : List UInt8 → Nat
  | [] => 0
  | b :: l => b.toNat * (i + 1) + wsum (i + 1) l
/-- the sum of a text -/
def sm (l : List UInt8) : Nat := wsum 0 l % 65521
theorem wsum_app (a b : List UInt8) : ∀ i, wsum i (a ++ b) = wsum i a + wsum (i + a.length) b := by
  induction a with
  | nil => intro i; simp [wsum]
  | cons x a ih =>
    intro i
    rw [List.cons_append, wsum, wsum, ih, List.length_cons, show i + 1 + a.length = i + (a.length + 1) by omega, Nat.add_assoc]
theorem sm_step {l : List UInt8} {k : Nat} (h : k < l.length) : sm (l.take (k + 1)) = (sm (l.take k) + l[k].toNat * (k + 1)) % 65521 := by
  unfold sm
  rw [List.take_succ_eq_append_getElem h, wsum_app]
  have e : 0 + (l.take k).length = k := by simp; omega
  rw [e, wsum, wsum, Nat.add_zero]
  generalize wsum 0 (l.take k) = p
  generalize l[k].toNat * (k + 1) = q
  omega
theorem sm_lt (l : List UInt8) : sm l < 65521 := Nat.mod_lt _ (by decide)
/-- from behind -/
def smB (l : List UInt8) (k : Nat) : Nat := wsum k (l.drop k) % 65521
theorem smB_step {l : List UInt8} {k : Nat} (h : k < l.length) : smB l k = (smB l (k + 1) + (k + 1) * l[k].toNat) % 65521 := by
  unfold smB
  rw [List.drop_eq_getElem_cons h, wsum, Nat.mul_comm (k + 1)]
  generalize wsum (k + 1) (l.drop (k + 1)) = p
  generalize l[k].toNat * (k + 1) = q
  omega
theorem smB_zero (l : List UInt8) : smB l 0 = sm l := rfl
theorem smB_end (l : List UInt8) : smB l l.length = 0 := by unfold smB; rw [List.drop_length]; rfl
/-- one byte is another one: the sum differs -/
theorem sm_set {l : List UInt8} {i : Nat} {v : UInt8} (h : i < l.length) (hl : l.length ≤ 256) (hv : v ≠ l[i]) : sm (l.set i v) ≠ sm l := by
  intro e
  have e1 : l = l.take i ++ l[i] :: l.drop (i + 1) := by rw [← List.drop_eq_getElem_cons h, List.take_append_drop]
  have e2 : l.set i v = l.take i ++ v :: l.drop (i + 1) := by
    rw [List.set_eq_take_append_cons_drop, if_pos h]
  have hi : (l.take i).length = i := by simp; omega
  unfold sm at e
  rw [e2] at e
  rw [show wsum 0 l = wsum 0 (l.take i ++ l[i] :: l.drop (i + 1)) from congrArg _ e1] at e
  rw [wsum_app, wsum_app, wsum, wsum, hi] at e
  have hne : v.toNat ≠ l[i].toNat := fun h => hv (UInt8.toNat_inj.1 h)
  have b1 := v.toNat_lt
  have b2 := (l[i]).toNat_lt
  generalize wsum 0 (l.take i) = p at e
  generalize wsum (0 + i + 1) (l.drop (i + 1)) = q at e
  generalize v.toNat = a at *
  generalize (l[i]).toNat = b at *
  have hm : i + 1 ≤ 256 := by omega
  rw [Nat.zero_add] at e
  generalize hs : i + 1 = s at *
  have h1 : a * s + (p + q) = a * s + (p + q) := rfl
  rcases Nat.lt_or_ge a b with hab | hab
  · obtain ⟨d, rfl⟩ : ∃ d, b = a + d := ⟨b - a, by omega⟩
    have hd : d * s ≤ 255 * 256 := Nat.mul_le_mul (by omega) hm
    have hd1 : 1 ≤ d * s := Nat.mul_pos (by omega) (by omega)
    rw [Nat.add_mul] at e
    generalize d * s = x at *
    generalize a * s = y at *
    omega
  · obtain ⟨d, rfl⟩ : ∃ d, a = b + d := ⟨a - b, by omega⟩
    have hd : d * s ≤ 255 * 256 := Nat.mul_le_mul (by omega) hm
    have hd1 : 1 ≤ d * s := Nat.mul_pos (by omega) (by omega)
    rw [Nat.add_mul] at e
    generalize d * s = x at *
    generalize b * s = y at *
    omega

/-! the last space -/
theorem at_last (c : UInt8) (l : List UInt8) : c ∉ l ∨ ∃ a r, l = a ++ c :: r ∧ c ∉ r := by
  rcases at_byte c l.reverse with h | ⟨a, r, h1, h2⟩
  · exact .inl (fun hm => h (List.mem_reverse.2 hm))
  · refine .inr ⟨r.reverse, a.reverse, ?_, fun hm => h2 (List.mem_reverse.1 hm)⟩
    have := congrArg List.reverse h1
    simpa using this
theorem occ_at (c : UInt8) (l : List UInt8) (j : Nat) : occAt l [c] j = decide (l[j]? = some c) := by
  unfold occAt
  by_cases h : j < l.length
  · rw [List.drop_eq_getElem_cons h, List.getElem?_eq_getElem h]
    simp only [List.isPrefixOf, Bool.and_true]
    by_cases e : c = l[j]
    · simp [e]
    · have : ¬ l[j] = c := fun h => e h.symm
      simp [e, this]
  · rw [List.drop_of_length_le (by omega), List.getElem?_eq_none (by omega)]
    simp [List.isPrefixOf]
theorem last_no {c : UInt8} {l : List UInt8} (h : c ∉ l) : lastIndex l [c] = -1 := by
  unfold lastIndex
  split
  · rcases lastOcc_spec l [c] (l.length - [c].length + 1) with ⟨h1, _⟩ | ⟨i, _, _, h2, _⟩
    · exact h1
    · rw [occ_at] at h2
      exact absurd (List.mem_of_getElem? (of_decide_eq_true h2)) h
  · rfl
theorem last_hit {c : UInt8} {a r : List UInt8} (h : c ∉ r) : lastIndex (a ++ c :: r) [c] = a.length := by
  unfold lastIndex
  rw [if_pos (by simp; omega)]
  have hl : (a ++ c :: r).length - [c].length + 1 = a.length + r.length + 1 := by simp
  rw [hl]
  have ho : occAt (a ++ c :: r) [c] a.length = true := by rw [occ_at]; simp
  rcases lastOcc_spec (a ++ c :: r) [c] (a.length + r.length + 1) with ⟨_, h2⟩ | ⟨i, hi, h1, h2, h3⟩
  · have := h2 a.length (by omega)
    rw [ho] at this; cases this
  · rw [h1]
    rcases Nat.lt_trichotomy i a.length with hlt | heq | hgt
    · have := h3 a.length hlt (by omega)
      rw [ho] at this; cases this
    · rw [heq]
    · rw [occ_at] at h2
      have h4 := of_decide_eq_true h2
      rw [List.getElem?_append_right (by omega)] at h4
      obtain ⟨m, hm⟩ : ∃ m, i - a.length = m + 1 := ⟨i - a.length - 1, by omega⟩
      rw [hm, List.getElem?_cons_succ] at h4
      exact absurd (List.mem_of_getElem? h4) h
end Go.Proofs.YtcjfkbponikadaaGreatDoor
