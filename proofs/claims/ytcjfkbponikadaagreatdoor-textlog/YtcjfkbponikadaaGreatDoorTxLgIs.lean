/-
  What Log answers, plainly (no program in it).
-/
import Derived.Test.YtcjfkbponikadaaGreatDoorTxLg
import Derived.Lib.ItoaLen
set_option linter.unusedVariables false
set_option linter.unusedSimpArgs false
namespace Go.Proofs.YtcjfkbponikadaaGreatDoor
open Go.Lib

/-- what Log answers: the error, the entries, how many bytes -/
inductive LogIs (l : List UInt8) : Int → List Ent → Nat → Prop
  | large (h : 20000 < l.length) : LogIs l 2 [] 0
  | ok {ys : List Ent} {k : Nat} (h : l.length ≤ 20000) (hr : LogTo l ys k) (hs : (rdE (l.drop k)).1 = 7) : LogIs l 0 ys k
  | bad {ys : List Ent} {k : Nat} {q : Int} (h : l.length ≤ 20000) (hr : LogTo l ys k) (hq : (rdE (l.drop k)).1 = q) (h0 : q ≠ 0) (h7 : q ≠ 7) : LogIs l q [] 0
theorem LogTo.cut_ {l : List UInt8} {ys : List Ent} {m : Nat} (h : LogTo l ys m) : ∀ j, j < ys.length → ∃ m', LogTo l (ys.take j) m' ∧ (rdE (l.drop m')).1 = 0 := by
  induction h with
  | nil => intro j hj; simp at hj
  | @snoc xs k x n h hr ih =>
    intro j hj
    rcases Nat.lt_or_ge j xs.length with h1 | h1
    · obtain ⟨m', a, b⟩ := ih j h1
      exact ⟨m', by rw [List.take_append_of_le_length (by omega)]; exact a, b⟩
    · have e : j = xs.length := by simp at hj; omega
      subst e
      exact ⟨k, by simpa using h, by rw [hr]⟩
theorem LogTo.stop {l : List UInt8} {xs ys : List Ent} {k m : Nat} (h : LogTo l xs k) (hs : (rdE (l.drop k)).1 ≠ 0) (h2 : LogTo l ys m) : ys.length ≤ xs.length := by
  rcases Nat.lt_or_ge xs.length ys.length with hl | hl
  · obtain ⟨m', a, b⟩ := h2.cut_ _ hl
    obtain ⟨_, e⟩ := h.same a (by simp; omega)
    subst e; exact absurd b hs
  · exact hl
theorem LogTo.only {l : List UInt8} {xs ys : List Ent} {k m : Nat} (h : LogTo l xs k) (hs : (rdE (l.drop k)).1 ≠ 0) (h2 : LogTo l ys m) (hs2 : (rdE (l.drop m)).1 ≠ 0) : xs = ys ∧ k = m :=
  h.same h2 (Nat.le_antisymm (h2.stop hs2 h) (h.stop hs h2))
/-- one answer -/
theorem LogIs.same {l : List UInt8} {q q' : Int} {ys ys' : List Ent} {k k' : Nat} (h : LogIs l q ys k) (h' : LogIs l q' ys' k') : q = q' ∧ ys = ys' ∧ k = k' := by
  cases h with
  | large h =>
    cases h' with
    | large _ => exact ⟨rfl, rfl, rfl⟩
    | ok h2 _ _ => omega
    | bad h2 _ _ _ _ => omega
  | ok h hr hs =>
    cases h' with
    | large _ => omega
    | ok _ hr2 hs2 =>
      obtain ⟨rfl, rfl⟩ := hr.only (by rw [hs]; decide) hr2 (by rw [hs2]; decide)
      exact ⟨rfl, rfl, rfl⟩
    | bad _ hr2 hq h0 h7 =>
      obtain ⟨rfl, rfl⟩ := hr.only (by rw [hs]; decide) hr2 (by rw [hq]; exact h0)
      exact absurd (hq.symm.trans hs) h7
  | bad h hr hq h0 h7 =>
    cases h' with
    | large _ => omega
    | ok _ hr2 hs2 =>
      obtain ⟨rfl, rfl⟩ := hr.only (by rw [hq]; exact h0) hr2 (by rw [hs2]; decide)
      exact absurd (hq.symm.trans hs2) h7
    | bad _ hr2 hq2 _ _ =>
      obtain ⟨rfl, rfl⟩ := hr.only (by rw [hq]; exact h0) hr2 (by rw [hq2]; assumption)
      exact ⟨hq.symm.trans hq2, rfl, rfl⟩
theorem LogTo.room {l : List UInt8} {ys : List Ent} {k : Nat} (h : LogTo l ys k) : ys.length * 2 ≤ k := by
  induction h with
  | nil => simp
  | snoc h hr ih => have := (rdE_len hr).1; simp; omega
theorem logT_cons (x : Ent) (xs : List Ent) : logT (x :: xs) = entT x ++ logT xs := by simp [logT]
theorem entT_nl {x : Ent} (h : chkE x = 0) : ∃ b, entT x = b ++ [10] ∧ (10 : UInt8) ∉ b := ⟨_, by rw [show entT x = (bodyT x ++ 32 :: itoa (sm (bodyT x))) ++ [10] by simp [entT, lnT]], line_not h⟩
/-- a log that is cut off: its whole lines, and what has no newline -/
theorem log_cut (xs : List Ent) (h : ∀ x ∈ xs, chkE x = 0) : ∀ n, ∃ j rest, j ≤ xs.length ∧ (logT xs).take n = logT (xs.take j) ++ rest ∧ (10 : UInt8) ∉ rest ∧ ((logT xs).take n).count 10 = j := by
  induction xs with
  | nil => intro n; exact ⟨0, [], Nat.le_refl _, by simp [logT], by simp, by simp [logT]⟩
  | cons x r ih =>
    intro n
    obtain ⟨b, hb, hn⟩ := entT_nl (h x (by simp))
    rw [logT_cons, hb]
    rcases Nat.lt_or_ge b.length n with hlt | hge
    · obtain ⟨j, rest, h1, h2, h3, h4⟩ := ih (fun y hy => h y (by simp [hy])) (n - (b.length + 1))
      have e : (b ++ [10] ++ logT r).take n = (b ++ [10]) ++ (logT r).take (n - (b.length + 1)) := by
        rw [List.take_append, List.take_of_length_le (by simp; omega)]; simp
      refine ⟨j + 1, rest, by simp; omega, ?_, h3, ?_⟩
      · rw [e, h2, List.take_succ_cons, logT_cons, hb]; simp
      · rw [e, List.count_append, h4, List.count_append, List.count_eq_zero.2 hn]; simp; omega
    · have e : (b ++ [10] ++ logT r).take n = b.take n := by
        rw [List.append_assoc, List.take_append_of_le_length (by omega)]
      have hm : (10 : UInt8) ∉ b.take n := fun hm => hn (List.mem_of_mem_take hm)
      exact ⟨0, b.take n, Nat.zero_le _, by rw [e]; simp [logT], hm, by rw [e, List.count_eq_zero.2 hm]⟩
/-- a log that was written, and a piece of a line -/
theorem log_is (xs : List Ent) (rest : List UInt8) (h : ∀ x ∈ xs, chkE x = 0) (hr : (10 : UInt8) ∉ rest) (hl : (logT xs ++ rest).length ≤ 20000) : LogIs (logT xs ++ rest) 0 (xs.map bareE) (logT xs).length :=
  .ok hl (log_read xs rest h) (by rw [List.drop_left, rdE_short hr])
theorem logT_len (xs : List Ent) (h : ∀ x ∈ xs, chkE x = 0) : (logT xs).length ≤ xs.length * 300 := by
  induction xs with
  | nil => simp [logT]
  | cons x r ih =>
    have h1 := ih (fun y hy => h y (by simp [hy]))
    have hbl := body_len (h x (by simp))
    have hsl := itoa_length_le (sm (bodyT x) : Int) (by have := sm_lt (bodyT x); omega) (by have := sm_lt (bodyT x); omega)
    rw [logT_cons]
    have htl : (entT x).length ≤ 300 := by simp only [entT, lnT, List.length_append, List.length_cons, List.length_nil]; omega
    rw [List.length_append, List.length_cons]; omega
end Go.Proofs.YtcjfkbponikadaaGreatDoor
