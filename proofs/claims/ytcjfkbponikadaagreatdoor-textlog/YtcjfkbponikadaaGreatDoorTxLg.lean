/-
  Logs as text, plainly (no program in it).
-/
import Derived.Test.YtcjfkbponikadaaGreatDoorTxByte
set_option linter.unusedVariables false
set_option linter.unusedSimpArgs false
namespace Go.Proofs.YtcjfkbponikadaaGreatDoor
open Go.Lib

/-- the first lines, read: their entries and how many bytes they are -/
inductive LogTo (l : List UInt8) : List Ent → Nat → Prop
  | nil : LogTo l [] 0
  | snoc {xs : List Ent} {k : Nat} {x : Ent} {n : Nat} (h : LogTo l xs k) (hr : rdE (l.drop k) = (0, x, n)) : LogTo l (xs ++ [x]) (k + n)
/-- lines one behind the other -/
def logT (xs : List Ent) : List UInt8 := (xs.map entT).flatten
theorem logT_snoc (xs : List Ent) (x : Ent) : logT (xs ++ [x]) = logT xs ++ entT x := by simp [logT]
theorem rdE_len {l : List UInt8} {x : Ent} {n : Nat} (h : rdE l = (0, x, n)) : 2 ≤ n ∧ n ≤ l.length := by
  obtain ⟨more, h1, _, _, h4⟩ := ent_rdE h
  have h2 : 2 ≤ (entT x).length := by simp only [entT, lnT, List.length_append, List.length_cons, List.length_nil]; omega
  refine ⟨by omega, ?_⟩
  rw [h1, h4]; simp
theorem LogTo.le {l : List UInt8} {xs : List Ent} {k : Nat} (h : LogTo l xs k) : k ≤ l.length := by
  induction h with
  | nil => exact Nat.zero_le _
  | snoc h hr ih =>
    have := (rdE_len hr).2
    rw [List.length_drop] at this
    omega
/-- a log that was written is read -/
theorem log_read (xs : List Ent) (rest : List UInt8) (h : ∀ x ∈ xs, chkE x = 0) : LogTo (logT xs ++ rest) (xs.map bareE) (logT xs).length := by
  suffices H : ∀ (ys zs : List Ent), xs = ys ++ zs → LogTo (logT xs ++ rest) (ys.map bareE) (logT ys).length from H xs [] (by simp)
  intro ys
  induction hn : ys.length generalizing ys with
  | zero =>
    intro zs _
    have : ys = [] := List.length_eq_zero_iff.1 hn
    subst this
    exact LogTo.nil
  | succ n ih =>
    intro zs hx
    obtain ⟨ws, y, rfl⟩ : ∃ ws y, ys = ws ++ [y] := ⟨ys.dropLast, ys.getLast (by intro e; rw [e] at hn; simp at hn), (List.dropLast_concat_getLast _).symm⟩
    have hl : ws.length = n := by simp at hn; omega
    have h1 := ih ws hl (y :: zs) (by rw [hx]; simp)
    have hy : chkE y = 0 := h y (by rw [hx]; simp)
    have hd : (logT xs ++ rest).drop (logT ws).length = entT y ++ (logT zs ++ rest) := by
      rw [hx]
      simp [logT, List.drop_append]
    have h2 := h1.snoc (x := bareE y) (n := (entT y).length) (by rw [hd]; exact rdE_ent hy _)
    rw [List.map_append, logT_snoc, List.length_append]
    exact h2
/-- what follows has no newline -/
theorem rdE_short {l : List UInt8} (h : (10 : UInt8) ∉ l) : rdE l = (7, ent0, 0) := by
  unfold rdE; rw [cut_no h]; rfl
/-- reading goes one way -/
theorem LogTo.same {l : List UInt8} {xs : List Ent} {k : Nat} (h : LogTo l xs k) : ∀ {ys : List Ent} {m : Nat}, LogTo l ys m → xs.length = ys.length → xs = ys ∧ k = m := by
  induction h with
  | nil =>
    intro ys m h2 hl
    cases h2 with
    | nil => exact ⟨rfl, rfl⟩
    | snoc h2 hr => simp at hl
  | snoc h hr ih =>
    intro ys m h2 hl
    cases h2 with
    | nil => simp at hl
    | snoc h2 hr2 =>
      obtain ⟨rfl, rfl⟩ := ih h2 (by simpa using hl)
      rw [hr] at hr2
      injection hr2 with _ hr2
      injection hr2 with e1 e2
      exact ⟨by rw [e1], by rw [e2]⟩
end Go.Proofs.YtcjfkbponikadaaGreatDoor
