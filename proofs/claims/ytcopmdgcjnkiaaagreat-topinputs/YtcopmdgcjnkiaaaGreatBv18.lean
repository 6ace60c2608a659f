/-
  Replicas, plainly: what entries make of them (no program in it).
-/
import Derived.Test.YtcopmdgcjnkiaaaGreatBv2
import Derived.Test.YtcopmdgcjnkiaaaGreatBv17
set_option linter.unusedVariables false
set_option linter.unusedSimpArgs false
namespace Go.Proofs.YtcopmdgcjnkiaaaGreat

/-- a replica: its values, its map, what was told -/
structure Sr where
  v : VF
  cs : List ByteArray
  os : List Int
  bs : List Bool
/-- what an entry tells -/
def doneE (v : VF) (x : Ent) : Bool := if x.isM then true else (doneV v x.d).2
/-- an entry is executed -/
def stepR (r : Sr) (x : Ent) : Sr := if x.isM then ⟨r.v, x.cs, x.os, r.bs ++ [true]⟩ else ⟨(doneV r.v x.d).1, r.cs, r.os, r.bs ++ [(doneV r.v x.d).2]⟩
/-- entries are executed -/
def playR (r : Sr) (l : List Ent) : Sr := l.foldl stepR r
theorem stepR_bs (r : Sr) (x : Ent) : (stepR r x).bs = r.bs ++ [doneE r.v x] := by
  unfold stepR doneE
  cases x.isM <;> rfl
theorem playR_nil (r : Sr) : playR r [] = r := rfl
theorem playR_snoc (r : Sr) (l : List Ent) (x : Ent) : playR r (l ++ [x]) = stepR (playR r l) x := by simp [playR]
theorem playR_app (r : Sr) (l m : List Ent) : playR r (l ++ m) = playR (playR r l) m := by simp [playR]
theorem playR_len (l : List Ent) : ∀ r : Sr, (playR r l).bs.length = r.bs.length + l.length := by
  induction l with
  | nil => intro r; rfl
  | cons x l ih =>
    intro r
    have := ih (stepR r x)
    rw [stepR_bs] at this
    show (playR (stepR r x) l).bs.length = _
    rw [this]
    simp; omega
theorem playR_take (r : Sr) (l : List Ent) (k : Nat) (h : k < l.length) : playR r (l.take (k + 1)) = stepR (playR r (l.take k)) l[k] := by
  rw [List.take_succ_eq_append_getElem h, playR_snoc]
/-- Step: its error, what it tells, what it makes -/
def cpQ (log : List Ent) (st : List Sr) (i : Int) : Int := if 0 ≤ i ∧ i < (st.length : Int) then (match st[i.toNat]? with | some r => if r.bs.length < log.length then 0 else 6 | none => 4) else 4
def cpB (log : List Ent) (st : List Sr) (i : Int) : Bool := match st[i.toNat]? with
  | some r => match log[r.bs.length]? with
    | some x => decide (0 ≤ i) && doneE r.v x
    | none => false
  | none => false
def cpS (log : List Ent) (st : List Sr) (i : Int) : List Sr := if 0 ≤ i then (match st[i.toNat]? with
  | some r => match log[r.bs.length]? with
    | some x => st.set i.toNat (stepR r x)
    | none => st
  | none => st) else st
theorem cp_none {log : List Ent} {st : List Sr} {i : Int} (h : ¬ (0 ≤ i ∧ i < (st.length : Int))) : cpQ log st i = 4 ∧ cpB log st i = false ∧ cpS log st i = st := by
  refine ⟨by unfold cpQ; rw [if_neg h], ?_, ?_⟩
  · unfold cpB
    cases e : st[i.toNat]? with
    | none => rfl
    | some r =>
      have h2 := (List.getElem?_eq_some_iff.1 e).1
      have h3 : ¬ 0 ≤ i := fun h0 => h ⟨h0, by omega⟩
      cases e2 : log[r.bs.length]? with
      | none => simp only [e2]
      | some x => simp only [e2, h3, decide_false, Bool.false_and]
  · unfold cpS
    by_cases h0 : 0 ≤ i
    · rw [if_pos h0, List.getElem?_eq_none (by omega)]
    · rw [if_neg h0]
theorem cp_wait {log : List Ent} {st : List Sr} {i : Nat} {r : Sr} (hi : st[i]? = some r) (h : log.length ≤ r.bs.length) : cpQ log st (i : Int) = 6 ∧ cpB log st (i : Int) = false ∧ cpS log st (i : Int) = st := by
  have h2 := (List.getElem?_eq_some_iff.1 hi).1
  have e2 : log[r.bs.length]? = none := List.getElem?_eq_none h
  refine ⟨?_, ?_, ?_⟩
  · unfold cpQ; rw [if_pos (by omega), Int.toNat_natCast, hi]; simp only; rw [if_neg (by omega)]
  · unfold cpB; rw [Int.toNat_natCast, hi]; simp only [e2]
  · unfold cpS; rw [if_pos (by omega), Int.toNat_natCast, hi]; simp only [e2]
theorem cp_go {log : List Ent} {st : List Sr} {i : Nat} {r : Sr} {x : Ent} (hi : st[i]? = some r) (hx : log[r.bs.length]? = some x) : cpQ log st (i : Int) = 0 ∧ cpB log st (i : Int) = doneE r.v x ∧ cpS log st (i : Int) = st.set i (stepR r x) := by
  have h2 := (List.getElem?_eq_some_iff.1 hi).1
  have h3 := (List.getElem?_eq_some_iff.1 hx).1
  refine ⟨?_, ?_, ?_⟩
  · unfold cpQ; rw [if_pos (by omega), Int.toNat_natCast, hi]; simp only; rw [if_pos h3]
  · unfold cpB; rw [Int.toNat_natCast, hi]; simp only [hx]; simp
  · unfold cpS; rw [if_pos (by omega), Int.toNat_natCast, hi]; simp only [hx]
/-- Take: its error, what it makes -/
def ctQ (st : List Sr) (i k : Int) : Int := if (0 ≤ i ∧ i < (st.length : Int)) ∧ (0 ≤ k ∧ k < (st.length : Int)) then (match st[i.toNat]?, st[k.toNat]? with | some r, some q => if q.bs.length < r.bs.length then 6 else 0 | _, _ => 4) else 4
def ctS (st : List Sr) (i k : Int) : List Sr := if ctQ st i k = 0 then (match st[k.toNat]? with | some q => st.set i.toNat q | none => st) else st
theorem ct_none {st : List Sr} {i k : Int} (h : ¬ ((0 ≤ i ∧ i < (st.length : Int)) ∧ (0 ≤ k ∧ k < (st.length : Int)))) : ctQ st i k = 4 ∧ ctS st i k = st := by
  have e : ctQ st i k = 4 := by unfold ctQ; rw [if_neg h]
  exact ⟨e, by unfold ctS; rw [if_neg (by rw [e]; decide)]⟩
theorem ct_wait {st : List Sr} {i k : Nat} {r q : Sr} (hi : st[i]? = some r) (hk : st[k]? = some q) (h : q.bs.length < r.bs.length) : ctQ st (i : Int) (k : Int) = 6 ∧ ctS st (i : Int) (k : Int) = st := by
  have h2 := (List.getElem?_eq_some_iff.1 hi).1
  have h3 := (List.getElem?_eq_some_iff.1 hk).1
  have e : ctQ st (i : Int) (k : Int) = 6 := by unfold ctQ; rw [if_pos (by omega), Int.toNat_natCast, Int.toNat_natCast, hi, hk]; simp only; rw [if_pos h]
  exact ⟨e, by unfold ctS; rw [if_neg (by rw [e]; decide)]⟩
theorem ct_go {st : List Sr} {i k : Nat} {r q : Sr} (hi : st[i]? = some r) (hk : st[k]? = some q) (h : r.bs.length ≤ q.bs.length) : ctQ st (i : Int) (k : Int) = 0 ∧ ctS st (i : Int) (k : Int) = st.set i q := by
  have h2 := (List.getElem?_eq_some_iff.1 hi).1
  have h3 := (List.getElem?_eq_some_iff.1 hk).1
  have e : ctQ st (i : Int) (k : Int) = 0 := by unfold ctQ; rw [if_pos (by omega), Int.toNat_natCast, Int.toNat_natCast, hi, hk]; simp only; rw [if_neg (by omega)]
  exact ⟨e, by unfold ctS; rw [if_pos e, Int.toNat_natCast, Int.toNat_natCast, hk]⟩
theorem cpS_len (log : List Ent) (st : List Sr) (i : Int) : (cpS log st i).length = st.length := by
  unfold cpS
  split
  · split
    · split <;> simp
    · rfl
  · rfl
theorem ctS_len (st : List Sr) (i k : Int) : (ctS st i k).length = st.length := by
  unfold ctS
  split
  · split <;> simp
  · rfl
end Go.Proofs.YtcopmdgcjnkiaaaGreat
