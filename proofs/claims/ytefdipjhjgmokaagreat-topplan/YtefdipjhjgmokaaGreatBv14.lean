/-
  store.Put at a valid store, key and value: the store with that key set, in memory of its own.
  What a transaction makes of the values of keys (no program in it).
  Replicas, plainly: what entries make of them (no program in it).
-/
import Derived.Test.YtefdipjhjgmokaaGreatBv13
import Derived.Test.YtefdipjhjgmokaaGreatBv1
set_option linter.unusedVariables false
set_option linter.unusedSimpArgs false
namespace Go.Proofs.YtefdipjhjgmokaaGreat
open Go.RowKit

/-- a store with one key set is handed back, in memory of its own -/
def RetPut (w : World) (l : List Pr) (key : ByteArray) (n : Int) (e : Ending) (w' : World) : Prop :=
  ∃ A c l', e = .returned (.tuple #[.slice A l'.length c, .int .i64 0]) ∧ SV w' A c l' ∧ Ok l' ∧ valOf l' = upd (valOf l) key n ∧ (Below w.heap.size w w' ∧ OV w' w.heap.size A c l')
theorem put_st (A : Option Addr) (c : Nat) (l : List Pr) (key : ByteArray) (n : Int) (w : World) (hA : SV w A c l) (hl : Ok l) (hk : keyB key = true) (hn : valB n = true) :
    Calls Tryz.prog 13 #[.slice A l.length c, .string key, .int .i64 n] w (RetPut w l key n) := by
  have hq := posOf_at hl.srt key
  have := hl.small
  refine (put_own A c l key n (posOf l key) w hA hl hk hn hq (by omega)).mono ?_
  rintro e w' ⟨A', c', rfl, hsv, hb⟩
  have h := putL_ok hl hq hk hn
  exact ⟨A', c', _, rfl, hsv, h.1, funext h.2, hb⟩

set_option maxHeartbeats 400000 in
set_option maxRecDepth 100000 in
theorem put_nv (A : Option Addr) (c : Nat) (l : List Pr) (key : ByteArray) (n : Int) (w : World) (hA : SV w A c l) (h : Ok l) (hk : keyB key = true) (hn : valB n = false) :
    Calls Tryz.prog 13 #[.slice A l.length c, .string key, .int .i64 n] w fun e w' => e = .returned (.tuple #[.slice none 0 0, .int .i64 1]) ∧ Below w.heap.size w w' := by
  have hps := hA.ps
  have hl : l.length < 4611686018427387904 := by have := h.small; omega
  have HC := hideP (chk_ok.2 h)
  clear hA h
  go_enter Tryz.func13, Tryz.ntmps13
  go_wp2_with fail
  refine (check_any A c l _ hps hl).mono ?_
  rintro e w' ⟨rfl, hb⟩
  rw [HC.out]
  go_wp2_with fail
  refine (key_any _ _).mono ?_
  rintro e w' ⟨rfl, rfl⟩
  go_wp2_with fail
  refine (value_any _ _).mono ?_
  rintro e w' ⟨rfl, rfl⟩
  go_wp2_with fail
  go_ret2
  exact ⟨rfl, hb⟩
end Go.Proofs.YtefdipjhjgmokaaGreat

set_option linter.unusedVariables false
set_option linter.unusedSimpArgs false
namespace Go.Proofs.YtefdipjhjgmokaaGreat
open Go.RowKit

/-- a key set to a value, if that is a valid one -/
def putV (v : VF) (k : ByteArray) (n : Int) : Option VF := if valB n = true then some (upd v k n) else none
/-- what Move makes -/
def moveV (v : VF) (o : Opr) : Option VF :=
  if v o.src < o.n then none else putV (upd v o.src (v o.src - o.n)) o.key (upd v o.src (v o.src - o.n) o.key + o.n)
/-- what an operation makes -/
def stepV (v : VF) (o : Opr) : Option VF :=
  if o.kind = 1 then putV v o.key o.n
  else if o.kind = 2 then putV v o.key (v o.key + o.n)
  else if o.kind = 3 then putV v o.key (v o.src)
  else if o.kind = 4 then (if o.n ≤ v o.key then some v else none)
  else moveV v o
/-- what operations make, one after another -/
def runV (v : VF) : List Opr → Option VF
  | [] => some v
  | o :: r => match stepV v o with
    | some u => runV u r
    | none => none
theorem runV_nil (v : VF) : runV v [] = some v := rfl
theorem runV_cons (v : VF) (o : Opr) (r : List Opr) : runV v (o :: r) = (stepV v o).bind fun u => runV u r := by
  simp only [runV]
  cases stepV v o <;> rfl
theorem runV_append (v : VF) (l m : List Opr) : runV v (l ++ m) = (runV v l).bind fun u => runV u m := by
  induction l generalizing v with
  | nil => rfl
  | cons o r ih =>
    rw [List.cons_append, runV_cons, runV_cons]
    cases stepV v o with
    | none => rfl
    | some u => exact ih u
theorem runV_take {v u : VF} {l : List Opr} {k : Nat} (h : k < l.length) (hu : runV v (l.take k) = some u) : runV v (l.take (k + 1)) = stepV u l[k] := by
  rw [List.take_succ_eq_append_getElem h, runV_append, hu]
  show runV u [l[k]] = _
  rw [runV_cons]
  cases stepV u l[k] <;> rfl
theorem runV_none {v : VF} {l : List Opr} {k : Nat} (h : runV v (l.take k) = none) : runV v l = none := by
  rw [← List.take_append_drop k l, runV_append, h]; rfl
/-- what a transaction leaves, and whether it was executed -/
def doneV (v : VF) (l : List Opr) : VF × Bool := match runV v l with
  | some u => (u, true)
  | none => (v, false)
theorem doneV_some {v u : VF} {l : List Opr} (h : runV v l = some u) : doneV v l = (u, true) := by unfold doneV; rw [h]
theorem doneV_none {v : VF} {l : List Opr} (h : runV v l = none) : doneV v l = (v, false) := by unfold doneV; rw [h]
/-- transactions one after another: the values, and whether each was executed -/
def serV (v : VF) : List (List Opr) → VF × List Bool
  | [] => (v, [])
  | d :: r => ((serV (doneV v d).1 r).1, (doneV v d).2 :: (serV (doneV v d).1 r).2)
theorem serV_append (v : VF) (a b : List (List Opr)) : serV v (a ++ b) = ((serV (serV v a).1 b).1, (serV v a).2 ++ (serV (serV v a).1 b).2) := by
  induction a generalizing v with
  | nil => rfl
  | cons d r ih => simp [serV, ih]
theorem serV_len (v : VF) (a : List (List Opr)) : (serV v a).2.length = a.length := by
  induction a generalizing v with
  | nil => rfl
  | cons d r ih => simp [serV, ih]
theorem serV_take {v : VF} {a : List (List Opr)} {k : Nat} (h : k < a.length) : serV v (a.take (k + 1)) = ((doneV (serV v (a.take k)).1 a[k]).1, (serV v (a.take k)).2 ++ [(doneV (serV v (a.take k)).1 a[k]).2]) := by
  rw [List.take_succ_eq_append_getElem h, serV_append]; rfl
end Go.Proofs.YtefdipjhjgmokaaGreat

set_option linter.unusedVariables false
set_option linter.unusedSimpArgs false
namespace Go.Proofs.YtefdipjhjgmokaaGreat

/-- a replica: its values, its map, what was told -/
structure Sr where
  v : VF
  cs : List ByteArray
  os : List Int
  bs : List Bool
/-- what an entry tells -/
def doneE (v : VF) (x : Ent) : Bool := if x.isM then true else (doneV v x.d).2
/-- an entry is executed -/
def stepR (r : Sr) (x : Ent) : Sr := if x.isM then ⟨r.v, x.cs, x.os, r.bs ++ [true]⟩ else ⟨(doneV r.v x.d).1, r.cs, r.os, r.bs ++ [(doneV r.v x.d).2]⟩
/-- entries are executed -/
def playR (r : Sr) (l : List Ent) : Sr := l.foldl stepR r
theorem stepR_bs (r : Sr) (x : Ent) : (stepR r x).bs = r.bs ++ [doneE r.v x] := by
  unfold stepR doneE
  cases x.isM <;> rfl
theorem playR_nil (r : Sr) : playR r [] = r := rfl
theorem playR_snoc (r : Sr) (l : List Ent) (x : Ent) : playR r (l ++ [x]) = stepR (playR r l) x := by simp [playR]
theorem playR_app (r : Sr) (l m : List Ent) : playR r (l ++ m) = playR (playR r l) m := by simp [playR]
theorem playR_len (l : List Ent) : ∀ r : Sr, (playR r l).bs.length = r.bs.length + l.length := by
  induction l with
  | nil => intro r; rfl
  | cons x l ih =>
    intro r
    have := ih (stepR r x)
    rw [stepR_bs] at this
    show (playR (stepR r x) l).bs.length = _
    rw [this]
    simp; omega
theorem playR_take (r : Sr) (l : List Ent) (k : Nat) (h : k < l.length) : playR r (l.take (k + 1)) = stepR (playR r (l.take k)) l[k] := by
  rw [List.take_succ_eq_append_getElem h, playR_snoc]
/-- Step: its error, what it tells, what it makes -/
def cpQ (log : List Ent) (st : List Sr) (i : Int) : Int := if 0 ≤ i ∧ i < (st.length : Int) then (match st[i.toNat]? with | some r => if r.bs.length < log.length then 0 else 6 | none => 4) else 4
def cpB (log : List Ent) (st : List Sr) (i : Int) : Bool := match st[i.toNat]? with
  | some r => match log[r.bs.length]? with
    | some x => decide (0 ≤ i) && doneE r.v x
    | none => false
  | none => false
def cpS (log : List Ent) (st : List Sr) (i : Int) : List Sr := if 0 ≤ i then (match st[i.toNat]? with
  | some r => match log[r.bs.length]? with
    | some x => st.set i.toNat (stepR r x)
    | none => st
  | none => st) else st
theorem cp_none {log : List Ent} {st : List Sr} {i : Int} (h : ¬ (0 ≤ i ∧ i < (st.length : Int))) : cpQ log st i = 4 ∧ cpB log st i = false ∧ cpS log st i = st := by
  refine ⟨by unfold cpQ; rw [if_neg h], ?_, ?_⟩
  · unfold cpB
    cases e : st[i.toNat]? with
    | none => rfl
    | some r =>
      have h2 := (List.getElem?_eq_some_iff.1 e).1
      have h3 : ¬ 0 ≤ i := fun h0 => h ⟨h0, by omega⟩
      cases e2 : log[r.bs.length]? with
      | none => simp only [e2]
      | some x => simp only [e2, h3, decide_false, Bool.false_and]
  · unfold cpS
    by_cases h0 : 0 ≤ i
    · rw [if_pos h0, List.getElem?_eq_none (by omega)]
    · rw [if_neg h0]
theorem cp_wait {log : List Ent} {st : List Sr} {i : Nat} {r : Sr} (hi : st[i]? = some r) (h : log.length ≤ r.bs.length) : cpQ log st (i : Int) = 6 ∧ cpB log st (i : Int) = false ∧ cpS log st (i : Int) = st := by
  have h2 := (List.getElem?_eq_some_iff.1 hi).1
  have e2 : log[r.bs.length]? = none := List.getElem?_eq_none h
  refine ⟨?_, ?_, ?_⟩
  · unfold cpQ; rw [if_pos (by omega), Int.toNat_natCast, hi]; simp only; rw [if_neg (by omega)]
  · unfold cpB; rw [Int.toNat_natCast, hi]; simp only [e2]
  · unfold cpS; rw [if_pos (by omega), Int.toNat_natCast, hi]; simp only [e2]
theorem cp_go {log : List Ent} {st : List Sr} {i : Nat} {r : Sr} {x : Ent} (hi : st[i]? = some r) (hx : log[r.bs.length]? = some x) : cpQ log st (i : Int) = 0 ∧ cpB log st (i : Int) = doneE r.v x ∧ cpS log st (i : Int) = st.set i (stepR r x) := by
  have h2 := (List.getElem?_eq_some_iff.1 hi).1
  have h3 := (List.getElem?_eq_some_iff.1 hx).1
  refine ⟨?_, ?_, ?_⟩
  · unfold cpQ; rw [if_pos (by omega), Int.toNat_natCast, hi]; simp only; rw [if_pos h3]
  · unfold cpB; rw [Int.toNat_natCast, hi]; simp only [hx]; simp
  · unfold cpS; rw [if_pos (by omega), Int.toNat_natCast, hi]; simp only [hx]
/-- Take: its error, what it makes -/
def ctQ (st : List Sr) (i k : Int) : Int := if (0 ≤ i ∧ i < (st.length : Int)) ∧ (0 ≤ k ∧ k < (st.length : Int)) then (match st[i.toNat]?, st[k.toNat]? with | some r, some q => if q.bs.length < r.bs.length then 6 else 0 | _, _ => 4) else 4
def ctS (st : List Sr) (i k : Int) : List Sr := if ctQ st i k = 0 then (match st[k.toNat]? with | some q => st.set i.toNat q | none => st) else st
theorem ct_none {st : List Sr} {i k : Int} (h : ¬ ((0 ≤ i ∧ i < (st.length : Int)) ∧ (0 ≤ k ∧ k < (st.length : Int)))) : ctQ st i k = 4 ∧ ctS st i k = st := by
  have e : ctQ st i k = 4 := by unfold ctQ; rw [if_neg h]
  exact ⟨e, by unfold ctS; rw [if_neg (by rw [e]; decide)]⟩
theorem ct_wait {st : List Sr} {i k : Nat} {r q : Sr} (hi : st[i]? = some r) (hk : st[k]? = some q) (h : q.bs.length < r.bs.length) : ctQ st (i : Int) (k : Int) = 6 ∧ ctS st (i : Int) (k : Int) = st := by
  have h2 := (List.getElem?_eq_some_iff.1 hi).1
  have h3 := (List.getElem?_eq_some_iff.1 hk).1
  have e : ctQ st (i : Int) (k : Int) = 6 := by unfold ctQ; rw [if_pos (by omega), Int.toNat_natCast, Int.toNat_natCast, hi, hk]; simp only; rw [if_pos h]
  exact ⟨e, by unfold ctS; rw [if_neg (by rw [e]; decide)]⟩
theorem ct_go {st : List Sr} {i k : Nat} {r q : Sr} (hi : st[i]? = some r) (hk : st[k]? = some q) (h : r.bs.length ≤ q.bs.length) : ctQ st (i : Int) (k : Int) = 0 ∧ ctS st (i : Int) (k : Int) = st.set i q := by
  have h2 := (List.getElem?_eq_some_iff.1 hi).1
  have h3 := (List.getElem?_eq_some_iff.1 hk).1
  have e : ctQ st (i : Int) (k : Int) = 0 := by unfold ctQ; rw [if_pos (by omega), Int.toNat_natCast, Int.toNat_natCast, hi, hk]; simp only; rw [if_neg (by omega)]
  exact ⟨e, by unfold ctS; rw [if_pos e, Int.toNat_natCast, Int.toNat_natCast, hk]⟩
theorem cpS_len (log : List Ent) (st : List Sr) (i : Int) : (cpS log st i).length = st.length := by
  unfold cpS
  split
  · split
    · split <;> simp
    · rfl
  · rfl
theorem ctS_len (st : List Sr) (i k : Int) : (ctS st i k).length = st.length := by
  unfold ctS
  split
  · split <;> simp
  · rfl
end Go.Proofs.YtefdipjhjgmokaaGreat
