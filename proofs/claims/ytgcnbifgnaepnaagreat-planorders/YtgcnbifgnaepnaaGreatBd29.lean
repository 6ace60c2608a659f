/-
  What a transaction makes of the values of keys (no program in it).
  What transactions leave alone, what they hang on, and which of them commute (no program in it).
-/
import Derived.Test.YtgcnbifgnaepnaaGreatBd28
import Derived.Test.YtgcnbifgnaepnaaGreatBd1
import Derived.Test.YtgcnbifgnaepnaaGreatBd3
set_option linter.unusedVariables false
set_option linter.unusedSimpArgs false
namespace Go.Proofs.YtgcnbifgnaepnaaGreat
open Go.RowKit

/-- a key set to a value, if that is a valid one -/
def putV (v : VF) (k : ByteArray) (n : Int) : Option VF := if valB n = true then some (upd v k n) else none
/-- what Move makes -/
def moveV (v : VF) (o : Opr) : Option VF :=
  if v o.src < o.n then none else putV (upd v o.src (v o.src - o.n)) o.key (upd v o.src (v o.src - o.n) o.key + o.n)
/-- what an operation makes -/
def stepV (v : VF) (o : Opr) : Option VF :=
  if o.kind = 1 then putV v o.key o.n
  else if o.kind = 2 then putV v o.key (v o.key + o.n)
  else if o.kind = 3 then putV v o.key (v o.src)
  else if o.kind = 4 then (if o.n ≤ v o.key then some v else none)
  else moveV v o
/-- what operations make, one after another -/
def runV (v : VF) : List Opr → Option VF
  | [] => some v
  | o :: r => match stepV v o with
    | some u => runV u r
    | none => none
theorem runV_nil (v : VF) : runV v [] = some v := rfl
theorem runV_cons (v : VF) (o : Opr) (r : List Opr) : runV v (o :: r) = (stepV v o).bind fun u => runV u r := by
  simp only [runV]
  cases stepV v o <;> rfl
theorem runV_append (v : VF) (l m : List Opr) : runV v (l ++ m) = (runV v l).bind fun u => runV u m := by
  induction l generalizing v with
  | nil => rfl
  | cons o r ih =>
    rw [List.cons_append, runV_cons, runV_cons]
    cases stepV v o with
    | none => rfl
    | some u => exact ih u
theorem runV_take {v u : VF} {l : List Opr} {k : Nat} (h : k < l.length) (hu : runV v (l.take k) = some u) : runV v (l.take (k + 1)) = stepV u l[k] := by
  rw [List.take_succ_eq_append_getElem h, runV_append, hu]
  show runV u [l[k]] = _
  rw [runV_cons]
  cases stepV u l[k] <;> rfl
theorem runV_none {v : VF} {l : List Opr} {k : Nat} (h : runV v (l.take k) = none) : runV v l = none := by
  rw [← List.take_append_drop k l, runV_append, h]; rfl
/-- what a transaction leaves, and whether it was executed -/
def doneV (v : VF) (l : List Opr) : VF × Bool := match runV v l with
  | some u => (u, true)
  | none => (v, false)
theorem doneV_some {v u : VF} {l : List Opr} (h : runV v l = some u) : doneV v l = (u, true) := by unfold doneV; rw [h]
theorem doneV_none {v : VF} {l : List Opr} (h : runV v l = none) : doneV v l = (v, false) := by unfold doneV; rw [h]
/-- transactions one after another: the values, and whether each was executed -/
def serV (v : VF) : List (List Opr) → VF × List Bool
  | [] => (v, [])
  | d :: r => ((serV (doneV v d).1 r).1, (doneV v d).2 :: (serV (doneV v d).1 r).2)
theorem serV_append (v : VF) (a b : List (List Opr)) : serV v (a ++ b) = ((serV (serV v a).1 b).1, (serV v a).2 ++ (serV (serV v a).1 b).2) := by
  induction a generalizing v with
  | nil => rfl
  | cons d r ih => simp [serV, ih]
theorem serV_len (v : VF) (a : List (List Opr)) : (serV v a).2.length = a.length := by
  induction a generalizing v with
  | nil => rfl
  | cons d r ih => simp [serV, ih]
theorem serV_take {v : VF} {a : List (List Opr)} {k : Nat} (h : k < a.length) : serV v (a.take (k + 1)) = ((doneV (serV v (a.take k)).1 a[k]).1, (serV v (a.take k)).2 ++ [(doneV (serV v (a.take k)).1 a[k]).2]) := by
  rw [List.take_succ_eq_append_getElem h, serV_append]; rfl
end Go.Proofs.YtgcnbifgnaepnaaGreat

set_option linter.unusedVariables false
set_option linter.unusedSimpArgs false
namespace Go.Proofs.YtgcnbifgnaepnaaGreat
open Go.RowKit

theorem putV_some {v u : VF} {k : ByteArray} {n : Int} (h : putV v k n = some u) : valB n = true ∧ u = upd v k n := by
  unfold putV at h
  by_cases hn : valB n = true
  · rw [if_pos hn] at h; injection h with h; exact ⟨hn, h.symm⟩
  · rw [if_neg hn] at h; cases h
theorem putV_ok {v : VF} {k : ByteArray} {n : Int} (hn : valB n = true) : putV v k n = some (upd v k n) := by unfold putV; rw [if_pos hn]
theorem putV_no {v : VF} {k : ByteArray} {n : Int} (hn : ¬ valB n = true) : putV v k n = none := by unfold putV; rw [if_neg hn]
/-- the kinds -/
theorem kinds {o : Opr} (h : chkO o = 0) : o.kind = 1 ∨ o.kind = 2 ∨ o.kind = 3 ∨ o.kind = 4 ∨ o.kind = 5 := by
  have := chkO_zero.1 h; omega
/-- an operation changes only what it writes -/
theorem stepV_other {v u : VF} {o : Opr} (ho : chkO o = 0) (h : stepV v o = some u) {k : ByteArray} (hk : k ∉ wrO o) : u k = v k := by
  have hkd := kinds ho
  obtain ⟨kd, key, src, n⟩ := o
  simp only at hkd
  rcases hkd with rfl | rfl | rfl | rfl | rfl <;> simp [stepV, wrO] at h hk
  · rw [(putV_some h).2, upd_other _ _ hk]
  · rw [(putV_some h).2, upd_other _ _ hk]
  · rw [(putV_some h).2, upd_other _ _ hk]
  · rw [h.2]
  · unfold moveV at h
    simp only at h
    by_cases hn : v src < n
    · rw [if_pos hn] at h; cases h
    · rw [if_neg hn] at h
      rw [(putV_some h).2, upd_other _ _ hk.2, upd_other _ _ hk.1]
/-- what it makes of what it writes hangs only on what it reads -/
theorem stepV_reads {v v' : VF} {o : Opr} (ho : chkO o = 0) (h : ∀ k ∈ rdO o, v k = v' k) :
    (stepV v o = none ∧ stepV v' o = none) ∨ ∃ u u', stepV v o = some u ∧ stepV v' o = some u' ∧ ∀ k ∈ wrO o, u k = u' k := by
  have hkd := kinds ho
  have hc := chkO_zero.1 ho
  obtain ⟨kd, key, src, n⟩ := o
  simp only at hkd hc
  rcases hkd with rfl | rfl | rfl | rfl | rfl <;> simp [stepV, wrO, rdO] at h ⊢
  · by_cases hn : valB n = true
    · exact .inr ⟨_, putV_ok hn, _, putV_ok hn, by rw [upd_same, upd_same]⟩
    · exact .inl ⟨putV_no hn, putV_no hn⟩
  · rw [h]
    by_cases hn : valB (v' key + n) = true
    · exact .inr ⟨_, putV_ok hn, _, putV_ok hn, by rw [upd_same, upd_same]⟩
    · exact .inl ⟨putV_no hn, putV_no hn⟩
  · rw [h]
    by_cases hn : valB (v' src) = true
    · exact .inr ⟨_, putV_ok hn, _, putV_ok hn, by rw [upd_same, upd_same]⟩
    · exact .inl ⟨putV_no hn, putV_no hn⟩
  · rw [h]
    by_cases hn : n ≤ v' key
    · exact .inr ⟨hn, hn⟩
    · exact .inl (by omega)
  · have hsk := (hc.2.2.2.1 (by simp)).2
    unfold moveV
    simp only
    rw [h.1, upd_other _ _ (fun e => hsk e.symm), upd_other _ _ (fun e => hsk e.symm), h.2]
    by_cases hn : v' src < n
    · rw [if_pos hn, if_pos hn]; exact .inl ⟨rfl, rfl⟩
    · rw [if_neg hn, if_neg hn]
      by_cases hb : valB (v' key + n) = true
      · refine .inr ⟨_, putV_ok hb, _, putV_ok hb, ?_, ?_⟩
        · rw [upd_other _ _ hsk, upd_other _ _ hsk, upd_same, upd_same]
        · rw [upd_same, upd_same]
      · exact .inl ⟨putV_no hb, putV_no hb⟩
theorem mem_wrL {d : List Opr} {k : ByteArray} : k ∈ wrL d ↔ ∃ o ∈ d, k ∈ wrO o := by unfold wrL; exact List.mem_flatMap
theorem mem_rdL {d : List Opr} {k : ByteArray} : k ∈ rdL d ↔ ∃ o ∈ d, k ∈ rdO o := by unfold rdL; exact List.mem_flatMap
theorem runV_other {d : List Opr} (hd : ∀ o ∈ d, chkO o = 0) {v u : VF} (h : runV v d = some u) {k : ByteArray} (hk : k ∉ wrL d) : u k = v k := by
  induction d generalizing v with
  | nil => injection h with h; rw [h]
  | cons o r ih =>
    rw [runV_cons] at h
    cases hs : stepV v o with
    | none => rw [hs] at h; cases h
    | some x =>
      rw [hs] at h
      have h1 := ih (fun q hq => hd q (by simp [hq])) h (fun e => hk (mem_wrL.2 (by obtain ⟨q, hq, hm⟩ := mem_wrL.1 e; exact ⟨q, by simp [hq], hm⟩)))
      rw [h1]
      exact stepV_other (hd o (by simp)) hs (fun e => hk (mem_wrL.2 ⟨o, by simp, e⟩))
/-- two states that agree on what a transaction reads: it does the same in both -/
theorem runV_reads {d : List Opr} (hd : ∀ o ∈ d, chkO o = 0) (R : ByteArray → Prop) (hR : ∀ k ∈ rdL d, R k) {v v' : VF} (h : ∀ k, R k → v k = v' k) :
    (runV v d = none ∧ runV v' d = none) ∨ ∃ u u', runV v d = some u ∧ runV v' d = some u' ∧ (∀ k, R k → u k = u' k) ∧ ∀ k ∈ wrL d, u k = u' k := by
  induction d generalizing v v' with
  | nil => exact .inr ⟨v, v', rfl, rfl, h, by simp [wrL]⟩
  | cons o r ih =>
    have ho := hd o (by simp)
    have hr : ∀ q ∈ r, chkO q = 0 := fun q hq => hd q (by simp [hq])
    rw [runV_cons, runV_cons]
    rcases stepV_reads ho (v := v) (v' := v') (fun k hk => h k (hR k (mem_rdL.2 ⟨o, by simp, hk⟩))) with ⟨e1, e2⟩ | ⟨x, x', e1, e2, hw⟩
    · rw [e1, e2]; exact .inl ⟨rfl, rfl⟩
    · rw [e1, e2]
      have hag : ∀ k, R k → x k = x' k := fun k hk => by
        by_cases hm : k ∈ wrO o
        · exact hw k hm
        · rw [stepV_other ho e1 hm, stepV_other ho e2 hm, h k hk]
      rcases ih hr (fun k hk => hR k (mem_rdL.2 (by obtain ⟨q, hq, hm⟩ := mem_rdL.1 hk; exact ⟨q, by simp [hq], hm⟩))) hag with ⟨f1, f2⟩ | ⟨u, u', f1, f2, hu, hu2⟩
      · exact .inl ⟨f1, f2⟩
      · refine .inr ⟨u, u', f1, f2, hu, fun k hk => ?_⟩
        by_cases hm : k ∈ wrL r
        · exact hu2 k hm
        · rw [runV_other hr f1 hm, runV_other hr f2 hm]
          obtain ⟨q, hq, hkq⟩ := mem_wrL.1 hk
          rcases List.mem_cons.1 hq with rfl | hq
          · exact hw k hkq
          · exact absurd (mem_wrL.2 ⟨q, hq, hkq⟩) hm
theorem doneV_other {d : List Opr} (hd : ∀ o ∈ d, chkO o = 0) (v : VF) {k : ByteArray} (hk : k ∉ wrL d) : (doneV v d).1 k = v k := by
  cases h : runV v d with
  | none => rw [doneV_none h]
  | some u => rw [doneV_some h]; exact runV_other hd h hk
theorem doneV_agree {d : List Opr} (hd : ∀ o ∈ d, chkO o = 0) {v v' : VF} (hr : ∀ k ∈ rdL d, v k = v' k) (hw : ∀ k ∈ wrL d, v k = v' k) : (doneV v d).2 = (doneV v' d).2 ∧ ∀ k ∈ wrL d, (doneV v d).1 k = (doneV v' d).1 k := by
  rcases runV_reads hd (fun k => k ∈ rdL d) (fun k h => h) hr with ⟨e1, e2⟩ | ⟨u, u', e1, e2, _, h⟩
  · rw [doneV_none e1, doneV_none e2]; exact ⟨rfl, hw⟩
  · rw [doneV_some e1, doneV_some e2]; exact ⟨rfl, h⟩
/-- transactions that do not conflict -/
structure Free (a b : List Opr) : Prop where
  ww : ∀ k ∈ wrL a, k ∉ wrL b
  wr : ∀ k ∈ wrL a, k ∉ rdL b
  rw_ : ∀ k ∈ rdL a, k ∉ wrL b
/-- Bernstein: they commute, with the same outcomes -/
theorem commute {a b : List Opr} (ha : ∀ o ∈ a, chkO o = 0) (hb : ∀ o ∈ b, chkO o = 0) (h : Free a b) (v : VF) :
    (doneV (doneV v a).1 b).1 = (doneV (doneV v b).1 a).1 ∧ (doneV v a).2 = (doneV (doneV v b).1 a).2 ∧ (doneV (doneV v a).1 b).2 = (doneV v b).2 := by
  have hB := doneV_agree hb (v := (doneV v a).1) (v' := v) (fun k hk => doneV_other ha v (fun e => h.wr k e hk)) (fun k hk => doneV_other ha v (fun e => h.ww k e hk))
  have hA := doneV_agree ha (v := (doneV v b).1) (v' := v) (fun k hk => doneV_other hb v (h.rw_ k hk)) (fun k hk => doneV_other hb v (h.ww k hk))
  refine ⟨funext fun k => ?_, hA.1.symm, hB.1⟩
  by_cases h1 : k ∈ wrL b
  · have h2 : k ∉ wrL a := fun e => h.ww k e h1
    rw [hB.2 k h1, doneV_other ha _ h2]
  · rw [doneV_other hb _ h1]
    by_cases h2 : k ∈ wrL a
    · rw [hA.2 k h2]
    · rw [doneV_other ha _ h2, doneV_other ha _ h2, doneV_other hb _ h1]
end Go.Proofs.YtgcnbifgnaepnaaGreat
