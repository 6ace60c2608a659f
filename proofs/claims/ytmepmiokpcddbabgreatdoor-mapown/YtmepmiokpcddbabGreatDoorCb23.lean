/-
  Lists of keys: read and write sets, sorted and without duplicates (no program in it).
  What transactions leave alone, what they hang on, and which of them commute (no program in it).
  Lists of owners in order and without duplicates; how many pairs change their owner (no program in it).
-/
import Derived.Test.YtmepmiokpcddbabGreatDoorCb2
import Derived.Test.YtmepmiokpcddbabGreatDoorCb1
import Derived.Lib.SlicesCompact
import Derived.Test.YtmepmiokpcddbabGreatDoorCb21
import Derived.Test.YtmepmiokpcddbabGreatDoorCb8
import Derived.Lib.RowBridge
set_option linter.unusedVariables false
set_option linter.unusedSimpArgs false
namespace Go.Proofs.YtmepmiokpcddbabGreatDoor
open Go.RowKit

/-- what an operation reads, and writes -/
def rdO (o : Opr) : List ByteArray := if o.kind = 2 then [o.key] else if o.kind = 3 then [o.src] else if o.kind = 4 then [o.key] else if o.kind = 5 then [o.src, o.key] else []
def wrO (o : Opr) : List ByteArray := if o.kind = 4 then [] else if o.kind = 5 then [o.src, o.key] else [o.key]
def rdL (d : List Opr) : List ByteArray := d.flatMap rdO
def wrL (d : List Opr) : List ByteArray := d.flatMap wrO
theorem rdL_take {d : List Opr} {k : Nat} (h : k < d.length) : rdL (d.take (k + 1)) = rdL (d.take k) ++ rdO d[k] := by
  unfold rdL; rw [List.take_succ_eq_append_getElem h, List.flatMap_append]; simp
theorem wrL_take {d : List Opr} {k : Nat} (h : k < d.length) : wrL (d.take (k + 1)) = wrL (d.take k) ++ wrO d[k] := by
  unfold wrL; rw [List.take_succ_eq_append_getElem h, List.flatMap_append]; simp
theorem rdO_len (o : Opr) : (rdO o).length ≤ 2 := by
  unfold rdO
  split
  · simp
  · split
    · simp
    · split
      · simp
      · split <;> simp
theorem wrO_len (o : Opr) : (wrO o).length ≤ 2 := by
  unfold wrO
  split
  · simp
  · split <;> simp
theorem flat_len {f : Opr → List ByteArray} (hf : ∀ o, (f o).length ≤ 2) : ∀ d : List Opr, (d.flatMap f).length ≤ 2 * d.length
  | [] => by simp
  | o :: r => by have := flat_len hf r; have := hf o; simp [List.flatMap_cons] at *; omega
theorem rdL_len (d : List Opr) : (rdL d).length ≤ 2 * d.length := flat_len rdO_len d
theorem wrL_len (d : List Opr) : (wrL d).length ≤ 2 * d.length := flat_len wrO_len d

section
theorem get_bang {α : Type} [Inhabited α] (zs : List α) {m : Nat} (h : m < zs.length) : zs.toArray[m]! = zs[m] := by simp [getElem!_pos, h]
variable {α : Type} [Inhabited α] [DecidableEq α]
theorem upTo_mem (zs : List α) (m : Nat) (hm : m ≤ zs.length) (x : α) : x ∈ Lib.compactUpTo zs.toArray m ↔ x ∈ zs.take m := by
  induction m with
  | zero => simp [Lib.compactUpTo]
  | succ m ih =>
    have hlt : m < zs.length := by omega
    rw [Lib.compactUpTo_succ, List.take_succ_eq_append_getElem hlt, List.mem_append, List.mem_append, ih (by omega), get_bang zs hlt]
    cases hk : Lib.keeps zs.toArray m with
    | true => simp
    | false =>
      simp only [Lib.keeps, decide_eq_false_iff_not, not_or, Decidable.not_not] at hk
      have hp : m - 1 < zs.length := by omega
      rw [get_bang zs hlt, get_bang zs hp] at hk
      constructor
      · rintro (h | h)
        · exact .inl h
        · simp at h
      · rintro (h | h)
        · exact .inl h
        · simp at h
          refine .inl ?_
          rw [h, hk.2]
          exact List.mem_take_iff_getElem.2 ⟨m - 1, by omega, rfl⟩
end
theorem upTo_sorted (zs : List (List UInt8)) (hs : zs.Pairwise (fun a b => ¬ b < a)) (m : Nat) (hm : m ≤ zs.length) : (Lib.compactUpTo zs.toArray m).Pairwise (fun a b => a < b) := by
  induction m with
  | zero => simp [Lib.compactUpTo]
  | succ m ih =>
    have hlt : m < zs.length := by omega
    rw [Lib.compactUpTo_succ, get_bang zs hlt]
    refine List.pairwise_append.2 ⟨ih (by omega), ?_, ?_⟩
    · split <;> simp
    · intro a ha b hb
      cases hk : Lib.keeps zs.toArray m with
      | false => simp [hk] at hb
      | true =>
        simp [hk] at hb
        subst hb
        rw [upTo_mem zs m (by omega)] at ha
        obtain ⟨j, hj, rfl⟩ := List.mem_take_iff_getElem.1 ha
        simp only [Lib.keeps, decide_eq_true_eq] at hk
        rcases hk with h0 | hne
        · omega
        · rw [get_bang zs hlt, get_bang zs (by omega)] at hne
          have hp : m - 1 < zs.length := by omega
          have h1 : ¬ zs[m] < zs[m - 1] := List.pairwise_iff_getElem.1 hs (m - 1) m (by omega) hlt (by omega)
          have h2 : ¬ zs[m - 1] < zs[j] := by
            rcases Nat.lt_or_ge j (m - 1) with h | h
            · exact List.pairwise_iff_getElem.1 hs j (m - 1) (by omega) (by omega) h
            · have : j = m - 1 := by omega
              subst this; exact List.lt_irrefl _
          have h3 : zs[m - 1] < zs[m] := by
            by_cases h : zs[m - 1] < zs[m]
            · exact h
            · exact absurd (List.le_antisymm (show zs[m] ≤ zs[m - 1] from h) (show zs[m - 1] ≤ zs[m] from h1)) hne
          by_cases h4 : zs[j] < zs[m - 1]
          · exact List.lt_trans h4 h3
          · have := List.le_antisymm (show zs[j] ≤ zs[m - 1] from h2) (show zs[m - 1] ≤ zs[j] from h4)
            rw [this]; exact h3
/-- keys in order and without duplicates -/
def keysOf (l : List ByteArray) : List ByteArray := (Lib.compact ((l.map by8).mergeSort fun x y => decide (x ≤ y))).map fun s => ⟨s.toArray⟩
theorem keysOf_mem (l : List ByteArray) (k : ByteArray) : k ∈ keysOf l ↔ k ∈ l := by
  unfold keysOf Lib.compact
  have hl : ((l.map by8).mergeSort fun x y => decide (x ≤ y)).length = l.length := by simp
  constructor
  · intro h
    obtain ⟨s, hs, rfl⟩ := List.mem_map.1 h
    rw [upTo_mem _ _ (Nat.le_refl _), List.take_length, List.mem_mergeSort] at hs
    obtain ⟨x, hx, rfl⟩ := List.mem_map.1 hs
    exact hx
  · intro h
    refine List.mem_map.2 ⟨by8 k, ?_, rfl⟩
    rw [upTo_mem _ _ (Nat.le_refl _), List.take_length, List.mem_mergeSort]
    exact List.mem_map.2 ⟨k, h, rfl⟩
theorem keysOf_sorted (l : List ByteArray) : (keysOf l).Pairwise (fun a b => ltB a b = true) := by
  unfold keysOf Lib.compact
  rw [List.pairwise_map]
  have hs : ((l.map by8).mergeSort fun x y => decide (x ≤ y)).Pairwise (fun a b => ¬ b < a) := by
    have := List.pairwise_mergeSort (le := fun x y : List UInt8 => decide (x ≤ y)) (by intro a b c h1 h2; simp at *; exact List.le_trans h1 h2) (by intro a b; simp; exact List.le_total a b) (l.map by8)
    exact this.imp (by intro a b h; simpa using h)
  exact (upTo_sorted _ hs _ (Nat.le_refl _)).imp (by intro a b h; rw [ltB_iff]; exact h)
theorem keysOf_len (l : List ByteArray) : (keysOf l).length ≤ l.length := by
  unfold keysOf
  rw [List.length_map]
  have h : ∀ (zs : List (List UInt8)), (Lib.compact zs).length ≤ zs.length := fun zs => by
    unfold Lib.compact Lib.compactUpTo
    rw [List.length_map]
    exact Nat.le_trans (List.length_filter_le _ _) (by simp)
  exact Nat.le_trans (h _) (by simp)
/-- two sorted lists with the same keys are one -/
theorem sorted_ext {l m : List ByteArray} (hl : l.Pairwise (fun a b => ltB a b = true)) (hm : m.Pairwise (fun a b => ltB a b = true)) (h : ∀ k, k ∈ l ↔ k ∈ m) : l = m := by
  induction l generalizing m with
  | nil =>
    cases m with
    | nil => rfl
    | cons q s => exact absurd ((h q).2 (by simp)) (by simp)
  | cons p r ih =>
    cases m with
    | nil => exact absurd ((h p).1 (by simp)) (by simp)
    | cons q s =>
      have hl' := List.pairwise_cons.1 hl
      have hm' := List.pairwise_cons.1 hm
      have hpq : p = q := by
        rcases List.mem_cons.1 ((h p).1 (by simp)) with e | e
        · exact e
        · rcases List.mem_cons.1 ((h q).2 (by simp)) with e2 | e2
          · exact e2.symm
          · have a := hl'.1 q e2
            have b := hm'.1 p e
            rw [ltB_asymm a] at b; cases b
      subst hpq
      congr 1
      refine ih hl'.2 hm'.2 fun k => ?_
      constructor
      · intro hk
        rcases List.mem_cons.1 ((h k).1 (by simp [hk])) with e | e
        · exact absurd e.symm (ltB_ne (hl'.1 k hk))
        · exact e
      · intro hk
        rcases List.mem_cons.1 ((h k).2 (by simp [hk])) with e | e
        · exact absurd e.symm (ltB_ne (hm'.1 k hk))
        · exact e
end Go.Proofs.YtmepmiokpcddbabGreatDoor

set_option linter.unusedVariables false
set_option linter.unusedSimpArgs false
namespace Go.Proofs.YtmepmiokpcddbabGreatDoor
open Go.RowKit

theorem putV_some {v u : VF} {k : ByteArray} {n : Int} (h : putV v k n = some u) : valB n = true ∧ u = upd v k n := by
  unfold putV at h
  by_cases hn : valB n = true
  · rw [if_pos hn] at h; injection h with h; exact ⟨hn, h.symm⟩
  · rw [if_neg hn] at h; cases h
theorem putV_ok {v : VF} {k : ByteArray} {n : Int} (hn : valB n = true) : putV v k n = some (upd v k n) := by unfold putV; rw [if_pos hn]
theorem putV_no {v : VF} {k : ByteArray} {n : Int} (hn : ¬ valB n = true) : putV v k n = none := by unfold putV; rw [if_neg hn]
/-- the kinds -/
theorem kinds {o : Opr} (h : chkO o = 0) : o.kind = 1 ∨ o.kind = 2 ∨ o.kind = 3 ∨ o.kind = 4 ∨ o.kind = 5 := by
  have := chkO_zero.1 h; omega
/-- an operation changes only what it writes -/
theorem stepV_other {v u : VF} {o : Opr} (ho : chkO o = 0) (h : stepV v o = some u) {k : ByteArray} (hk : k ∉ wrO o) : u k = v k := by
  have hkd := kinds ho
  obtain ⟨kd, key, src, n⟩ := o
  simp only at hkd
  rcases hkd with rfl | rfl | rfl | rfl | rfl <;> simp [stepV, wrO] at h hk
  · rw [(putV_some h).2, upd_other _ _ hk]
  · rw [(putV_some h).2, upd_other _ _ hk]
  · rw [(putV_some h).2, upd_other _ _ hk]
  · rw [h.2]
  · unfold moveV at h
    simp only at h
    by_cases hn : v src < n
    · rw [if_pos hn] at h; cases h
    · rw [if_neg hn] at h
      rw [(putV_some h).2, upd_other _ _ hk.2, upd_other _ _ hk.1]
/-- what it makes of what it writes hangs only on what it reads -/
theorem stepV_reads {v v' : VF} {o : Opr} (ho : chkO o = 0) (h : ∀ k ∈ rdO o, v k = v' k) :
    (stepV v o = none ∧ stepV v' o = none) ∨ ∃ u u', stepV v o = some u ∧ stepV v' o = some u' ∧ ∀ k ∈ wrO o, u k = u' k := by
  have hkd := kinds ho
  have hc := chkO_zero.1 ho
  obtain ⟨kd, key, src, n⟩ := o
  simp only at hkd hc
  rcases hkd with rfl | rfl | rfl | rfl | rfl <;> simp [stepV, wrO, rdO] at h ⊢
  · by_cases hn : valB n = true
    · exact .inr ⟨_, putV_ok hn, _, putV_ok hn, by rw [upd_same, upd_same]⟩
    · exact .inl ⟨putV_no hn, putV_no hn⟩
  · rw [h]
    by_cases hn : valB (v' key + n) = true
    · exact .inr ⟨_, putV_ok hn, _, putV_ok hn, by rw [upd_same, upd_same]⟩
    · exact .inl ⟨putV_no hn, putV_no hn⟩
  · rw [h]
    by_cases hn : valB (v' src) = true
    · exact .inr ⟨_, putV_ok hn, _, putV_ok hn, by rw [upd_same, upd_same]⟩
    · exact .inl ⟨putV_no hn, putV_no hn⟩
  · rw [h]
    by_cases hn : n ≤ v' key
    · exact .inr ⟨hn, hn⟩
    · exact .inl (by omega)
  · have hsk := (hc.2.2.2.1 (by simp)).2
    unfold moveV
    simp only
    rw [h.1, upd_other _ _ (fun e => hsk e.symm), upd_other _ _ (fun e => hsk e.symm), h.2]
    by_cases hn : v' src < n
    · rw [if_pos hn, if_pos hn]; exact .inl ⟨rfl, rfl⟩
    · rw [if_neg hn, if_neg hn]
      by_cases hb : valB (v' key + n) = true
      · refine .inr ⟨_, putV_ok hb, _, putV_ok hb, ?_, ?_⟩
        · rw [upd_other _ _ hsk, upd_other _ _ hsk, upd_same, upd_same]
        · rw [upd_same, upd_same]
      · exact .inl ⟨putV_no hb, putV_no hb⟩
theorem mem_wrL {d : List Opr} {k : ByteArray} : k ∈ wrL d ↔ ∃ o ∈ d, k ∈ wrO o := by unfold wrL; exact List.mem_flatMap
theorem mem_rdL {d : List Opr} {k : ByteArray} : k ∈ rdL d ↔ ∃ o ∈ d, k ∈ rdO o := by unfold rdL; exact List.mem_flatMap
theorem runV_other {d : List Opr} (hd : ∀ o ∈ d, chkO o = 0) {v u : VF} (h : runV v d = some u) {k : ByteArray} (hk : k ∉ wrL d) : u k = v k := by
  induction d generalizing v with
  | nil => injection h with h; rw [h]
  | cons o r ih =>
    rw [runV_cons] at h
    cases hs : stepV v o with
    | none => rw [hs] at h; cases h
    | some x =>
      rw [hs] at h
      have h1 := ih (fun q hq => hd q (by simp [hq])) h (fun e => hk (mem_wrL.2 (by obtain ⟨q, hq, hm⟩ := mem_wrL.1 e; exact ⟨q, by simp [hq], hm⟩)))
      rw [h1]
      exact stepV_other (hd o (by simp)) hs (fun e => hk (mem_wrL.2 ⟨o, by simp, e⟩))
/-- two states that agree on what a transaction reads: it does the same in both -/
theorem runV_reads {d : List Opr} (hd : ∀ o ∈ d, chkO o = 0) (R : ByteArray → Prop) (hR : ∀ k ∈ rdL d, R k) {v v' : VF} (h : ∀ k, R k → v k = v' k) :
    (runV v d = none ∧ runV v' d = none) ∨ ∃ u u', runV v d = some u ∧ runV v' d = some u' ∧ (∀ k, R k → u k = u' k) ∧ ∀ k ∈ wrL d, u k = u' k := by
  induction d generalizing v v' with
  | nil => exact .inr ⟨v, v', rfl, rfl, h, by simp [wrL]⟩
  | cons o r ih =>
    have ho := hd o (by simp)
    have hr : ∀ q ∈ r, chkO q = 0 := fun q hq => hd q (by simp [hq])
    rw [runV_cons, runV_cons]
    rcases stepV_reads ho (v := v) (v' := v') (fun k hk => h k (hR k (mem_rdL.2 ⟨o, by simp, hk⟩))) with ⟨e1, e2⟩ | ⟨x, x', e1, e2, hw⟩
    · rw [e1, e2]; exact .inl ⟨rfl, rfl⟩
    · rw [e1, e2]
      have hag : ∀ k, R k → x k = x' k := fun k hk => by
        by_cases hm : k ∈ wrO o
        · exact hw k hm
        · rw [stepV_other ho e1 hm, stepV_other ho e2 hm, h k hk]
      rcases ih hr (fun k hk => hR k (mem_rdL.2 (by obtain ⟨q, hq, hm⟩ := mem_rdL.1 hk; exact ⟨q, by simp [hq], hm⟩))) hag with ⟨f1, f2⟩ | ⟨u, u', f1, f2, hu, hu2⟩
      · exact .inl ⟨f1, f2⟩
      · refine .inr ⟨u, u', f1, f2, hu, fun k hk => ?_⟩
        by_cases hm : k ∈ wrL r
        · exact hu2 k hm
        · rw [runV_other hr f1 hm, runV_other hr f2 hm]
          obtain ⟨q, hq, hkq⟩ := mem_wrL.1 hk
          rcases List.mem_cons.1 hq with rfl | hq
          · exact hw k hkq
          · exact absurd (mem_wrL.2 ⟨q, hq, hkq⟩) hm
theorem doneV_other {d : List Opr} (hd : ∀ o ∈ d, chkO o = 0) (v : VF) {k : ByteArray} (hk : k ∉ wrL d) : (doneV v d).1 k = v k := by
  cases h : runV v d with
  | none => rw [doneV_none h]
  | some u => rw [doneV_some h]; exact runV_other hd h hk
theorem doneV_agree {d : List Opr} (hd : ∀ o ∈ d, chkO o = 0) {v v' : VF} (hr : ∀ k ∈ rdL d, v k = v' k) (hw : ∀ k ∈ wrL d, v k = v' k) : (doneV v d).2 = (doneV v' d).2 ∧ ∀ k ∈ wrL d, (doneV v d).1 k = (doneV v' d).1 k := by
  rcases runV_reads hd (fun k => k ∈ rdL d) (fun k h => h) hr with ⟨e1, e2⟩ | ⟨u, u', e1, e2, _, h⟩
  · rw [doneV_none e1, doneV_none e2]; exact ⟨rfl, hw⟩
  · rw [doneV_some e1, doneV_some e2]; exact ⟨rfl, h⟩
/-- transactions that do not conflict -/
structure Free (a b : List Opr) : Prop where
  ww : ∀ k ∈ wrL a, k ∉ wrL b
  wr : ∀ k ∈ wrL a, k ∉ rdL b
  rw_ : ∀ k ∈ rdL a, k ∉ wrL b
/-- Bernstein: they commute, with the same outcomes -/
theorem commute {a b : List Opr} (ha : ∀ o ∈ a, chkO o = 0) (hb : ∀ o ∈ b, chkO o = 0) (h : Free a b) (v : VF) :
    (doneV (doneV v a).1 b).1 = (doneV (doneV v b).1 a).1 ∧ (doneV v a).2 = (doneV (doneV v b).1 a).2 ∧ (doneV (doneV v a).1 b).2 = (doneV v b).2 := by
  have hB := doneV_agree hb (v := (doneV v a).1) (v' := v) (fun k hk => doneV_other ha v (fun e => h.wr k e hk)) (fun k hk => doneV_other ha v (fun e => h.ww k e hk))
  have hA := doneV_agree ha (v := (doneV v b).1) (v' := v) (fun k hk => doneV_other hb v (h.rw_ k hk)) (fun k hk => doneV_other hb v (h.ww k hk))
  refine ⟨funext fun k => ?_, hA.1.symm, hB.1⟩
  by_cases h1 : k ∈ wrL b
  · have h2 : k ∉ wrL a := fun e => h.ww k e h1
    rw [hB.2 k h1, doneV_other ha _ h2]
  · rw [doneV_other hb _ h1]
    by_cases h2 : k ∈ wrL a
    · rw [hA.2 k h2]
    · rw [doneV_other ha _ h2, doneV_other ha _ h2, doneV_other hb _ h1]
end Go.Proofs.YtmepmiokpcddbabGreatDoor

set_option linter.unusedVariables false
set_option linter.unusedSimpArgs false
namespace Go.Proofs.YtmepmiokpcddbabGreatDoor
open Go.RowKit

theorem upToI_sorted (zs : List Int) (hs : zs.Pairwise (fun a b => a ≤ b)) (m : Nat) (hm : m ≤ zs.length) : (Lib.compactUpTo zs.toArray m).Pairwise (fun a b => a < b) := by
  induction m with
  | zero => simp [Lib.compactUpTo]
  | succ m ih =>
    have hlt : m < zs.length := by omega
    rw [Lib.compactUpTo_succ, get_bang zs hlt]
    refine List.pairwise_append.2 ⟨ih (by omega), ?_, ?_⟩
    · split <;> simp
    · intro a ha b hb
      cases hk : Lib.keeps zs.toArray m with
      | false => simp [hk] at hb
      | true =>
        simp [hk] at hb
        subst hb
        rw [upTo_mem zs m (by omega)] at ha
        obtain ⟨j, hj, rfl⟩ := List.mem_take_iff_getElem.1 ha
        simp only [Lib.keeps, decide_eq_true_eq] at hk
        rcases hk with h0 | hne
        · omega
        · rw [get_bang zs hlt, get_bang zs (by omega)] at hne
          have hp : m - 1 < zs.length := by omega
          have h1 : zs[m - 1] ≤ zs[m] := List.pairwise_iff_getElem.1 hs (m - 1) m (by omega) hlt (by omega)
          have h2 : zs[j] ≤ zs[m - 1] := by
            rcases Nat.lt_or_ge j (m - 1) with h | h
            · exact List.pairwise_iff_getElem.1 hs j (m - 1) (by omega) (by omega) h
            · have : j = m - 1 := by omega
              subst this; exact Int.le_refl _
          omega
/-- numbers in order and without duplicates -/
def owS (l : List Int) : List Int := Lib.compact (l.mergeSort fun x y => decide (x ≤ y))
theorem owS_mem (l : List Int) (k : Int) : k ∈ owS l ↔ k ∈ l := by
  unfold owS Lib.compact
  rw [upTo_mem _ _ (Nat.le_refl _), List.take_length, List.mem_mergeSort]
theorem owS_sorted (l : List Int) : (owS l).Pairwise (fun a b => a < b) := by
  unfold owS Lib.compact
  refine upToI_sorted _ ?_ _ (Nat.le_refl _)
  have := List.pairwise_mergeSort (le := fun x y : Int => decide (x ≤ y)) (by intro a b c h1 h2; simp at *; omega) (by intro a b; simp; omega) l
  exact this.imp fun h => by simpa using h
theorem owS_len (l : List Int) : (owS l).length ≤ l.length := by
  have := Lib.compact_length_le (l.mergeSort fun x y => decide (x ≤ y))
  unfold owS
  simpa using this
/-- numbers in order are one list where they have the same members -/
theorem inc_ext {l m : List Int} (hl : l.Pairwise (fun a b => a < b)) (hm : m.Pairwise (fun a b => a < b)) (h : ∀ k, k ∈ l ↔ k ∈ m) : l = m := by
  induction l generalizing m with
  | nil =>
    cases m with
    | nil => rfl
    | cons y r => exact absurd ((h y).2 (by simp)) (by simp)
  | cons x s ih =>
    cases m with
    | nil => exact absurd ((h x).1 (by simp)) (by simp)
    | cons y r =>
      have hx := List.pairwise_cons.1 hl
      have hy := List.pairwise_cons.1 hm
      have e : x = y := by
        have a1 := (h x).1 (by simp)
        have a2 := (h y).2 (by simp)
        rcases List.mem_cons.1 a1 with a | a
        · exact a
        · rcases List.mem_cons.1 a2 with b | b
          · exact b.symm
          · have := hy.1 x a; have := hx.1 y b; omega
      subst e
      congr 1
      refine ih hx.2 hy.2 fun k => ?_
      have := h k
      constructor
      · intro hk
        rcases List.mem_cons.1 (this.1 (List.mem_cons_of_mem _ hk)) with e | e
        · subst e; exact absurd (hx.1 _ hk) (by omega)
        · exact e
      · intro hk
        rcases List.mem_cons.1 (this.2 (List.mem_cons_of_mem _ hk)) with e | e
        · subst e; exact absurd (hy.1 _ hk) (by omega)
        · exact e
/-- the keys that a transaction names, reads first -/
def nmL (d : List Opr) : List ByteArray := keysOf (rdL d) ++ keysOf (wrL d)
theorem nmL_len (d : List Opr) : (nmL d).length ≤ 4 * d.length := by
  have := keysOf_len (rdL d); have := keysOf_len (wrL d); have := rdL_len d; have := wrL_len d
  unfold nmL; rw [List.length_append]; omega
theorem nmL_mem {d : List Opr} {k : ByteArray} : k ∈ nmL d ↔ k ∈ rdL d ∨ k ∈ wrL d := by unfold nmL; rw [List.mem_append, keysOf_mem, keysOf_mem]
/-- the participants of a transaction -/
def whoL (cs : List ByteArray) (os : List Int) (d : List Opr) : List Int := owS ((nmL d).map (whV cs os))
theorem whoL_len (cs : List ByteArray) (os : List Int) (d : List Opr) : (whoL cs os d).length ≤ 4 * d.length := by
  have := owS_len ((nmL d).map (whV cs os)); have := nmL_len d
  unfold whoL; rw [List.length_map] at *; omega
theorem whoL_mem {cs : List ByteArray} {os : List Int} {d : List Opr} {n : Int} : n ∈ whoL cs os d ↔ ∃ k, (k ∈ rdL d ∨ k ∈ wrL d) ∧ whV cs os k = n := by
  unfold whoL
  rw [owS_mem, List.mem_map]
  exact ⟨fun ⟨k, h1, h2⟩ => ⟨k, nmL_mem.1 h1, h2⟩, fun ⟨k, h1, h2⟩ => ⟨k, nmL_mem.2 h1, h2⟩⟩
theorem names_key {d : List Opr} (hd : chkD d = 0) : ∀ k ∈ nmL d, keyB k = true := by
  intro k hk
  obtain ⟨_, _, ho⟩ := chkD_zero.1 hd
  have go : ∀ o ∈ d, k ∈ rdO o ∨ k ∈ wrO o → keyB k = true := by
    intro o hod hko
    have hc := ho o hod
    have hkk := (chkO_zero.1 hc).2.2.1
    rcases kinds hc with h | h | h | h | h <;> simp [rdO, wrO, h] at hko
    · subst hko; exact hkk
    · subst hko; exact hkk
    · rcases hko with rfl | rfl
      · exact ((chkO_zero.1 hc).2.2.2.1 (.inl h)).1
      · exact hkk
    · subst hko; exact hkk
    · rcases hko with rfl | rfl
      · exact ((chkO_zero.1 hc).2.2.2.1 (.inr h)).1
      · exact hkk
  rcases nmL_mem.1 hk with h | h
  · obtain ⟨o, h1, h2⟩ := mem_rdL.1 h
    exact go o h1 (.inl h2)
  · obtain ⟨o, h1, h2⟩ := mem_wrL.1 h
    exact go o h1 (.inr h2)
theorem whoL_pos {cs : List ByteArray} {os : List Int} {d : List Opr} (hd : chkD d = 0) : 1 ≤ (whoL cs os d).length := by
  obtain ⟨h1, _, ho⟩ := chkD_zero.1 hd
  have hne : ∃ n, n ∈ whoL cs os d := by
    cases d with
    | nil => simp at h1
    | cons o r =>
      refine ⟨whV cs os o.key, whoL_mem.2 ⟨o.key, ?_, rfl⟩⟩
      rcases kinds (ho o (by simp)) with h | h | h | h | h
      · exact .inr (mem_wrL.2 ⟨o, by simp, by simp [wrO, h]⟩)
      · exact .inr (mem_wrL.2 ⟨o, by simp, by simp [wrO, h]⟩)
      · exact .inr (mem_wrL.2 ⟨o, by simp, by simp [wrO, h]⟩)
      · exact .inl (mem_rdL.2 ⟨o, by simp, by simp [rdO, h]⟩)
      · exact .inr (mem_wrL.2 ⟨o, by simp, by simp [wrO, h]⟩)
  obtain ⟨n, hn⟩ := hne
  exact List.length_pos_of_mem hn
section
variable {cs : List ByteArray} {os : List Int} {l l' : List Pr}
/-- the part of an owner that takes no part stays -/
theorem part_stays (hl : Ok l) (hl' : Ok l') {d : List Opr} (hd : chkD d = 0) (hv : valOf l' = (doneV (valOf l) d).1) {n : Int} (hn : n ∉ whoL cs os d) : ptL cs os n l' = ptL cs os n l := by
  have ho := (chkD_zero.1 hd).2.2
  refine (ptL_ok hl' n).ext (ptL_ok hl n) fun k => ?_
  unfold ptL
  rw [valOf_filter hl'.srt (fun k => decide (whV cs os k = n)), valOf_filter hl.srt (fun k => decide (whV cs os k = n))]
  by_cases e : whV cs os k = n
  · rw [if_pos (by simp [e]), if_pos (by simp [e]), hv]
    exact doneV_other ho _ fun hk => hn (whoL_mem.2 ⟨k, .inr hk, e⟩)
  · rw [if_neg (by simp [e]), if_neg (by simp [e])]
end
/-- how many pairs change their owner -/
def movN (cs : List ByteArray) (os : List Int) (cs' : List ByteArray) (os' : List Int) (l : List Pr) : Nat := (l.filter fun p => !decide (whV cs os p.1 = whV cs' os' p.1)).length
theorem movN_le (cs : List ByteArray) (os : List Int) (cs' : List ByteArray) (os' : List Int) (l : List Pr) : movN cs os cs' os' l ≤ l.length := List.length_filter_le _ _
theorem movN_swap (cs : List ByteArray) (os : List Int) (cs' : List ByteArray) (os' : List Int) (l : List Pr) : movN cs os cs' os' l = movN cs' os' cs os l := by
  unfold movN
  congr 2
  funext p
  by_cases e : whV cs os p.1 = whV cs' os' p.1
  · simp [e]
  · have e' : ¬ whV cs' os' p.1 = whV cs os p.1 := fun h => e h.symm
    simp [e, e']
theorem movN_same (cs : List ByteArray) (os : List Int) (l : List Pr) : movN cs os cs os l = 0 := by
  unfold movN; simp
/-- owner by owner -/
theorem mov_step (cs : List ByteArray) (os : List Int) (cs' : List ByteArray) (os' : List Int) (l : List Pr) (n : Int) :
    movN cs os cs' os' (upL cs os (n + 1) l) + (ptL cs' os' n (ptL cs os n l)).length = movN cs os cs' os' (upL cs os n l) + (ptL cs os n l).length := by
  unfold movN upL ptL
  induction l with
  | nil => rfl
  | cons p r ih =>
    by_cases h1 : whV cs os p.1 < n
    · have h2 : ¬ whV cs os p.1 = n := by omega
      have h0 : whV cs os p.1 < n + 1 := by omega
      by_cases h3 : whV cs os p.1 = whV cs' os' p.1
      · have h4 : whV cs' os' p.1 < n := by omega
        have h5 : whV cs' os' p.1 < n + 1 := by omega
        have h6 : ¬ whV cs' os' p.1 = n := by omega
        simp only [List.filter_cons, h0, h1, h2, h3, h4, h5, h6, decide_true, decide_false, Bool.not_true, Bool.not_false, if_true, if_false, Bool.false_eq_true, List.length_cons]
        exact ih
      · simp only [List.filter_cons, h0, h1, h2, h3, decide_true, decide_false, Bool.not_true, Bool.not_false, if_true, if_false, Bool.false_eq_true, List.length_cons]
        omega
    · by_cases h2 : whV cs os p.1 = n
      · have h0 : n < n + 1 := by omega
        have h1 : ¬ n < n := by omega
        by_cases h3 : n = whV cs' os' p.1
        · have h4 := h3.symm
          simp only [List.filter_cons, h0, h1, h2, h4, decide_true, decide_false, Bool.not_true, Bool.not_false, if_true, if_false, Bool.false_eq_true, List.length_cons]
          omega
        · have h4 : ¬ whV cs' os' p.1 = n := fun e => h3 e.symm
          simp only [List.filter_cons, h0, h1, h2, h3, h4, decide_true, decide_false, Bool.not_true, Bool.not_false, if_true, if_false, Bool.false_eq_true, List.length_cons]
          omega
      · have h0 : ¬ whV cs os p.1 < n + 1 := by omega
        simp only [List.filter_cons, h0, h1, h2, decide_true, decide_false, Bool.not_true, Bool.not_false, if_true, if_false, Bool.false_eq_true, List.length_cons]
        exact ih
end Go.Proofs.YtmepmiokpcddbabGreatDoor
