/-
  What transactions leave alone, what they hang on, and which of them commute (no program in it).
-/
import Derived.Test.YtkikhananegclaaDSpec
import Derived.Test.YtkikhananegclaaDKeysPl
set_option linter.unusedVariables false
set_option linter.unusedSimpArgs false
namespace Go.Proofs.Ytkikhananegclaa
open Go.RowKit

theorem putV_some {v u : VF} {k : ByteArray} {n : Int} (h : putV v k n = some u) : valB n = true ∧ u = upd v k n := by
  unfold putV at h
  by_cases hn : valB n = true
  · rw [if_pos hn] at h; injection h with h; exact ⟨hn, h.symm⟩
  · rw [if_neg hn] at h; cases h
theorem putV_ok {v : VF} {k : ByteArray} {n : Int} (hn : valB n = true) : putV v k n = some (upd v k n) := by unfold putV; rw [if_pos hn]
theorem putV_no {v : VF} {k : ByteArray} {n : Int} (hn : ¬ valB n = true) : putV v k n = none := by unfold putV; rw [if_neg hn]
/-- the kinds -/
theorem kinds {o : Opr} (h : chkO o = 0) : o.kind = 1 ∨ o.kind = 2 ∨ o.kind = 3 ∨ o.kind = 4 ∨ o.kind = 5 := by
  have := chkO_zero.1 h; omega
/-- an operation changes only what it writes -/
theorem stepV_other {v u : VF} {o : Opr} (ho : chkO o = 0) (h : stepV v o = some u) {k : ByteArray} (hk : k ∉ wrO o) : u k = v k := by
  have hkd := kinds ho
  obtain ⟨kd, key, src, n⟩ := o
  simp only at hkd
  rcases hkd with rfl | rfl | rfl | rfl | rfl <;> simp [stepV, wrO] at h hk
  · rw [(putV_some h).2, upd_other _ _ hk]
  · rw [(putV_some h).2, upd_other _ _ hk]
  · rw [(putV_some h).2, upd_other _ _ hk]
  · rw [h.2]
  · unfold moveV at h
    simp only at h
    by_cases hn : v src < n
    · rw [if_pos hn] at h; cases h
    · rw [if_neg hn] at h
      rw [(putV_some h).2, upd_other _ _ hk.2, upd_other _ _ hk.1]
/-- what it makes of what it writes hangs only on what it reads -/
theorem stepV_reads {v v' : VF} {o : Opr} (ho : chkO o = 0) (h : ∀ k ∈ rdO o, v k = v' k) :
    (stepV v o = none ∧ stepV v' o = none) ∨ ∃ u u', stepV v o = some u ∧ stepV v' o = some u' ∧ ∀ k ∈ wrO o, u k = u' k := by
  have hkd := kinds ho
  have hc := chkO_zero.1 ho
  obtain ⟨kd, key, src, n⟩ := o
  simp only at hkd hc
  rcases hkd with rfl | rfl | rfl | rfl | rfl <;> simp [stepV, wrO, rdO] at h ⊢
  · by_cases hn : valB n = true
    · exact .inr ⟨_, putV_ok hn, _, putV_ok hn, by rw [upd_same, upd_same]⟩
    · exact .inl ⟨putV_no hn, putV_no hn⟩
  · rw [h]
    by_cases hn : valB (v' key + n) = true
    · exact .inr ⟨_, putV_ok hn, _, putV_ok hn, by rw [upd_same, upd_same]⟩
    · exact .inl ⟨putV_no hn, putV_no hn⟩
  · rw [h]
    by_cases hn : valB (v' src) = true
    · exact .inr ⟨_, putV_ok hn, _, putV_ok hn, by rw [upd_same, upd_same]⟩
    · exact .inl ⟨putV_no hn, putV_no hn⟩
  · rw [h]
    by_cases hn : n ≤ v' key
    · exact .inr ⟨hn, hn⟩
    · exact .inl (by omega)
  · have hsk := (hc.2.2.2.1 (by simp)).2
    unfold moveV
    simp only
    rw [h.1, upd_other _ _ (fun e => hsk e.symm), upd_other _ _ (fun e => hsk e.symm), h.2]
    by_cases hn : v' src < n
    · rw [if_pos hn, if_pos hn]; exact .inl ⟨rfl, rfl⟩
    · rw [if_neg hn, if_neg hn]
      by_cases hb : valB (v' key + n) = true
      · refine .inr ⟨_, putV_ok hb, _, putV_ok hb, ?_, ?_⟩
        · rw [upd_other _ _ hsk, upd_other _ _ hsk, upd_same, upd_same]
        · rw [upd_same, upd_same]
      · exact .inl ⟨putV_no hb, putV_no hb⟩
theorem mem_wrL {d : List Opr} {k : ByteArray} : k ∈ wrL d ↔ ∃ o ∈ d, k ∈ wrO o := by unfold wrL; exact List.mem_flatMap
theorem mem_rdL {d : List Opr} {k : ByteArray} : k ∈ rdL d ↔ ∃ o ∈ d, k ∈ rdO o := by unfold rdL; exact List.mem_flatMap
theorem runV_other {d : List Opr} (hd : ∀ o ∈ d, chkO o = 0) {v u : VF} (h : runV v d = some u) {k : ByteArray} (hk : k ∉ wrL d) : u k = v k := by
  induction d generalizing v with
  | nil => injection h with h; rw [h]
  | cons o r ih =>
    rw [runV_cons] at h
    cases hs : stepV v o with
    | none => rw [hs] at h; cases h
    | some x =>
      rw [hs] at h
      have h1 := ih (fun q hq => hd q (by simp [hq])) h (fun e => hk (mem_wrL.2 (by obtain ⟨q, hq, hm⟩ := mem_wrL.1 e; exact ⟨q, by simp [hq], hm⟩)))
      rw [h1]
      exact stepV_other (hd o (by simp)) hs (fun e => hk (mem_wrL.2 ⟨o, by simp, e⟩))
/-- two states that agree on what a transaction reads: it does the same in both -/
theorem runV_reads {d : List Opr} (hd : ∀ o ∈ d, chkO o = 0) (R : ByteArray → Prop) (hR : ∀ k ∈ rdL d, R k) {v v' : VF} (h : ∀ k, R k → v k = v' k) :
    (runV v d = none ∧ runV v' d = none) ∨ ∃ u u', runV v d = some u ∧ runV v' d = some u' ∧ (∀ k, R k → u k = u' k) ∧ ∀ k ∈ wrL d, u k = u' k := by
  induction d generalizing v v' with
  | nil => exact .inr ⟨v, v', rfl, rfl, h, by simp [wrL]⟩
  | cons o r ih =>
    have ho := hd o (by simp)
    have hr : ∀ q ∈ r, chkO q = 0 := fun q hq => hd q (by simp [hq])
    rw [runV_cons, runV_cons]
    rcases stepV_reads ho (v := v) (v' := v') (fun k hk => h k (hR k (mem_rdL.2 ⟨o, by simp, hk⟩))) with ⟨e1, e2⟩ | ⟨x, x', e1, e2, hw⟩
    · rw [e1, e2]; exact .inl ⟨rfl, rfl⟩
    · rw [e1, e2]
      have hag : ∀ k, R k → x k = x' k := fun k hk => by
        by_cases hm : k ∈ wrO o
        · exact hw k hm
        · rw [stepV_other ho e1 hm, stepV_other ho e2 hm, h k hk]
      rcases ih hr (fun k hk => hR k (mem_rdL.2 (by obtain ⟨q, hq, hm⟩ := mem_rdL.1 hk; exact ⟨q, by simp [hq], hm⟩))) hag with ⟨f1, f2⟩ | ⟨u, u', f1, f2, hu, hu2⟩
      · exact .inl ⟨f1, f2⟩
      · refine .inr ⟨u, u', f1, f2, hu, fun k hk => ?_⟩
        by_cases hm : k ∈ wrL r
        · exact hu2 k hm
        · rw [runV_other hr f1 hm, runV_other hr f2 hm]
          obtain ⟨q, hq, hkq⟩ := mem_wrL.1 hk
          rcases List.mem_cons.1 hq with rfl | hq
          · exact hw k hkq
          · exact absurd (mem_wrL.2 ⟨q, hq, hkq⟩) hm
theorem doneV_other {d : List Opr} (hd : ∀ o ∈ d, chkO o = 0) (v : VF) {k : ByteArray} (hk : k ∉ wrL d) : (doneV v d).1 k = v k := by
  cases h : runV v d with
  | none => rw [doneV_none h]
  | some u => rw [doneV_some h]; exact runV_other hd h hk
theorem doneV_agree {d : List Opr} (hd : ∀ o ∈ d, chkO o = 0) {v v' : VF} (hr : ∀ k ∈ rdL d, v k = v' k) (hw : ∀ k ∈ wrL d, v k = v' k) : (doneV v d).2 = (doneV v' d).2 ∧ ∀ k ∈ wrL d, (doneV v d).1 k = (doneV v' d).1 k := by
  rcases runV_reads hd (fun k => k ∈ rdL d) (fun k h => h) hr with ⟨e1, e2⟩ | ⟨u, u', e1, e2, _, h⟩
  · rw [doneV_none e1, doneV_none e2]; exact ⟨rfl, hw⟩
  · rw [doneV_some e1, doneV_some e2]; exact ⟨rfl, h⟩
/-- transactions that do not conflict -/
structure Free (a b : List Opr) : Prop where
  ww : ∀ k ∈ wrL a, k ∉ wrL b
  wr : ∀ k ∈ wrL a, k ∉ rdL b
  rw_ : ∀ k ∈ rdL a, k ∉ wrL b
/-- Bernstein: they commute, with the same outcomes -/
theorem commute {a b : List Opr} (ha : ∀ o ∈ a, chkO o = 0) (hb : ∀ o ∈ b, chkO o = 0) (h : Free a b) (v : VF) :
    (doneV (doneV v a).1 b).1 = (doneV (doneV v b).1 a).1 ∧ (doneV v a).2 = (doneV (doneV v b).1 a).2 ∧ (doneV (doneV v a).1 b).2 = (doneV v b).2 := by
  have hB := doneV_agree hb (v := (doneV v a).1) (v' := v) (fun k hk => doneV_other ha v (fun e => h.wr k e hk)) (fun k hk => doneV_other ha v (fun e => h.ww k e hk))
  have hA := doneV_agree ha (v := (doneV v b).1) (v' := v) (fun k hk => doneV_other hb v (h.rw_ k hk)) (fun k hk => doneV_other hb v (h.ww k hk))
  refine ⟨funext fun k => ?_, hA.1.symm, hB.1⟩
  by_cases h1 : k ∈ wrL b
  · have h2 : k ∉ wrL a := fun e => h.ww k e h1
    rw [hB.2 k h1, doneV_other ha _ h2]
  · rw [doneV_other hb _ h1]
    by_cases h2 : k ∈ wrL a
    · rw [hA.2 k h2]
    · rw [doneV_other ha _ h2, doneV_other ha _ h2, doneV_other hb _ h1]

/-- the sum of all values -/
def sumI : List Pr → Int
  | [] => 0
  | p :: r => p.2 + sumI r
theorem sumI_append (l m : List Pr) : sumI (l ++ m) = sumI l + sumI m := by
  induction l with
  | nil => simp [sumI]
  | cons p r ih => simp [sumI, ih]; omega
theorem sumI_put {l : List Pr} (hl : Ok l) {k : ByteArray} (hk : keyB k = true) {n : Int} (hn : valB n = true) {l' : List Pr} (hl' : Ok l') (h : valOf l' = upd (valOf l) k n) : sumI l' = sumI l - valOf l k + n := by
  have hq := posOf_at hl.srt k
  have hp := putL_ok hl hq hk hn
  have e : l' = putL l k n (posOf l k) := hl'.ext hp.1 fun j => by rw [h, hp.2]; rfl
  have hv := valOf_at hq hl.srt
  rw [e]
  generalize posOf l k = q at hq hv
  unfold putL
  by_cases hf : fnd l k q = true
  · rw [if_pos hf, hv, dif_pos hf]
    have hql := fnd_lt hf
    have hs : sumI l = sumI (l.take q) + ((l[q]).2 + sumI (l.drop (q + 1))) := by
      conv => lhs; rw [← List.take_append_drop q l, List.drop_eq_getElem_cons hql]
      rw [sumI_append]; rfl
    rw [sumI_append, sumI_append, hs]
    by_cases h0 : n = 0 <;> simp [h0, sumI] <;> omega
  · rw [if_neg hf, hv, dif_neg hf]
    have hs : sumI l = sumI (l.take q) + sumI (l.drop q) := by rw [← sumI_append, List.take_append_drop]
    rw [sumI_append, sumI_append, hs]
    by_cases h0 : n = 0 <;> simp [h0, sumI] <;> omega
theorem put_exists {l : List Pr} (hl : Ok l) {k : ByteArray} (hk : keyB k = true) {n : Int} (hn : valB n = true) : ∃ l', Ok l' ∧ valOf l' = upd (valOf l) k n :=
  ⟨_, (putL_ok hl (posOf_at hl.srt k) hk hn).1, funext (putL_ok hl (posOf_at hl.srt k) hk hn).2⟩
/-- what only moves keeps the total -/
theorem stepV_total {l : List Pr} (hl : Ok l) {o : Opr} (ho : chkO o = 0) (hk : o.kind = 4 ∨ o.kind = 5) {u : VF} (h : stepV (valOf l) o = some u) : ∃ l', Ok l' ∧ valOf l' = u ∧ sumI l' = sumI l := by
  have hc := chkO_zero.1 ho
  obtain ⟨kd, key, src, n⟩ := o
  simp only at hk hc
  rcases hk with rfl | rfl <;> simp [stepV] at h
  · exact ⟨l, hl, h.2, rfl⟩
  · unfold moveV at h
    simp only at h
    by_cases hlt : valOf l src < n
    · rw [if_pos hlt] at h; cases h
    rw [if_neg hlt] at h
    obtain ⟨hv2, rfl⟩ := putV_some h
    have hs := hc.2.2.2.1 (by simp)
    have hn0 := hc.2.2.2.2.2 rfl
    have hv1 := valB_iff.1 (hl.vb src)
    have hb1 : valB (valOf l src - n) = true := valB_iff.2 (by omega)
    obtain ⟨l1, ok1, e1⟩ := put_exists hl hs.1 hb1
    rw [← e1] at hv2 ⊢
    obtain ⟨l2, ok2, e2⟩ := put_exists ok1 hc.2.2.1 hv2
    refine ⟨l2, ok2, e2, ?_⟩
    rw [sumI_put ok1 hc.2.2.1 hv2 ok2 e2, sumI_put hl hs.1 hb1 ok1 e1]
    omega
theorem runV_total {d : List Opr} (hd : ∀ o ∈ d, chkO o = 0 ∧ (o.kind = 4 ∨ o.kind = 5)) {l : List Pr} (hl : Ok l) {u : VF} (h : runV (valOf l) d = some u) : ∃ l', Ok l' ∧ valOf l' = u ∧ sumI l' = sumI l := by
  induction d generalizing l with
  | nil => injection h with h; exact ⟨l, hl, h, rfl⟩
  | cons o r ih =>
    rw [runV_cons] at h
    cases hs : stepV (valOf l) o with
    | none => rw [hs] at h; cases h
    | some x =>
      rw [hs] at h
      obtain ⟨l1, ok1, e1, s1⟩ := stepV_total hl (hd o (by simp)).1 (hd o (by simp)).2 hs
      subst e1
      obtain ⟨l2, ok2, e2, s2⟩ := ih (fun q hq => hd q (by simp [hq])) ok1 h
      exact ⟨l2, ok2, e2, s2.trans s1⟩
theorem doneV_total {d : List Opr} (hd : ∀ o ∈ d, chkO o = 0 ∧ (o.kind = 4 ∨ o.kind = 5)) {l l' : List Pr} (hl : Ok l) (hl' : Ok l') (h : valOf l' = (doneV (valOf l) d).1) : sumI l' = sumI l := by
  cases hr : runV (valOf l) d with
  | none => rw [doneV_none hr] at h; rw [hl'.ext hl (fun k => by rw [h])]
  | some u =>
    rw [doneV_some hr] at h
    obtain ⟨l2, ok2, e2, s2⟩ := runV_total hd hl hr
    rw [hl'.ext ok2 (fun k => by rw [h, e2])]
    exact s2
theorem sumI_bound {l : List Pr} (h : ∀ p ∈ l, valB p.2 = true) : -1000000000 * (l.length : Int) ≤ sumI l ∧ sumI l ≤ 1000000000 * (l.length : Int) := by
  induction l with
  | nil => simp [sumI]
  | cons p r ih =>
    have := ih fun q hq => h q (by simp [hq])
    have := valB_iff.1 (h p (by simp))
    simp only [sumI, List.length_cons]
    omega
theorem sumW_eq {l : List Pr} (h : Ok l) : sumW l = sumI l := by
  have hsm := h.small
  have key : ∀ k, k ≤ l.length → sumW (l.take k) = sumI (l.take k) := by
    intro k
    induction k with
    | zero => intro _; simp [sumW, sumI]
    | succ k ih =>
      intro hk
      have hb := sumI_bound (l := l.take (k + 1)) fun p hp => h.val p (List.mem_of_mem_take hp)
      rw [sumW_take l k (by omega), ih (by omega)]
      rw [List.take_succ_eq_append_getElem (show k < l.length by omega), sumI_append] at hb ⊢
      simp [sumI] at hb ⊢
      unfold wrap64
      omega
  have := key l.length (Nat.le_refl _)
  rwa [List.take_length] at this
end Go.Proofs.Ytkikhananegclaa
