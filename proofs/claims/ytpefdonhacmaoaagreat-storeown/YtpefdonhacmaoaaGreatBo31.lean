/-
  What transactions leave alone, what they hang on, and which of them commute (no program in it).
  Transactions that do not conflict (no program in it).
  Is a number in a list (no program in it).
  Orders of transactions, plainly (no program in it).
-/
import Derived.Test.YtpefdonhacmaoaaGreatBo8
import Derived.Test.YtpefdonhacmaoaaGreatBo12
import Derived.Test.YtpefdonhacmaoaaGreatBo19
import Derived.Test.YtpefdonhacmaoaaGreatBo1
set_option linter.unusedVariables false
set_option linter.unusedSimpArgs false
namespace Go.Proofs.YtpefdonhacmaoaaGreat
open Go.RowKit

theorem putV_some {v u : VF} {k : ByteArray} {n : Int} (h : putV v k n = some u) : valB n = true ∧ u = upd v k n := by
  unfold putV at h
  by_cases hn : valB n = true
  · rw [if_pos hn] at h; injection h with h; exact ⟨hn, h.symm⟩
  · rw [if_neg hn] at h; cases h
theorem putV_ok {v : VF} {k : ByteArray} {n : Int} (hn : valB n = true) : putV v k n = some (upd v k n) := by unfold putV; rw [if_pos hn]
theorem putV_no {v : VF} {k : ByteArray} {n : Int} (hn : ¬ valB n = true) : putV v k n = none := by unfold putV; rw [if_neg hn]
/-- the kinds -/
theorem kinds {o : Opr} (h : chkO o = 0) : o.kind = 1 ∨ o.kind = 2 ∨ o.kind = 3 ∨ o.kind = 4 ∨ o.kind = 5 := by
  have := chkO_zero.1 h; omega
/-- an operation changes only what it writes -/
theorem stepV_other {v u : VF} {o : Opr} (ho : chkO o = 0) (h : stepV v o = some u) {k : ByteArray} (hk : k ∉ wrO o) : u k = v k := by
  have hkd := kinds ho
  obtain ⟨kd, key, src, n⟩ := o
  simp only at hkd
  rcases hkd with rfl | rfl | rfl | rfl | rfl <;> simp [stepV, wrO] at h hk
  · rw [(putV_some h).2, upd_other _ _ hk]
  · rw [(putV_some h).2, upd_other _ _ hk]
  · rw [(putV_some h).2, upd_other _ _ hk]
  · rw [h.2]
  · unfold moveV at h
    simp only at h
    by_cases hn : v src < n
    · rw [if_pos hn] at h; cases h
    · rw [if_neg hn] at h
      rw [(putV_some h).2, upd_other _ _ hk.2, upd_other _ _ hk.1]
/-- what it makes of what it writes hangs only on what it reads -/
theorem stepV_reads {v v' : VF} {o : Opr} (ho : chkO o = 0) (h : ∀ k ∈ rdO o, v k = v' k) :
    (stepV v o = none ∧ stepV v' o = none) ∨ ∃ u u', stepV v o = some u ∧ stepV v' o = some u' ∧ ∀ k ∈ wrO o, u k = u' k := by
  have hkd := kinds ho
  have hc := chkO_zero.1 ho
  obtain ⟨kd, key, src, n⟩ := o
  simp only at hkd hc
  rcases hkd with rfl | rfl | rfl | rfl | rfl <;> simp [stepV, wrO, rdO] at h ⊢
  · by_cases hn : valB n = true
    · exact .inr ⟨_, putV_ok hn, _, putV_ok hn, by rw [upd_same, upd_same]⟩
    · exact .inl ⟨putV_no hn, putV_no hn⟩
  · rw [h]
    by_cases hn : valB (v' key + n) = true
    · exact .inr ⟨_, putV_ok hn, _, putV_ok hn, by rw [upd_same, upd_same]⟩
    · exact .inl ⟨putV_no hn, putV_no hn⟩
  · rw [h]
    by_cases hn : valB (v' src) = true
    · exact .inr ⟨_, putV_ok hn, _, putV_ok hn, by rw [upd_same, upd_same]⟩
    · exact .inl ⟨putV_no hn, putV_no hn⟩
  · rw [h]
    by_cases hn : n ≤ v' key
    · exact .inr ⟨hn, hn⟩
    · exact .inl (by omega)
  · have hsk := (hc.2.2.2.1 (by simp)).2
    unfold moveV
    simp only
    rw [h.1, upd_other _ _ (fun e => hsk e.symm), upd_other _ _ (fun e => hsk e.symm), h.2]
    by_cases hn : v' src < n
    · rw [if_pos hn, if_pos hn]; exact .inl ⟨rfl, rfl⟩
    · rw [if_neg hn, if_neg hn]
      by_cases hb : valB (v' key + n) = true
      · refine .inr ⟨_, putV_ok hb, _, putV_ok hb, ?_, ?_⟩
        · rw [upd_other _ _ hsk, upd_other _ _ hsk, upd_same, upd_same]
        · rw [upd_same, upd_same]
      · exact .inl ⟨putV_no hb, putV_no hb⟩
theorem mem_wrL {d : List Opr} {k : ByteArray} : k ∈ wrL d ↔ ∃ o ∈ d, k ∈ wrO o := by unfold wrL; exact List.mem_flatMap
theorem mem_rdL {d : List Opr} {k : ByteArray} : k ∈ rdL d ↔ ∃ o ∈ d, k ∈ rdO o := by unfold rdL; exact List.mem_flatMap
theorem runV_other {d : List Opr} (hd : ∀ o ∈ d, chkO o = 0) {v u : VF} (h : runV v d = some u) {k : ByteArray} (hk : k ∉ wrL d) : u k = v k := by
  induction d generalizing v with
  | nil => injection h with h; rw [h]
  | cons o r ih =>
    rw [runV_cons] at h
    cases hs : stepV v o with
    | none => rw [hs] at h; cases h
    | some x =>
      rw [hs] at h
      have h1 := ih (fun q hq => hd q (by simp [hq])) h (fun e => hk (mem_wrL.2 (by obtain ⟨q, hq, hm⟩ := mem_wrL.1 e; exact ⟨q, by simp [hq], hm⟩)))
      rw [h1]
      exact stepV_other (hd o (by simp)) hs (fun e => hk (mem_wrL.2 ⟨o, by simp, e⟩))
/-- two states that agree on what a transaction reads: it does the same in both -/
theorem runV_reads {d : List Opr} (hd : ∀ o ∈ d, chkO o = 0) (R : ByteArray → Prop) (hR : ∀ k ∈ rdL d, R k) {v v' : VF} (h : ∀ k, R k → v k = v' k) :
    (runV v d = none ∧ runV v' d = none) ∨ ∃ u u', runV v d = some u ∧ runV v' d = some u' ∧ (∀ k, R k → u k = u' k) ∧ ∀ k ∈ wrL d, u k = u' k := by
  induction d generalizing v v' with
  | nil => exact .inr ⟨v, v', rfl, rfl, h, by simp [wrL]⟩
  | cons o r ih =>
    have ho := hd o (by simp)
    have hr : ∀ q ∈ r, chkO q = 0 := fun q hq => hd q (by simp [hq])
    rw [runV_cons, runV_cons]
    rcases stepV_reads ho (v := v) (v' := v') (fun k hk => h k (hR k (mem_rdL.2 ⟨o, by simp, hk⟩))) with ⟨e1, e2⟩ | ⟨x, x', e1, e2, hw⟩
    · rw [e1, e2]; exact .inl ⟨rfl, rfl⟩
    · rw [e1, e2]
      have hag : ∀ k, R k → x k = x' k := fun k hk => by
        by_cases hm : k ∈ wrO o
        · exact hw k hm
        · rw [stepV_other ho e1 hm, stepV_other ho e2 hm, h k hk]
      rcases ih hr (fun k hk => hR k (mem_rdL.2 (by obtain ⟨q, hq, hm⟩ := mem_rdL.1 hk; exact ⟨q, by simp [hq], hm⟩))) hag with ⟨f1, f2⟩ | ⟨u, u', f1, f2, hu, hu2⟩
      · exact .inl ⟨f1, f2⟩
      · refine .inr ⟨u, u', f1, f2, hu, fun k hk => ?_⟩
        by_cases hm : k ∈ wrL r
        · exact hu2 k hm
        · rw [runV_other hr f1 hm, runV_other hr f2 hm]
          obtain ⟨q, hq, hkq⟩ := mem_wrL.1 hk
          rcases List.mem_cons.1 hq with rfl | hq
          · exact hw k hkq
          · exact absurd (mem_wrL.2 ⟨q, hq, hkq⟩) hm
theorem doneV_other {d : List Opr} (hd : ∀ o ∈ d, chkO o = 0) (v : VF) {k : ByteArray} (hk : k ∉ wrL d) : (doneV v d).1 k = v k := by
  cases h : runV v d with
  | none => rw [doneV_none h]
  | some u => rw [doneV_some h]; exact runV_other hd h hk
theorem doneV_agree {d : List Opr} (hd : ∀ o ∈ d, chkO o = 0) {v v' : VF} (hr : ∀ k ∈ rdL d, v k = v' k) (hw : ∀ k ∈ wrL d, v k = v' k) : (doneV v d).2 = (doneV v' d).2 ∧ ∀ k ∈ wrL d, (doneV v d).1 k = (doneV v' d).1 k := by
  rcases runV_reads hd (fun k => k ∈ rdL d) (fun k h => h) hr with ⟨e1, e2⟩ | ⟨u, u', e1, e2, _, h⟩
  · rw [doneV_none e1, doneV_none e2]; exact ⟨rfl, hw⟩
  · rw [doneV_some e1, doneV_some e2]; exact ⟨rfl, h⟩
/-- transactions that do not conflict -/
structure Free (a b : List Opr) : Prop where
  ww : ∀ k ∈ wrL a, k ∉ wrL b
  wr : ∀ k ∈ wrL a, k ∉ rdL b
  rw_ : ∀ k ∈ rdL a, k ∉ wrL b
/-- Bernstein: they commute, with the same outcomes -/
theorem commute {a b : List Opr} (ha : ∀ o ∈ a, chkO o = 0) (hb : ∀ o ∈ b, chkO o = 0) (h : Free a b) (v : VF) :
    (doneV (doneV v a).1 b).1 = (doneV (doneV v b).1 a).1 ∧ (doneV v a).2 = (doneV (doneV v b).1 a).2 ∧ (doneV (doneV v a).1 b).2 = (doneV v b).2 := by
  have hB := doneV_agree hb (v := (doneV v a).1) (v' := v) (fun k hk => doneV_other ha v (fun e => h.wr k e hk)) (fun k hk => doneV_other ha v (fun e => h.ww k e hk))
  have hA := doneV_agree ha (v := (doneV v b).1) (v' := v) (fun k hk => doneV_other hb v (h.rw_ k hk)) (fun k hk => doneV_other hb v (h.ww k hk))
  refine ⟨funext fun k => ?_, hA.1.symm, hB.1⟩
  by_cases h1 : k ∈ wrL b
  · have h2 : k ∉ wrL a := fun e => h.ww k e h1
    rw [hB.2 k h1, doneV_other ha _ h2]
  · rw [doneV_other hb _ h1]
    by_cases h2 : k ∈ wrL a
    · rw [hA.2 k h2]
    · rw [doneV_other ha _ h2, doneV_other ha _ h2, doneV_other hb _ h1]
end Go.Proofs.YtpefdonhacmaoaaGreat

set_option linter.unusedVariables false
set_option linter.unusedSimpArgs false
namespace Go.Proofs.YtpefdonhacmaoaaGreat

theorem comB_symm (xs ys : List ByteArray) : comB xs ys = comB ys xs := by
  rw [Bool.eq_iff_iff, comB_iff, comB_iff]; exact ⟨fun ⟨k, a, b⟩ => ⟨k, b, a⟩, fun ⟨k, a, b⟩ => ⟨k, b, a⟩⟩
theorem clB_symm (a b : List Opr) : clB a b = clB b a := by
  unfold clB
  rw [comB_symm (wrL a) (wrL b), comB_symm (wrL a) (rdL b), comB_symm (rdL a) (wrL b)]
  cases comB (wrL b) (wrL a) <;> cases comB (rdL b) (wrL a) <;> cases comB (wrL b) (rdL a) <;> rfl
theorem clB_free {a b : List Opr} (h : clB a b = false) : Free a b := by
  unfold clB at h
  have no : ∀ {xs ys : List ByteArray}, comB xs ys = false → ∀ k ∈ xs, k ∉ ys := fun h k h1 h2 => by
    rw [comB_iff.2 ⟨k, h1, h2⟩] at h; cases h
  cases h1 : comB (wrL a) (wrL b)
  · cases h2 : comB (wrL a) (rdL b)
    · cases h3 : comB (rdL a) (wrL b)
      · exact ⟨no h1, no h2, no h3⟩
      · simp [h1, h2, h3] at h
    · simp [h1, h2] at h
  · simp [h1] at h
end Go.Proofs.YtpefdonhacmaoaaGreat

set_option linter.unusedVariables false
set_option linter.unusedSimpArgs false
namespace Go.Proofs.YtpefdonhacmaoaaGreat

/-- is a number in a list? -/
def inI (z : Int) (l : List Int) : Bool := l.any fun x => decide (x = z)
theorem inI_iff {z : Int} {l : List Int} : inI z l = true ↔ z ∈ l := by simp [inI]
theorem inI_no {z : Int} {l : List Int} : inI z l = false ↔ z ∉ l := by rw [← Bool.not_eq_true, inI_iff]
end Go.Proofs.YtpefdonhacmaoaaGreat

set_option linter.unusedVariables false
set_option linter.unusedSimpArgs false
namespace Go.Proofs.YtpefdonhacmaoaaGreat

/-- the first error of an order's elements, those of pre having come before -/
def chkOe (n : Nat) (pre : List Int) : List Int → Int
  | [] => 0
  | z :: r => if z < 0 ∨ (n : Int) ≤ z then 1 else if inI z pre = true then 5 else chkOe n (pre ++ [z]) r
theorem chkOe_next (n : Nat) {l : List Int} {k : Nat} (h : k < l.length) :
    chkOe n (l.take k) (l.drop k) = if l[k] < 0 ∨ (n : Int) ≤ l[k] then 1 else if inI l[k] (l.take k) = true then 5 else chkOe n (l.take (k + 1)) (l.drop (k + 1)) := by
  rw [List.drop_eq_getElem_cons h, List.take_succ_eq_append_getElem h]; rfl
theorem chkOe_zero (n : Nat) (l pre : List Int) : chkOe n pre l = 0 ↔ (∀ z ∈ l, 0 ≤ z ∧ z < n) ∧ (∀ z ∈ l, z ∉ pre) ∧ l.Nodup := by
  induction l generalizing pre with
  | nil => simp [chkOe]
  | cons z r ih =>
    by_cases h1 : z < 0 ∨ (n : Int) ≤ z
    · simp only [chkOe]
      rw [if_pos h1]
      refine ⟨fun h => absurd h (by decide), fun h => ?_⟩
      have := h.1 z (by simp)
      omega
    · by_cases h2 : inI z pre = true
      · simp only [chkOe]
        rw [if_neg h1, if_pos h2]
        exact ⟨fun h => absurd h (by decide), fun h => absurd (inI_iff.1 h2) (h.2.1 z (by simp))⟩
      · simp only [chkOe]
        rw [if_neg h1, if_neg h2, ih]
        have h3 := inI_no.1 (Bool.not_eq_true _ ▸ h2)
        constructor
        · rintro ⟨a, b, c⟩
          refine ⟨fun x hx => ?_, fun x hx => ?_, ?_⟩
          · rcases List.mem_cons.1 hx with rfl | hx
            · omega
            · exact a x hx
          · rcases List.mem_cons.1 hx with rfl | hx
            · exact h3
            · exact fun hp => b x hx (List.mem_append_left _ hp)
          · exact List.nodup_cons.2 ⟨fun hz => b z hz (by simp), c⟩
        · rintro ⟨a, b, c⟩
          rw [List.nodup_cons] at c
          refine ⟨fun x hx => a x (by simp [hx]), fun x hx hp => ?_, c.2⟩
          rcases List.mem_append.1 hp with hp | hp
          · exact b x (by simp [hx]) hp
          · rw [List.mem_singleton.1 hp] at hx; exact c.1 hx
/-- the error of an order of n transactions -/
def chkOr (n : Nat) (l : List Int) : Int := if l.length = n then chkOe n [] l else 3
theorem chkOr_zero {n : Nat} {l : List Int} : chkOr n l = 0 ↔ l.length = n ∧ (∀ z ∈ l, 0 ≤ z ∧ z < n) ∧ l.Nodup := by
  unfold chkOr
  by_cases h : l.length = n
  · rw [if_pos h, chkOe_zero]; simp [h]
  · rw [if_neg h]; exact ⟨fun e => absurd e (by decide), fun e => absurd e.1 h⟩
/-- does an earlier one that conflicts stand behind? -/
def invB (dd : List (List Opr)) (s : Int) (r : List Int) : Bool := r.any fun x => decide (x < s) && clB (dd.getD x.toNat []) (dd.getD s.toNat [])
theorem invB_next (dd : List (List Opr)) (s : Int) {r : List Int} {j : Nat} (h : j < r.length) : invB dd s (r.drop j) = ((decide (r[j] < s) && clB (dd.getD r[j].toNat []) (dd.getD s.toNat [])) || invB dd s (r.drop (j + 1))) := by
  rw [List.drop_eq_getElem_cons h]; rfl
/-- do all that conflict stand in order? -/
def ordB (dd : List (List Opr)) : List Int → Bool
  | [] => true
  | s :: r => !invB dd s r && ordB dd r
theorem ordB_next (dd : List (List Opr)) {l : List Int} {k : Nat} (h : k < l.length) : ordB dd (l.drop k) = (!invB dd l[k] (l.drop (k + 1)) && ordB dd (l.drop (k + 1))) := by
  rw [List.drop_eq_getElem_cons h]; rfl
theorem ordB_iff {dd : List (List Opr)} {l : List Int} : ordB dd l = true ↔ l.Pairwise fun s x => x < s → clB (dd.getD x.toNat []) (dd.getD s.toNat []) = false := by
  induction l with
  | nil => simp [ordB]
  | cons s r ih =>
    simp only [ordB, Bool.and_eq_true, List.pairwise_cons, ih, Bool.not_eq_true']
    refine and_congr_left fun _ => ?_
    unfold invB
    rw [List.any_eq_false]
    refine forall_congr' fun x => forall_congr' fun hx => ?_
    by_cases h : x < s <;> simp [h]
/-- what Order answers of valid transactions -/
def orV (dd : List (List Opr)) (l : List Int) : Bool × Int := if chkOr dd.length l = 0 then (ordB dd l, 0) else (false, chkOr dd.length l)
end Go.Proofs.YtpefdonhacmaoaaGreat
