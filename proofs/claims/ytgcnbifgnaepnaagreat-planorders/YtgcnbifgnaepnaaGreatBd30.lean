/-
  Transactions that do not conflict (no program in it).
  Orders of transactions, plainly (no program in it).
-/
import Derived.Test.YtgcnbifgnaepnaaGreatBd29
import Derived.Test.YtgcnbifgnaepnaaGreatBd3
set_option linter.unusedVariables false
set_option linter.unusedSimpArgs false
namespace Go.Proofs.YtgcnbifgnaepnaaGreat

theorem comB_symm (xs ys : List ByteArray) : comB xs ys = comB ys xs := by
  rw [Bool.eq_iff_iff, comB_iff, comB_iff]; exact ⟨fun ⟨k, a, b⟩ => ⟨k, b, a⟩, fun ⟨k, a, b⟩ => ⟨k, b, a⟩⟩
theorem clB_symm (a b : List Opr) : clB a b = clB b a := by
  unfold clB
  rw [comB_symm (wrL a) (wrL b), comB_symm (wrL a) (rdL b), comB_symm (rdL a) (wrL b)]
  cases comB (wrL b) (wrL a) <;> cases comB (rdL b) (wrL a) <;> cases comB (wrL b) (rdL a) <;> rfl
theorem clB_free {a b : List Opr} (h : clB a b = false) : Free a b := by
  unfold clB at h
  have no : ∀ {xs ys : List ByteArray}, comB xs ys = false → ∀ k ∈ xs, k ∉ ys := fun h k h1 h2 => by
    rw [comB_iff.2 ⟨k, h1, h2⟩] at h; cases h
  cases h1 : comB (wrL a) (wrL b)
  · cases h2 : comB (wrL a) (rdL b)
    · cases h3 : comB (rdL a) (wrL b)
      · exact ⟨no h1, no h2, no h3⟩
      · simp [h1, h2, h3] at h
    · simp [h1, h2] at h
  · simp [h1] at h
end Go.Proofs.YtgcnbifgnaepnaaGreat

set_option linter.unusedVariables false
set_option linter.unusedSimpArgs false
namespace Go.Proofs.YtgcnbifgnaepnaaGreat

/-- is a number in a list? -/
def inI (z : Int) (l : List Int) : Bool := l.any fun x => decide (x = z)
theorem inI_iff {z : Int} {l : List Int} : inI z l = true ↔ z ∈ l := by simp [inI]
theorem inI_no {z : Int} {l : List Int} : inI z l = false ↔ z ∉ l := by rw [← Bool.not_eq_true, inI_iff]
/-- the first error of an order's elements, those of pre having come before -/
def chkOe (n : Nat) (pre : List Int) : List Int → Int
  | [] => 0
  | z :: r => if z < 0 ∨ (n : Int) ≤ z then 1 else if inI z pre = true then 5 else chkOe n (pre ++ [z]) r
theorem chkOe_next (n : Nat) {l : List Int} {k : Nat} (h : k < l.length) :
    chkOe n (l.take k) (l.drop k) = if l[k] < 0 ∨ (n : Int) ≤ l[k] then 1 else if inI l[k] (l.take k) = true then 5 else chkOe n (l.take (k + 1)) (l.drop (k + 1)) := by
  rw [List.drop_eq_getElem_cons h, List.take_succ_eq_append_getElem h]; rfl
theorem chkOe_zero (n : Nat) (l pre : List Int) : chkOe n pre l = 0 ↔ (∀ z ∈ l, 0 ≤ z ∧ z < n) ∧ (∀ z ∈ l, z ∉ pre) ∧ l.Nodup := by
  induction l generalizing pre with
  | nil => simp [chkOe]
  | cons z r ih =>
    by_cases h1 : z < 0 ∨ (n : Int) ≤ z
    · simp only [chkOe]
      rw [if_pos h1]
      refine ⟨fun h => absurd h (by decide), fun h => ?_⟩
      have := h.1 z (by simp)
      omega
    · by_cases h2 : inI z pre = true
      · simp only [chkOe]
        rw [if_neg h1, if_pos h2]
        exact ⟨fun h => absurd h (by decide), fun h => absurd (inI_iff.1 h2) (h.2.1 z (by simp))⟩
      · simp only [chkOe]
        rw [if_neg h1, if_neg h2, ih]
        have h3 := inI_no.1 (Bool.not_eq_true _ ▸ h2)
        constructor
        · rintro ⟨a, b, c⟩
          refine ⟨fun x hx => ?_, fun x hx => ?_, ?_⟩
          · rcases List.mem_cons.1 hx with rfl | hx
            · omega
            · exact a x hx
          · rcases List.mem_cons.1 hx with rfl | hx
            · exact h3
            · exact fun hp => b x hx (List.mem_append_left _ hp)
          · exact List.nodup_cons.2 ⟨fun hz => b z hz (by simp), c⟩
        · rintro ⟨a, b, c⟩
          rw [List.nodup_cons] at c
          refine ⟨fun x hx => a x (by simp [hx]), fun x hx hp => ?_, c.2⟩
          rcases List.mem_append.1 hp with hp | hp
          · exact b x (by simp [hx]) hp
          · rw [List.mem_singleton.1 hp] at hx; exact c.1 hx
/-- the error of an order of n transactions -/
def chkOr (n : Nat) (l : List Int) : Int := if l.length = n then chkOe n [] l else 3
theorem chkOr_zero {n : Nat} {l : List Int} : chkOr n l = 0 ↔ l.length = n ∧ (∀ z ∈ l, 0 ≤ z ∧ z < n) ∧ l.Nodup := by
  unfold chkOr
  by_cases h : l.length = n
  · rw [if_pos h, chkOe_zero]; simp [h]
  · rw [if_neg h]; exact ⟨fun e => absurd e (by decide), fun e => absurd e.1 h⟩
/-- does an earlier one that conflicts stand behind? -/
def invB (dd : List (List Opr)) (s : Int) (r : List Int) : Bool := r.any fun x => decide (x < s) && clB (dd.getD x.toNat []) (dd.getD s.toNat [])
theorem invB_next (dd : List (List Opr)) (s : Int) {r : List Int} {j : Nat} (h : j < r.length) : invB dd s (r.drop j) = ((decide (r[j] < s) && clB (dd.getD r[j].toNat []) (dd.getD s.toNat [])) || invB dd s (r.drop (j + 1))) := by
  rw [List.drop_eq_getElem_cons h]; rfl
/-- do all that conflict stand in order? -/
def ordB (dd : List (List Opr)) : List Int → Bool
  | [] => true
  | s :: r => !invB dd s r && ordB dd r
theorem ordB_next (dd : List (List Opr)) {l : List Int} {k : Nat} (h : k < l.length) : ordB dd (l.drop k) = (!invB dd l[k] (l.drop (k + 1)) && ordB dd (l.drop (k + 1))) := by
  rw [List.drop_eq_getElem_cons h]; rfl
theorem ordB_iff {dd : List (List Opr)} {l : List Int} : ordB dd l = true ↔ l.Pairwise fun s x => x < s → clB (dd.getD x.toNat []) (dd.getD s.toNat []) = false := by
  induction l with
  | nil => simp [ordB]
  | cons s r ih =>
    simp only [ordB, Bool.and_eq_true, List.pairwise_cons, ih, Bool.not_eq_true']
    refine and_congr_left fun _ => ?_
    unfold invB
    rw [List.any_eq_false]
    refine forall_congr' fun x => forall_congr' fun hx => ?_
    by_cases h : x < s <;> simp [h]
/-- what Order answers of valid transactions -/
def orV (dd : List (List Opr)) (l : List Int) : Bool × Int := if chkOr dd.length l = 0 then (ordB dd l, 0) else (false, chkOr dd.length l)
end Go.Proofs.YtgcnbifgnaepnaaGreat
