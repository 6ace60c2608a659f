/-
  Orders of transactions, plainly (no program in it).
  Orders that keep the order of conflicts: they make the same store, with the same outcomes (no program in it).
  The schedule that picks select, plainly (no program in it).
-/
import Derived.Test.YtefdipjhjgmokaaGreatBv41
import Derived.Test.YtefdipjhjgmokaaGreatBv49
import Derived.Test.YtefdipjhjgmokaaGreatBv46
import Derived.Test.YtefdipjhjgmokaaGreatBv33
set_option linter.unusedVariables false
set_option linter.unusedSimpArgs false
namespace Go.Proofs.YtefdipjhjgmokaaGreat

/-- the first error of an order's elements, those of pre having come before -/
def chkOe (n : Nat) (pre : List Int) : List Int → Int
  | [] => 0
  | z :: r => if z < 0 ∨ (n : Int) ≤ z then 1 else if inI z pre = true then 5 else chkOe n (pre ++ [z]) r
theorem chkOe_next (n : Nat) {l : List Int} {k : Nat} (h : k < l.length) :
    chkOe n (l.take k) (l.drop k) = if l[k] < 0 ∨ (n : Int) ≤ l[k] then 1 else if inI l[k] (l.take k) = true then 5 else chkOe n (l.take (k + 1)) (l.drop (k + 1)) := by
  rw [List.drop_eq_getElem_cons h, List.take_succ_eq_append_getElem h]; rfl
theorem chkOe_zero (n : Nat) (l pre : List Int) : chkOe n pre l = 0 ↔ (∀ z ∈ l, 0 ≤ z ∧ z < n) ∧ (∀ z ∈ l, z ∉ pre) ∧ l.Nodup := by
  induction l generalizing pre with
  | nil => simp [chkOe]
  | cons z r ih =>
    by_cases h1 : z < 0 ∨ (n : Int) ≤ z
    · simp only [chkOe]
      rw [if_pos h1]
      refine ⟨fun h => absurd h (by decide), fun h => ?_⟩
      have := h.1 z (by simp)
      omega
    · by_cases h2 : inI z pre = true
      · simp only [chkOe]
        rw [if_neg h1, if_pos h2]
        exact ⟨fun h => absurd h (by decide), fun h => absurd (inI_iff.1 h2) (h.2.1 z (by simp))⟩
      · simp only [chkOe]
        rw [if_neg h1, if_neg h2, ih]
        have h3 := inI_no.1 (Bool.not_eq_true _ ▸ h2)
        constructor
        · rintro ⟨a, b, c⟩
          refine ⟨fun x hx => ?_, fun x hx => ?_, ?_⟩
          · rcases List.mem_cons.1 hx with rfl | hx
            · omega
            · exact a x hx
          · rcases List.mem_cons.1 hx with rfl | hx
            · exact h3
            · exact fun hp => b x hx (List.mem_append_left _ hp)
          · exact List.nodup_cons.2 ⟨fun hz => b z hz (by simp), c⟩
        · rintro ⟨a, b, c⟩
          rw [List.nodup_cons] at c
          refine ⟨fun x hx => a x (by simp [hx]), fun x hx hp => ?_, c.2⟩
          rcases List.mem_append.1 hp with hp | hp
          · exact b x (by simp [hx]) hp
          · rw [List.mem_singleton.1 hp] at hx; exact c.1 hx
/-- the error of an order of n transactions -/
def chkOr (n : Nat) (l : List Int) : Int := if l.length = n then chkOe n [] l else 3
theorem chkOr_zero {n : Nat} {l : List Int} : chkOr n l = 0 ↔ l.length = n ∧ (∀ z ∈ l, 0 ≤ z ∧ z < n) ∧ l.Nodup := by
  unfold chkOr
  by_cases h : l.length = n
  · rw [if_pos h, chkOe_zero]; simp [h]
  · rw [if_neg h]; exact ⟨fun e => absurd e (by decide), fun e => absurd e.1 h⟩
/-- does an earlier one that conflicts stand behind? -/
def invB (dd : List (List Opr)) (s : Int) (r : List Int) : Bool := r.any fun x => decide (x < s) && clB (dd.getD x.toNat []) (dd.getD s.toNat [])
theorem invB_next (dd : List (List Opr)) (s : Int) {r : List Int} {j : Nat} (h : j < r.length) : invB dd s (r.drop j) = ((decide (r[j] < s) && clB (dd.getD r[j].toNat []) (dd.getD s.toNat [])) || invB dd s (r.drop (j + 1))) := by
  rw [List.drop_eq_getElem_cons h]; rfl
/-- do all that conflict stand in order? -/
def ordB (dd : List (List Opr)) : List Int → Bool
  | [] => true
  | s :: r => !invB dd s r && ordB dd r
theorem ordB_next (dd : List (List Opr)) {l : List Int} {k : Nat} (h : k < l.length) : ordB dd (l.drop k) = (!invB dd l[k] (l.drop (k + 1)) && ordB dd (l.drop (k + 1))) := by
  rw [List.drop_eq_getElem_cons h]; rfl
theorem ordB_iff {dd : List (List Opr)} {l : List Int} : ordB dd l = true ↔ l.Pairwise fun s x => x < s → clB (dd.getD x.toNat []) (dd.getD s.toNat []) = false := by
  induction l with
  | nil => simp [ordB]
  | cons s r ih =>
    simp only [ordB, Bool.and_eq_true, List.pairwise_cons, ih, Bool.not_eq_true']
    refine and_congr_left fun _ => ?_
    unfold invB
    rw [List.any_eq_false]
    refine forall_congr' fun x => forall_congr' fun hx => ?_
    by_cases h : x < s <;> simp [h]
/-- what Order answers of valid transactions -/
def orV (dd : List (List Opr)) (l : List Int) : Bool × Int := if chkOr dd.length l = 0 then (ordB dd l, 0) else (false, chkOr dd.length l)
end Go.Proofs.YtefdipjhjgmokaaGreat

set_option linter.unusedVariables false
set_option linter.unusedSimpArgs false
namespace Go.Proofs.YtefdipjhjgmokaaGreat

/-- the values behind the transactions of an order -/
def exO (dd : List (List Opr)) (v : VF) : List Nat → VF
  | [] => v
  | i :: r => exO dd (doneV v (dd.getD i [])).1 r
/-- their outcomes, each with its number -/
def outO (dd : List (List Opr)) (v : VF) : List Nat → List (Nat × Bool)
  | [] => []
  | i :: r => (i, (doneV v (dd.getD i [])).2) :: outO dd (doneV v (dd.getD i [])).1 r
section
variable {dd : List (List Opr)}
theorem exO_append (v : VF) (a b : List Nat) : exO dd v (a ++ b) = exO dd (exO dd v a) b := by
  induction a generalizing v with
  | nil => rfl
  | cons i r ih => simp only [List.cons_append, exO, ih]
theorem outO_append (v : VF) (a b : List Nat) : outO dd v (a ++ b) = outO dd v a ++ outO dd (exO dd v a) b := by
  induction a generalizing v with
  | nil => rfl
  | cons i r ih => simp only [List.cons_append, outO, exO, ih]
/-- one is moved behind all those that it does not conflict with -/
theorem move_back (hd : ∀ d ∈ dd, chkD d = 0) {m : Nat} (hm : m < dd.length) (b : List Nat) (hb : ∀ x ∈ b, x < dd.length ∧ clB (dd.getD x []) (dd.getD m []) = false) (v : VF) :
    exO dd v (m :: b) = exO dd v (b ++ [m]) ∧ ∀ p, p ∈ outO dd v (m :: b) ↔ p ∈ outO dd v (b ++ [m]) := by
  have hg : ∀ i, i < dd.length → ∀ o ∈ dd.getD i [], chkO o = 0 := fun i hi o ho => by
    have : dd.getD i [] ∈ dd := by
      rw [List.getD_eq_getElem?_getD, List.getElem?_eq_getElem hi]
      exact List.getElem_mem hi
    exact (chkD_zero.1 (hd _ this)).2.2 o ho
  induction b generalizing v with
  | nil => exact ⟨rfl, fun p => Iff.rfl⟩
  | cons y b ih =>
    obtain ⟨hy, hc⟩ := hb y (by simp)
    obtain ⟨h1, h2, h3⟩ := commute (hg m hm) (hg y hy) (clB_free (by rw [clB_symm]; exact hc)) v
    obtain ⟨i1, i2⟩ := ih (fun x hx => hb x (by simp [hx])) (doneV v (dd.getD y [])).1
    constructor
    · show exO dd (doneV (doneV v (dd.getD m [])).1 (dd.getD y [])).1 b = exO dd (doneV v (dd.getD y [])).1 (b ++ [m])
      rw [h1, ← i1]
      rfl
    · intro p
      show p ∈ (m, (doneV v (dd.getD m [])).2) :: (y, (doneV (doneV v (dd.getD m [])).1 (dd.getD y [])).2) :: outO dd (doneV (doneV v (dd.getD m [])).1 (dd.getD y [])).1 b ↔ p ∈ (y, (doneV v (dd.getD y [])).2) :: outO dd (doneV v (dd.getD y [])).1 (b ++ [m])
      rw [h1, h2, h3]
      have h4 := i2 p
      rw [List.mem_cons, List.mem_cons, List.mem_cons, ← h4]
      show _ ↔ _ ∨ p ∈ (m, (doneV (doneV v (dd.getD y [])).1 (dd.getD m [])).2) :: outO dd (doneV (doneV v (dd.getD y [])).1 (dd.getD m [])).1 b
      rw [List.mem_cons]
      exact ⟨fun h => h.elim (fun h => .inr (.inl h)) fun h => h.elim .inl fun h => .inr (.inr h), fun h => h.elim (fun h => .inr (.inl h)) fun h => h.elim .inl fun h => .inr (.inr h)⟩
/-- an order of the first n numbers that keeps the order of conflicts -/
structure Kept (dd : List (List Opr)) (n : Nat) (o : List Nat) : Prop where
  nodup : o.Nodup
  mem : ∀ x, x ∈ o ↔ x < n
  ord : o.Pairwise fun s x => x < s → clB (dd.getD x []) (dd.getD s []) = false
theorem kept_same (hd : ∀ d ∈ dd, chkD d = 0) (n : Nat) (hn : n ≤ dd.length) (o : List Nat) (h : Kept dd n o) (v : VF) :
    exO dd v o = exO dd v (List.range n) ∧ ∀ p, p ∈ outO dd v o ↔ p ∈ outO dd v (List.range n) := by
  induction n generalizing o with
  | zero =>
    have : o = [] := List.eq_nil_iff_forall_not_mem.2 fun x hx => by have := (h.mem x).1 hx; omega
    subst this
    exact ⟨rfl, fun p => Iff.rfl⟩
  | succ n ih =>
    obtain ⟨a, b, rfl⟩ := List.append_of_mem ((h.mem n).2 (by omega))
    have hnd := h.nodup
    rw [List.nodup_append] at hnd
    obtain ⟨n1, n2, n3⟩ := hnd
    rw [List.nodup_cons] at n2
    have hp := List.pairwise_append.1 h.ord
    have hp2 := List.pairwise_cons.1 hp.2.1
    have hlt : ∀ x ∈ b, x < n := fun x hx => by
      have h1 := (h.mem x).1 (by simp [hx])
      have h2 : x ≠ n := fun e => n2.1 (e ▸ hx)
      omega
    have hk : Kept dd n (a ++ b) := by
      refine ⟨?_, fun x => ?_, ?_⟩
      · exact h.nodup.sublist (List.Sublist.append_left (List.sublist_cons_self _ _) _)
      · constructor
        · intro hx
          have h1 := (h.mem x).1 (by rcases List.mem_append.1 hx with hx | hx <;> simp [hx])
          have h2 : x ≠ n := fun e => by
            subst e
            rcases List.mem_append.1 hx with hx | hx
            · exact n3 x hx x (by simp) rfl
            · exact n2.1 hx
          omega
        · intro hx
          have h1 := (h.mem x).2 (by omega)
          rcases List.mem_append.1 h1 with h1 | h1
          · simp [h1]
          · rcases List.mem_cons.1 h1 with h1 | h1
            · omega
            · simp [h1]
      · exact h.ord.sublist (List.Sublist.append_left (List.sublist_cons_self _ _) _)
    obtain ⟨i1, i2⟩ := ih (by omega) (a ++ b) hk
    obtain ⟨m1, m2⟩ := move_back hd (m := n) (by omega) b (fun x hx => ⟨by have := hlt x hx; omega, hp2.1 x hx (hlt x hx)⟩) (exO dd v a)
    rw [List.range_succ]
    constructor
    · rw [exO_append, m1, ← exO_append, ← List.append_assoc, exO_append, i1, ← exO_append]
    · intro p
      rw [outO_append, List.mem_append, m2, ← List.mem_append, ← outO_append, ← List.append_assoc, outO_append, List.mem_append, i2, i1, ← List.mem_append, ← outO_append]
/-- the transactions of an order -/
def atD (dd : List (List Opr)) (o : List Nat) : List (List Opr) := o.map fun i => dd.getD i []
theorem serV_atD (v : VF) (o : List Nat) : (serV v (atD dd o)).1 = exO dd v o ∧ outO dd v o = o.zip (serV v (atD dd o)).2 := by
  induction o generalizing v with
  | nil => exact ⟨rfl, rfl⟩
  | cons i r ih =>
    obtain ⟨h1, h2⟩ := ih (doneV v (dd.getD i [])).1
    refine ⟨h1, ?_⟩
    show (i, (doneV v (dd.getD i [])).2) :: outO dd (doneV v (dd.getD i [])).1 r = _
    rw [h2]
    rfl
theorem atD_range (dd : List (List Opr)) : atD dd (List.range dd.length) = dd := by
  unfold atD
  apply List.ext_getElem?
  intro i
  by_cases h : i < dd.length <;> simp [h]
theorem mem_out {v : VF} {i : Nat} {b : Bool} : (i, b) ∈ outO dd v (List.range dd.length) ↔ (serV v dd).2[i]? = some b := by
  have h := (serV_atD (dd := dd) v (List.range dd.length)).2
  rw [atD_range] at h
  rw [h, List.mem_iff_getElem?]
  have hl := serV_len v dd
  constructor
  · rintro ⟨j, hj⟩
    rw [List.getElem?_zip_eq_some] at hj
    obtain ⟨h1, h2⟩ := hj
    have hj : j < dd.length := by
      have := (List.getElem?_eq_some_iff.1 h2).1
      omega
    rw [List.getElem?_eq_getElem (by simpa using hj)] at h1
    simp at h1
    subst h1
    exact h2
  · intro h1
    have hi : i < dd.length := by have := (List.getElem?_eq_some_iff.1 h1).1; omega
    exact ⟨i, by rw [List.getElem?_zip_eq_some]; exact ⟨by simp [hi], h1⟩⟩
/-- an order that keeps the order of conflicts makes what the list makes -/
theorem kept_ser (hd : ∀ d ∈ dd, chkD d = 0) {o : List Nat} (h : Kept dd dd.length o) (v : VF) :
    (serV v (atD dd o)).1 = (serV v dd).1 ∧ ∀ (j i : Nat), o[j]? = some i → (serV v (atD dd o)).2[j]? = (serV v dd).2[i]? := by
  obtain ⟨h1, h2⟩ := kept_same hd dd.length (Nat.le_refl _) o h v
  obtain ⟨s1, s2⟩ := serV_atD (dd := dd) v o
  obtain ⟨s3, s4⟩ := serV_atD (dd := dd) v (List.range dd.length)
  rw [atD_range] at s3
  refine ⟨by rw [s1, h1, s3], fun j i hji => ?_⟩
  have hj : j < o.length := (List.getElem?_eq_some_iff.1 hji).1
  have hl : (serV v (atD dd o)).2.length = o.length := by rw [serV_len]; simp [atD]
  rw [List.getElem?_eq_getElem (by omega)]
  have hm : (i, (serV v (atD dd o)).2[j]'(by omega)) ∈ outO dd v o := by
    rw [s2, List.mem_iff_getElem?]
    exact ⟨j, by rw [List.getElem?_zip_eq_some]; exact ⟨hji, List.getElem?_eq_getElem (by omega)⟩⟩
  exact (mem_out.1 ((h2 _).1 hm)).symm
/-- what Order lets by keeps the order of conflicts -/
theorem kept_of_order {o : List Nat} (h : chkOr dd.length (o.map fun (k : Nat) => (k : Int)) = 0) (hb : ordB dd (o.map fun (k : Nat) => (k : Int)) = true) : Kept dd dd.length o := by
  obtain ⟨hl, hr, hn⟩ := chkOr_zero.1 h
  rw [List.length_map] at hl
  have hnd : o.Nodup := by
    unfold List.Nodup at hn ⊢
    rw [List.pairwise_map] at hn
    exact hn.imp fun h e => h (by rw [e])
  have hlt : ∀ x ∈ o, x < dd.length := fun x hx => by have := hr x (List.mem_map.2 ⟨x, hx, rfl⟩); omega
  refine ⟨hnd, fun x => ⟨hlt x, fun hx => Classical.byContradiction fun hm => ?_⟩, ?_⟩
  · have h2 := (List.nodup_cons.2 ⟨hm, hnd⟩).length_le_of_subset (l₂ := List.range dd.length) fun y hy => by
      rcases List.mem_cons.1 hy with rfl | hy
      · exact List.mem_range.2 hx
      · exact List.mem_range.2 (hlt y hy)
    rw [List.length_cons, List.length_range] at h2
    omega
  · rw [ordB_iff, List.pairwise_map] at hb
    refine hb.imp ?_
    intro s x hsx hlt
    have := hsx (by omega)
    rwa [Int.toNat_natCast, Int.toNat_natCast] at this
theorem Kept.order {o : List Nat} (h : Kept dd dd.length o) : orV dd (o.map fun (k : Nat) => (k : Int)) = (true, 0) := by
  have hp : o.Perm (List.range dd.length) := (List.perm_ext_iff_of_nodup h.nodup List.nodup_range).2 fun i => by rw [h.mem, List.mem_range]
  have h0 : chkOr dd.length (o.map fun (k : Nat) => (k : Int)) = 0 := by
    refine chkOr_zero.2 ⟨by rw [List.length_map, hp.length_eq, List.length_range], fun z hz => ?_, ?_⟩
    · obtain ⟨i, hi, rfl⟩ := List.mem_map.1 hz
      have := (h.mem i).1 hi
      omega
    · unfold List.Nodup
      rw [List.pairwise_map]
      exact h.nodup.imp fun h e => h (by omega)
  unfold orV
  rw [if_pos h0]
  congr 1
  rw [ordB_iff, List.pairwise_map]
  refine h.ord.imp ?_
  intro s x hsx hlt
  rw [Int.toNat_natCast, Int.toNat_natCast]
  exact hsx (by omega)
end
end Go.Proofs.YtefdipjhjgmokaaGreat

set_option linter.unusedVariables false
set_option linter.unusedSimpArgs false
namespace Go.Proofs.YtefdipjhjgmokaaGreat

/-- which of k a step takes -/
def chV (ps : List Int) (step k : Nat) : Nat := if step < ps.length then wi (ps.getD step 0) k else 0
theorem chV_lt (ps : List Int) (step : Nat) {k : Nat} (h : 1 ≤ k) : chV ps step k < k := by
  unfold chV
  split
  · exact wi_lt _ _ h
  · omega
/-- is a number among those that are gone? -/
def inN (o : List Nat) (i : Nat) : Bool := o.any fun x => decide (x = i)
theorem inN_iff {o : List Nat} {i : Nat} : inN o i = true ↔ i ∈ o := by simp [inN]
theorem inN_no {o : List Nat} {i : Nat} : inN o i = false ↔ i ∉ o := by rw [← Bool.not_eq_true, inN_iff]
theorem inN_snoc (o : List Nat) (s : Nat) : inN (o ++ [s]) = fun i => inN o i || decide (i = s) := funext fun i => by
  unfold inN
  rw [List.any_append]
  simp [eq_comm]
/-- those that may go on, once those of o are gone -/
def rdyO (dd : List (List Opr)) (o : List Nat) : List Nat := (List.range dd.length).filter fun i => !inN o i && !wtB dd (inN o) i i
theorem rdyO_mem {dd : List (List Opr)} {o : List Nat} {i : Nat} : i ∈ rdyO dd o ↔ i < dd.length ∧ i ∉ o ∧ ∀ j, j < i → j ∉ o → clB (dd.getD j []) (dd.getD i []) = false := by
  unfold rdyO
  rw [List.mem_filter, List.mem_range, Bool.and_eq_true, Bool.not_eq_true', Bool.not_eq_true', inN_no, wtB_iff]
  simp only [inN_no]
theorem rdyO_some {dd : List (List Opr)} {o : List Nat} {i : Nat} (hi : i < dd.length) (hm : i ∉ o) : 1 ≤ (rdyO dd o).length := by
  induction i using Nat.strongRecOn with
  | _ i ih =>
    by_cases h : ∃ j, j < i ∧ j ∉ o
    · obtain ⟨j, hj, hjo⟩ := h
      exact ih j hj (by omega) hjo
    · have : i ∈ rdyO dd o := rdyO_mem.2 ⟨hi, hm, fun j hj hjo => absurd ⟨j, hj, hjo⟩ h⟩
      exact List.length_pos_of_mem this
/-- the next one -/
def nextO (dd : List (List Opr)) (ps : List Int) (o : List Nat) : Nat := (rdyO dd o).getD (chV ps o.length (rdyO dd o).length) 0
/-- the first k of the schedule -/
def playN (dd : List (List Opr)) (ps : List Int) : Nat → List Nat
  | 0 => []
  | k + 1 => playN dd ps k ++ [nextO dd ps (playN dd ps k)]
/-- the values and the outcomes behind them -/
def plS (dd : List (List Opr)) (ps : List Int) (v : VF) : Nat → VF × List Bool
  | 0 => (v, List.replicate dd.length false)
  | k + 1 => ((doneV (plS dd ps v k).1 (dd.getD (nextO dd ps (playN dd ps k)) [])).1, (plS dd ps v k).2.set (nextO dd ps (playN dd ps k)) (doneV (plS dd ps v k).1 (dd.getD (nextO dd ps (playN dd ps k)) [])).2)
section
variable {dd : List (List Opr)} {ps : List Int}
theorem playN_len (dd : List (List Opr)) (ps : List Int) (k : Nat) : (playN dd ps k).length = k := by
  induction k with
  | zero => rfl
  | succ k ih => simp [playN, ih]
theorem next_mem {o : List Nat} (h : 1 ≤ (rdyO dd o).length) : nextO dd ps o ∈ rdyO dd o := by
  have hl := chV_lt ps o.length h
  unfold nextO
  rw [List.getD_eq_getElem?_getD, List.getElem?_eq_getElem hl]
  exact List.getElem_mem hl
/-- what stands of the first k -/
structure Pl (dd : List (List Opr)) (ps : List Int) (k : Nat) : Prop where
  nodup : (playN dd ps k).Nodup
  lt : ∀ x ∈ playN dd ps k, x < dd.length
  ord : (playN dd ps k).Pairwise fun s x => x < s → clB (dd.getD x []) (dd.getD s []) = false
  past : ∀ j (hj : j < k) x, x ∉ playN dd ps k → x < (playN dd ps k)[j]'(by rw [playN_len]; exact hj) → clB (dd.getD x []) (dd.getD ((playN dd ps k)[j]'(by rw [playN_len]; exact hj)) []) = false
theorem Pl.room {k : Nat} (h : Pl dd ps k) (hk : k < dd.length) : 1 ≤ (rdyO dd (playN dd ps k)).length := by
  refine Classical.byContradiction fun hn => ?_
  have hall : ∀ i, i < dd.length → i ∈ playN dd ps k := fun i hi => Classical.byContradiction fun hm => hn (rdyO_some hi hm)
  have := (List.nodup_range (n := dd.length)).length_le_of_subset (l₂ := playN dd ps k) fun i hi => hall i (List.mem_range.1 hi)
  rw [List.length_range, playN_len] at this
  omega
theorem Pl.step {k : Nat} (h : Pl dd ps k) (hk : k < dd.length) : Pl dd ps (k + 1) := by
  obtain ⟨h1, h2, h3⟩ := rdyO_mem.1 (next_mem (ps := ps) (h.room hk))
  refine ⟨?_, fun x hx => ?_, ?_, ?_⟩
  · show (playN dd ps k ++ [_]).Nodup
    rw [List.nodup_append]
    exact ⟨h.nodup, by simp, fun a ha b hb e => by rw [List.mem_singleton.1 hb] at e; subst e; exact h2 ha⟩
  · rcases List.mem_append.1 hx with hx | hx
    · exact h.lt x hx
    · rw [List.mem_singleton.1 hx]; exact h1
  · show (playN dd ps k ++ [_]).Pairwise _
    rw [List.pairwise_append]
    refine ⟨h.ord, by simp, fun s hs x hx hlt => ?_⟩
    have hx := List.mem_singleton.1 hx
    subst hx
    -- s was taken while the later one still stood: it waited for nobody
    obtain ⟨j, hj, e⟩ := List.getElem_of_mem hs
    subst e
    exact h.past j (by rw [playN_len] at hj; exact hj) _ h2 hlt
  · intro j hj x hx hlt
    have hx' : x ∉ playN dd ps k := fun e => hx (List.mem_append_left _ e)
    by_cases e : j < k
    · have he : (playN dd ps (k + 1))[j]'(by rw [playN_len]; exact hj) = (playN dd ps k)[j]'(by rw [playN_len]; exact e) := List.getElem_append_left (by rw [playN_len]; exact e)
      rw [he] at hlt ⊢
      exact h.past j e x hx' hlt
    · have he : (playN dd ps (k + 1))[j]'(by rw [playN_len]; exact hj) = nextO dd ps (playN dd ps k) := by
        have : j = k := by omega
        subst this
        have h' : (playN dd ps (j + 1))[j]? = some (nextO dd ps (playN dd ps j)) := by
          simp only [playN]; rw [List.getElem?_append_right (by rw [playN_len]; exact Nat.le_refl _), playN_len]; simp
        exact (List.getElem?_eq_some_iff.1 h').2
      rw [he] at hlt ⊢
      exact h3 x hlt hx'
theorem pl_all (dd : List (List Opr)) (ps : List Int) (k : Nat) (hk : k ≤ dd.length) : Pl dd ps k := by
  induction k with
  | zero => exact ⟨List.nodup_nil, by simp [playN], List.Pairwise.nil, fun j hj => by omega⟩
  | succ k ih => exact (ih (by omega)).step (by omega)
/-- the whole schedule keeps the order of conflicts -/
theorem play_kept (dd : List (List Opr)) (ps : List Int) : Kept dd dd.length (playN dd ps dd.length) := by
  have h := pl_all dd ps dd.length (Nat.le_refl _)
  refine ⟨h.nodup, fun x => ⟨h.lt x, fun hx => Classical.byContradiction fun hm => ?_⟩, h.ord⟩
  have h2 := (List.nodup_cons.2 ⟨hm, h.nodup⟩).length_le_of_subset (l₂ := List.range dd.length) fun y hy => by
    rcases List.mem_cons.1 hy with rfl | hy
    · exact List.mem_range.2 hx
    · exact List.mem_range.2 (h.lt y hy)
  rw [List.length_cons, List.length_range, playN_len] at h2
  omega
theorem play_done (dd : List (List Opr)) (ps : List Int) : rdyO dd (playN dd ps dd.length) = [] := by
  apply List.eq_nil_iff_forall_not_mem.2
  intro i hi
  obtain ⟨h1, h2, _⟩ := rdyO_mem.1 hi
  exact h2 (((play_kept dd ps).mem i).2 h1)
theorem plS_len (v : VF) (k : Nat) : (plS dd ps v k).2.length = dd.length := by
  induction k with
  | zero => simp [plS]
  | succ k ih => simp only [plS, List.length_set, ih]
theorem plS_ex (v : VF) (k : Nat) : (plS dd ps v k).1 = exO dd v (playN dd ps k) := by
  induction k with
  | zero => rfl
  | succ k ih => simp only [plS, playN, exO_append, ih]; rfl
theorem plS_out (v : VF) (k : Nat) (hk : k ≤ dd.length) : ∀ i b, i ∈ playN dd ps k → (plS dd ps v k).2[i]? = some b → (i, b) ∈ outO dd v (playN dd ps k) := by
  induction k with
  | zero => intro i b hi; simp [playN] at hi
  | succ k ih =>
    intro i b hi hb
    have hp := pl_all dd ps k (by omega)
    obtain ⟨h1, h2, _⟩ := rdyO_mem.1 (next_mem (ps := ps) (hp.room (by omega)))
    simp only [playN] at hi ⊢
    rw [outO_append, List.mem_append]
    simp only [plS] at hb
    rw [List.getElem?_set] at hb
    by_cases e : nextO dd ps (playN dd ps k) = i
    · rw [if_pos e, if_pos (by rw [plS_len]; exact h1)] at hb
      injection hb with hb
      subst e
      refine .inr ?_
      rw [← hb, plS_ex]
      exact List.mem_singleton.2 rfl
    · rw [if_neg e] at hb
      refine .inl (ih (by omega) i b ?_ hb)
      rcases List.mem_append.1 hi with hi | hi
      · exact hi
      · exact absurd (List.mem_singleton.1 hi).symm e
/-- the schedule makes what serial execution makes -/
theorem play_serial (hd : ∀ d ∈ dd, chkD d = 0) (v : VF) : plS dd ps v dd.length = serV v dd := by
  have hk := play_kept dd ps
  obtain ⟨h1, h2⟩ := kept_same hd dd.length (Nat.le_refl _) _ hk v
  have s3 := (serV_atD (dd := dd) v (List.range dd.length)).1
  rw [atD_range] at s3
  refine Prod.ext (by rw [plS_ex, h1, s3]) (List.ext_getElem? fun i => ?_)
  by_cases hi : i < dd.length
  · have hl : i < (plS dd ps v dd.length).2.length := by rw [plS_len]; exact hi
    rw [List.getElem?_eq_getElem hl]
    have hm := plS_out (dd := dd) (ps := ps) v dd.length (Nat.le_refl _) i _ ((hk.mem i).2 hi) (List.getElem?_eq_getElem hl)
    exact (mem_out.1 ((h2 _).1 hm)).symm
  · rw [List.getElem?_eq_none (by rw [plS_len]; omega), List.getElem?_eq_none (by rw [serV_len]; omega)]
end
end Go.Proofs.YtefdipjhjgmokaaGreat
