/-
  Merging in two orders, plainly (no program in it).
  A number within bounds, plainly (no program in it).
  What rokeep.Map makes, plainly (no program in it).
  rokeep.Within.
-/
import Derived.Test.YtcjfkbponikadaaBq5
import Derived.WalkKit
import Derived.WalkSpells
import Derived.Test.YtcjfkbponikadaaBq1
import Derived.Test.YtcjfkbponikadaaProg
import Derived.WalkLawsBesides
set_option linter.unusedVariables false
set_option linter.unusedSimpArgs false
namespace Go.Proofs.Ytcjfkbponikadaa

section
variable {α : Type}
/-- what comes to one input: an entry, or it is closed -/
def stI (b : List (List α)) : Option α → List (List α)
  | some x => b.modify (b.length - 1) (· ++ [x])
  | none => b ++ [[]]
/-- what comes to a Merge -/
def stM (ins : List (List (List α))) (a : Nat × Option α) : List (List (List α)) := ins.modify a.1 fun b => stI b a.2
theorem stM_add (ins : List (List (List α))) (i : Nat) (x : α) : stM ins (i, some x) = addM ins i x := rfl
theorem stM_close (ins : List (List (List α))) (i : Nat) : stM ins (i, none) = closeM ins i := rfl
def runM (ins : List (List (List α))) (as_ : List (Nat × Option α)) : List (List (List α)) := as_.foldl stM ins
theorem runM_snoc (ins : List (List (List α))) (l : List (Nat × Option α)) (a : Nat × Option α) : runM ins (l ++ [a]) = stM (runM ins l) a := by simp [runM]
theorem stM_at (ins : List (List (List α))) (a : Nat × Option α) (j : Nat) : (stM ins a)[j]? = if a.1 = j then ins[j]?.map (fun b => stI b a.2) else ins[j]? := by
  unfold stM
  rw [List.getElem?_modify]
  by_cases h : a.1 = j
  · simp [h]
  · simp [h]
theorem stM_len (ins : List (List (List α))) (a : Nat × Option α) : (stM ins a).length = ins.length := by simp [stM]
theorem runM_len (ins : List (List (List α))) (l : List (Nat × Option α)) : (runM ins l).length = ins.length := by
  induction l generalizing ins with
  | nil => rfl
  | cons a l ih => show (runM (stM ins a) l).length = _; rw [ih, stM_len]
/-- inputs above i have had all, input i has had a part, those below nothing -/
structure Mix (ins : List (List (List α))) (l p : List (Nat × Option α)) (i : Nat) (b : List (List (List α))) : Prop where
  len : b.length = ins.length
  hi : ∀ j, i < j → b[j]? = (runM ins l)[j]?
  at_ : b[i]? = (runM ins p)[i]?
  lo : ∀ j, j < i → b[j]? = ins[j]?
theorem Mix.other {ins : List (List (List α))} {l p : List (Nat × Option α)} {i : Nat} {b : List (List (List α))} (h : Mix ins l p i b) (a : Nat × Option α) (ha : a.1 ≠ i) : Mix ins l (p ++ [a]) i b :=
  ⟨h.len, h.hi, by rw [runM_snoc, stM_at, if_neg ha]; exact h.at_, h.lo⟩
theorem Mix.step {ins : List (List (List α))} {l p : List (Nat × Option α)} {i : Nat} {b : List (List (List α))} (h : Mix ins l p i b) (v : Option α) : Mix ins l (p ++ [(i, v)]) i (stM b (i, v)) :=
  ⟨by rw [stM_len]; exact h.len, fun j hj => by rw [stM_at, if_neg (by simp only; omega)]; exact h.hi j hj, by rw [runM_snoc, stM_at, stM_at, if_pos rfl, if_pos rfl, h.at_], fun j hj => by rw [stM_at, if_neg (by simp only; omega)]; exact h.lo j hj⟩
theorem Mix.down {ins : List (List (List α))} {l : List (Nat × Option α)} {i : Nat} {b : List (List (List α))} (h : Mix ins l l (i + 1) b) : Mix ins l [] i b :=
  ⟨h.len, fun j hj => by
    rcases Nat.lt_or_ge (i + 1) j with h1 | h1
    · exact h.hi j h1
    · have : j = i + 1 := by omega
      subst this; exact h.at_, h.lo i (by omega), fun j hj => h.lo j (by omega)⟩
theorem Mix.first {ins : List (List (List α))} {l : List (Nat × Option α)} {i : Nat} (hi : ins.length ≤ i + 1) : Mix ins l [] i ins :=
  ⟨rfl, fun j hj => by rw [List.getElem?_eq_none (by omega), List.getElem?_eq_none (by rw [runM_len]; omega)], rfl, fun _ _ => rfl⟩
theorem Mix.last {ins : List (List (List α))} {l : List (Nat × Option α)} {b : List (List (List α))} (h : Mix ins l l 0 b) : b = runM ins l :=
  List.ext_getElem? fun j => by
    rcases Nat.eq_zero_or_pos j with rfl | hj
    · exact h.at_
    · exact h.hi j hj
/-- once those that are waited for have closed there is one round more: while the first k of them have -/
theorem clo_len (ins : List (List (List α))) : (cloL ins).length = ins.length := by simp [cloL]
theorem wait_mem {ins : List (List (List α))} {i : Nat} : i ∈ waitM ins ↔ ∃ b, ins[i]? = some b ∧ b.length - 1 = rndM ins := by
  unfold waitM cloL
  rw [List.mem_filter, List.mem_range, decide_eq_true_iff, List.getElem?_map]
  constructor
  · rintro ⟨h1, h2⟩
    cases e : ins[i]? with
    | none => rw [e] at h2; cases h2
    | some b => rw [e] at h2; exact ⟨b, rfl, by injection h2⟩
  · rintro ⟨b, h1, h2⟩
    exact ⟨(List.getElem?_eq_some_iff.1 h1).1, by rw [h1]; simp [h2]⟩
theorem wait_ne {ins : List (List (List α))} (hne : ins ≠ []) (h : ∀ b ∈ ins, b.length - 1 ≤ 60) : waitM ins ≠ [] := fun e => by
  obtain ⟨b, hb, hr⟩ := rnd_hit ins hne h
  obtain ⟨i, hi⟩ := List.mem_iff_getElem?.1 hb
  have : i ∈ waitM ins := wait_mem.2 ⟨b, hi, hr.symm⟩
  rw [e] at this; simp at this
theorem wait_nodup (ins : List (List (List α))) : (waitM ins).Nodup := List.Pairwise.filter _ List.nodup_range
/-- the first of the inputs that are waited for have closed -/
def closeAll (ins : List (List (List α))) (l : List Nat) : List (List (List α)) := l.foldl closeM ins
theorem closeM_at (ins : List (List (List α))) (i j : Nat) : (closeM ins i)[j]? = if i = j then ins[j]?.map (· ++ [[]]) else ins[j]? := by
  have := stM_at ins (i, none) j
  rw [stM_close] at this
  exact this
theorem closeAll_at (l : List Nat) : ∀ (ins : List (List (List α))), l.Nodup → ∀ j, (closeAll ins l)[j]? = if j ∈ l then ins[j]?.map (· ++ [[]]) else ins[j]? := by
  induction l with
  | nil => intro ins _ j; simp [closeAll]
  | cons i l ih =>
    intro ins hn j
    have h := ih (closeM ins i) (List.nodup_cons.1 hn).2 j
    have hi := (List.nodup_cons.1 hn).1
    show (closeAll (closeM ins i) l)[j]? = _
    rw [h, closeM_at]
    by_cases hj : j ∈ l
    · have hne : ¬ i = j := fun e => hi (e ▸ hj)
      simp [hj, hne]
    · by_cases he : i = j
      · subst he; simp [hj]
      · have : ¬ j = i := fun e => he e.symm
        simp [hj, he, this]
theorem closeAll_len (l : List Nat) (ins : List (List (List α))) : (closeAll ins l).length = ins.length := by
  induction l generalizing ins with
  | nil => rfl
  | cons i l ih => show (closeAll (closeM ins i) l).length = _; rw [ih]; simp [closeM]
/-- until the last one has closed the rounds are as many as before -/
theorem closeAll_rnd {ins : List (List (List α))} {l : List Nat} {i : Nat} (hl : l.Nodup) (hi : i ∉ l) (hw : i ∈ waitM ins) : rndM (closeAll ins l) = rndM ins := by
  refine Nat.le_antisymm ?_ (rnd_ge _ (rnd_60 _) fun b hb => ?_)
  · obtain ⟨b, h1, h2⟩ := wait_mem.1 hw
    have h3 := closeAll_at l ins hl i
    rw [if_neg hi, h1] at h3
    have := rnd_le _ (List.mem_of_getElem? h3)
    omega
  · obtain ⟨j, hj⟩ := List.mem_iff_getElem?.1 hb
    rw [closeAll_at l ins hl j] at hj
    split at hj
    · cases e : ins[j]? with
      | none => rw [e] at hj; cases hj
      | some c =>
        rw [e] at hj
        have hc := rnd_le _ (List.mem_of_getElem? e)
        simp at hj; subst hj; simp; omega
    · exact rnd_le _ (List.mem_of_getElem? hj)
theorem closeAll_end {ins : List (List (List α))} (hne : ins ≠ []) (hb : ∀ b ∈ ins, b ≠ []) (h : ∀ b ∈ ins, b.length - 1 ≤ 59) : rndM (closeAll ins (waitM ins)) = rndM ins + 1 := by
  obtain ⟨b0, hb0, hr0⟩ := rnd_hit ins hne (fun b hb => by have := h b hb; omega)
  have h59 := h b0 hb0
  refine Nat.le_antisymm ?_ (rnd_ge _ (by omega) fun b hb2 => ?_)
  · obtain ⟨i, hi⟩ := List.mem_iff_getElem?.1 hb0
    have h3 := closeAll_at (waitM ins) ins (wait_nodup ins) i
    rw [if_pos (wait_mem.2 ⟨b0, hi, hr0.symm⟩), hi] at h3
    have := rnd_le _ (List.mem_of_getElem? h3)
    have hp := List.length_pos_iff.2 (hb b0 hb0)
    simp at this; omega
  · obtain ⟨j, hj⟩ := List.mem_iff_getElem?.1 hb2
    rw [closeAll_at _ ins (wait_nodup ins) j] at hj
    split at hj
    · cases e : ins[j]? with
      | none => rw [e] at hj; cases hj
      | some c =>
        rw [e] at hj
        have hc := rnd_le _ (List.mem_of_getElem? e)
        have hp := List.length_pos_iff.2 (hb c (List.mem_of_getElem? e))
        simp at hj; subst hj; simp; omega
    · next hn =>
      have hc := rnd_le _ (List.mem_of_getElem? hj)
      have : ¬ b.length - 1 = rndM ins := fun e => hn (wait_mem.2 ⟨b, hj, e⟩)
      omega
end
end Go.Proofs.Ytcjfkbponikadaa

set_option linter.unusedVariables false
set_option linter.unusedSimpArgs false
namespace Go.Proofs.Ytcjfkbponikadaa
open Go.RowKit

/-- what Within answers -/
def wi (k : Int) (n : Nat) : Nat := ((IntKind.u64.wrap k).tmod n).toNat
theorem wrap_u64_nonneg (k : Int) : 0 ≤ IntKind.u64.wrap k := by simp [IntKind.wrap_u64]; omega
theorem wi_lt (k : Int) (n : Nat) (h : 1 ≤ n) : wi k n < n := by
  have h0 := wrap_u64_nonneg k
  unfold wi
  have := Int.tmod_lt_of_pos (IntKind.u64.wrap k) (show (0 : Int) < n by omega)
  omega
theorem wi_eq (k : Int) (n : Nat) (h : 1 ≤ n) (h2 : n ≤ 1000000) : wrap64 ((IntKind.u64.wrap k).tmod (n : Int)) = (wi k n : Int) := by
  have h0 := wrap_u64_nonneg k
  have h1 := Int.tmod_lt_of_pos (IntKind.u64.wrap k) (show (0 : Int) < n by omega)
  have h3 := Int.tmod_nonneg (n : Int) h0
  unfold wi wrap64
  omega
end Go.Proofs.Ytcjfkbponikadaa

set_option linter.unusedVariables false
set_option linter.unusedSimpArgs false
namespace Go.Proofs.Ytcjfkbponikadaa

def cutsL : List ByteArray := [⟨#[97]⟩, ⟨#[98]⟩, ⟨#[98, 98]⟩, ⟨#[100]⟩, ⟨#[109]⟩, ⟨#[112]⟩]
theorem cutsL_ok : cutsB ByteArray.empty cutsL = true := by decide +kernel
/-- the i-th cut is taken -/
def mpT (zs : List Int) (i : Nat) : Bool := decide (i < zs.length) && decide (0 < wi (zs.getD i 0) 3)
/-- the map of the first i cuts -/
def mapR (zs : List Int) : Nat → List ByteArray × List Nat
  | 0 => ([], [0])
  | i + 1 => if mpT zs i = true then ((mapR zs i).1 ++ [cutsL.getD i ByteArray.empty], (mapR zs i).2 ++ [wi ((zs.getD i 0).tdiv 3) 4]) else mapR zs i
theorem mapR_len (zs : List Int) (i : Nat) : (mapR zs i).2.length = (mapR zs i).1.length + 1 := by
  induction i with
  | zero => rfl
  | succ i ih => simp only [mapR]; split <;> simp [ih]
theorem mapR_few (zs : List Int) (i : Nat) : (mapR zs i).1.length ≤ i := by
  induction i with
  | zero => simp [mapR]
  | succ i ih =>
    simp only [mapR]
    split
    · rw [List.length_append, List.length_singleton]; omega
    · omega
theorem mapR_sub (zs : List Int) {i : Nat} (hi : i ≤ 6) : (mapR zs i).1.Sublist (cutsL.take i) := by
  induction i with
  | zero => simp [mapR]
  | succ i ih =>
    have hl : i < cutsL.length := by simp [cutsL]; omega
    have e : cutsL.take (i + 1) = cutsL.take i ++ [cutsL.getD i ByteArray.empty] := by
      rw [List.take_succ_eq_append_getElem hl]; simp [List.getD_eq_getElem?_getD, hl]
    rw [e]
    simp only [mapR]
    split
    · exact (ih (by omega)).append (List.Sublist.refl _)
    · exact (ih (by omega)).trans (List.sublist_append_left _ _)
theorem mapR_own (zs : List Int) (i : Nat) : ∀ n ∈ (mapR zs i).2, n ≤ 3 := by
  induction i with
  | zero => intro n hn; simp [mapR] at hn; omega
  | succ i ih =>
    simp only [mapR]
    split
    · intro n hn
      rcases List.mem_append.1 hn with hn | hn
      · exact ih n hn
      · rw [List.mem_singleton.1 hn]
        have := wi_lt ((zs.getD i 0).tdiv 3) 4 (by decide)
        omega
    · exact ih
theorem mapR_ok (zs : List Int) : OkM (mapR zs 6).1 ((mapR zs 6).2.map fun (k : Nat) => (k : Int)) := by
  have hs := mapR_sub zs (i := 6) (by decide)
  obtain ⟨h1, h2⟩ := cutsB_iff.1 cutsL_ok
  have ht : cutsL.take 6 = cutsL := rfl
  rw [ht] at hs
  refine ⟨by have := mapR_few zs 6; omega, by rw [List.length_map, mapR_len], cutsB_iff.2 ⟨fun k hk => h1 k (hs.subset hk), h2.sublist hs⟩, fun n hn => ?_⟩
  obtain ⟨k, hk, rfl⟩ := List.mem_map.1 hn
  have := mapR_own zs 6 k hk
  omega
end Go.Proofs.Ytcjfkbponikadaa

set_option linter.unusedVariables false
set_option linter.unusedSimpArgs false
namespace Go.Proofs.Ytcjfkbponikadaa
open Go.RowKit

set_option maxHeartbeats 400000 in
theorem within_any (k : Int) (n : Nat) (h1 : 1 ≤ n) (h2 : n ≤ 1000000) (w : World) :
    Calls Try.prog 6 #[.int .i64 k, .int .i64 n] w fun e w' => e = .returned (.int .i64 (wi k n)) ∧ w = w' := by
  go_enter Try.func6, Try.ntmps6
  go_wp2
  go_ret
  exact ⟨ret_int (wi_eq k n h1 h2), rfl⟩
end Go.Proofs.Ytcjfkbponikadaa
