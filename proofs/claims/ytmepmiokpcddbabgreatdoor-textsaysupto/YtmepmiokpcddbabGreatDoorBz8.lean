/-
  The byte order of keys, and lists of pairs that are sorted by it (no program in it).
  Partition maps, plainly (no program in it).
-/
import Derived.Test.YtmepmiokpcddbabGreatDoorBz2
import Derived.Lib.Bytealg
set_option linter.unusedVariables false
set_option linter.unusedSimpArgs false
namespace Go.Proofs.YtmepmiokpcddbabGreatDoor
open Go.RowKit

theorem bLess : ∀ (x y : List UInt8), Op.bytesLess x y = decide (x < y)
  | [], [] => by simp [Op.bytesLess]
  | _ :: _, [] => by simp [Op.bytesLess]
  | [], _ :: _ => by simp [Op.bytesLess]
  | a :: x, b :: y => by
    rw [Op.bytesLess, bLess x y]
    simp only [List.cons_lt_cons_iff]
    by_cases h1 : a < b <;> by_cases h2 : a = b <;> by_cases h3 : x < y <;> simp [h1, h2, h3]

/-- bytes of a key -/
abbrev by8 (a : ByteArray) : List UInt8 := a.data.toList
theorem by8_inj {a b : ByteArray} (h : by8 a = by8 b) : a = b := by
  cases a; cases b; simp [by8, Array.toList_inj] at h; simp [h]
theorem ltB_iff {a b : ByteArray} : ltB a b = true ↔ by8 a < by8 b := by unfold ltB; rw [bLess, ByteArray.toList_eq, ByteArray.toList_eq]; simp
theorem ltB_no {a b : ByteArray} : ltB a b = false ↔ ¬ by8 a < by8 b := by rw [← ltB_iff]; simp
theorem ltB_irrefl (a : ByteArray) : ltB a a = false := by rw [ltB_no]; exact List.lt_irrefl _
theorem ltB_trans {a b c : ByteArray} (h : ltB a b = true) (k : ltB b c = true) : ltB a c = true := by
  rw [ltB_iff] at *; exact List.lt_trans h k
theorem ltB_asymm {a b : ByteArray} (h : ltB a b = true) : ltB b a = false := by
  rw [ltB_iff] at h; rw [ltB_no]; exact List.lt_asymm h
theorem ltB_ne {a b : ByteArray} (h : ltB a b = true) : a ≠ b := fun e => by rw [e, ltB_irrefl] at h; cases h
theorem ltB_total {a b : ByteArray} (h : ltB a b = false) (k : ltB b a = false) : a = b := by
  rw [ltB_no] at *
  exact by8_inj (List.le_antisymm (List.not_lt.1 k) (List.not_lt.1 h))
theorem leB_iff {a b : ByteArray} : leB a b = true ↔ ltB b a = false := by
  unfold leB; rw [ByteArray.toList_eq, ByteArray.toList_eq, bLess]
  constructor
  · intro h
    simp only [Bool.or_eq_true, decide_eq_true_eq, beq_iff_eq] at h
    rcases h with h | h
    · exact ltB_asymm (ltB_iff.2 h)
    · rw [by8_inj h]; exact ltB_irrefl _
  · intro h
    cases k : ltB a b
    · have := ltB_total k h; subst this; simp
    · rw [ltB_iff] at k; simp [k]
theorem leB_no {a b : ByteArray} : leB a b = false ↔ ltB b a = true := by
  have := @leB_iff a b
  cases h : leB a b <;> cases k : ltB b a <;> simp_all

theorem cmp_neg : ∀ (x y : List UInt8), Lib.compareBytes x y < 0 ↔ x < y
  | [], [] => by simp [Lib.compareBytes]
  | _ :: _, [] => by simp [Lib.compareBytes]
  | [], _ :: _ => by simp [Lib.compareBytes]
  | a :: x, b :: y => by
    simp only [Lib.compareBytes, List.cons_lt_cons_iff]
    by_cases h1 : a < b
    · simp [h1]
    · by_cases h2 : b < a
      · have : a ≠ b := fun e => by subst e; exact h1 h2
        simp [h1, h2, this]
      · have : a = b := UInt8.le_antisymm (UInt8.not_lt.1 h2) (UInt8.not_lt.1 h1)
        subst this
        simp [cmp_neg x y]
theorem cmp_zero : ∀ (x y : List UInt8), Lib.compareBytes x y = 0 ↔ x = y
  | [], [] => by simp [Lib.compareBytes]
  | _ :: _, [] => by simp [Lib.compareBytes]
  | [], _ :: _ => by simp [Lib.compareBytes]
  | a :: x, b :: y => by
    simp only [Lib.compareBytes, List.cons.injEq]
    by_cases h1 : a < b
    · have : a ≠ b := fun e => by subst e; exact UInt8.lt_irrefl a h1
      simp [h1, this]
    · by_cases h2 : b < a
      · have : a ≠ b := fun e => by subst e; exact h1 h2
        simp [h1, h2, this]
      · have : a = b := UInt8.le_antisymm (UInt8.not_lt.1 h2) (UInt8.not_lt.1 h1)
        subst this
        simp [cmp_zero x y]

/-- what strings.Compare answers -/
def cmpB (a b : ByteArray) : Int := Lib.compareBytes a.data.toList b.data.toList
theorem cmpB_neg {a b : ByteArray} : cmpB a b < 0 ↔ ltB a b = true := by rw [ltB_iff]; exact cmp_neg _ _
theorem cmpB_zero {a b : ByteArray} : cmpB a b = 0 ↔ a = b := ⟨fun h => by8_inj ((cmp_zero _ _).1 h), fun h => by subst h; exact (cmp_zero _ _).2 rfl⟩

/-- i is the place of a key in a list: what lies ahead is less, what lies behind isn't -/
structure At (l : List Pr) (key : ByteArray) (i : Nat) : Prop where
  le : i ≤ l.length
  lo : ∀ j (h : j < l.length), j < i → ltB (l[j]).1 key = true
  hi : ∀ j (h : j < l.length), i ≤ j → ltB (l[j]).1 key = false
/-- is it there? -/
def fnd (l : List Pr) (key : ByteArray) (i : Nat) : Bool := match l[i]? with
  | some p => cmpB p.1 key == 0
  | none => false
end Go.Proofs.YtmepmiokpcddbabGreatDoor

set_option linter.unusedVariables false
set_option linter.unusedSimpArgs false
namespace Go.Proofs.YtmepmiokpcddbabGreatDoor

/-- valid cuts, each greater than the one before -/
def cutsB (last : ByteArray) : List ByteArray → Bool
  | [] => true
  | k :: r => keyB k && ltB last k && cutsB k r
/-- a valid owner -/
def ownB (n : Int) : Bool := decide (0 ≤ n) && decide (n ≤ 3)
theorem ownB_iff {n : Int} : ownB n = true ↔ 0 ≤ n ∧ n ≤ 3 := by simp [ownB]
/-- the error of a map -/
def chkM (cs : List ByteArray) (os : List Int) : Int :=
  if 12 < cs.length then 2 else if os.length ≠ cs.length + 1 then 3 else if cutsB ByteArray.empty cs = false then 3 else if os.all ownB = false then 1 else 0
/-- a valid map -/
structure OkM (cs : List ByteArray) (os : List Int) : Prop where
  few : cs.length ≤ 12
  len : os.length = cs.length + 1
  cuts : cutsB ByteArray.empty cs = true
  own : ∀ n ∈ os, 0 ≤ n ∧ n ≤ 3
theorem chkM_ok {cs : List ByteArray} {os : List Int} : chkM cs os = 0 ↔ OkM cs os := by
  unfold chkM
  by_cases h1 : 12 < cs.length
  · rw [if_pos h1]; exact ⟨fun h => absurd h (by decide), fun h => by have := h.few; omega⟩
  rw [if_neg h1]
  by_cases h2 : os.length ≠ cs.length + 1
  · rw [if_pos h2]; exact ⟨fun h => absurd h (by decide), fun h => absurd h.len h2⟩
  rw [if_neg h2]
  by_cases h3 : cutsB ByteArray.empty cs = false
  · rw [if_pos h3]; exact ⟨fun h => absurd h (by decide), fun h => by rw [h.cuts] at h3; cases h3⟩
  rw [if_neg h3]
  by_cases h4 : os.all ownB = false
  · rw [if_pos h4]
    refine ⟨fun h => absurd h (by decide), fun h => ?_⟩
    rw [List.all_eq_true.2 fun n hn => ownB_iff.2 (h.own n hn)] at h4
    cases h4
  · rw [if_neg h4]
    refine ⟨fun _ => ⟨by omega, by omega, by simpa using h3, fun n hn => ?_⟩, fun _ => rfl⟩
    exact ownB_iff.1 (List.all_eq_true.1 (by simpa using h4) n hn)
theorem keyB_ne_empty {k : ByteArray} (h : keyB k = true) : ltB ByteArray.empty k = true := by
  rw [ltB_iff]
  have h1 : 1 ≤ k.size := by simp [keyB] at h; omega
  have h2 : (by8 k).length = k.size := by simp [by8]
  cases e : by8 k with
  | nil => rw [e] at h2; simp at h2; omega
  | cons x r => show ([] : List UInt8) < x :: r; exact List.nil_lt_cons _ _
theorem cutsB_iff {last : ByteArray} {cs : List ByteArray} : cutsB last cs = true ↔ (∀ k ∈ cs, keyB k = true ∧ ltB last k = true) ∧ cs.Pairwise (fun a b => ltB a b = true) := by
  induction cs generalizing last with
  | nil => simp [cutsB]
  | cons k r ih =>
    simp only [cutsB, Bool.and_eq_true, ih, List.pairwise_cons, List.mem_cons]
    constructor
    · rintro ⟨⟨h1, h2⟩, h3, h4⟩
      refine ⟨fun x hx => ?_, fun x hx => (h3 x hx).2, h4⟩
      rcases hx with rfl | hx
      · exact ⟨h1, h2⟩
      · exact ⟨(h3 x hx).1, ltB_trans h2 (h3 x hx).2⟩
    · rintro ⟨h1, h2, h3⟩
      exact ⟨⟨(h1 k (.inl rfl)).1, (h1 k (.inl rfl)).2⟩, fun x hx => ⟨(h1 x (.inr hx)).1, h2 x hx⟩, h3⟩
theorem cutsB_next {last : ByteArray} {cs : List ByteArray} {k : Nat} (h : k < cs.length) : cutsB last (cs.drop k) = (keyB cs[k] && ltB last cs[k] && cutsB cs[k] (cs.drop (k + 1))) := by
  rw [List.drop_eq_getElem_cons h]; rfl
/-- how many cuts lie at or below a key -/
def atC (cs : List ByteArray) (key : ByteArray) : Nat := (cs.takeWhile fun k => leB k key).length
theorem atC_le (cs : List ByteArray) (key : ByteArray) : atC cs key ≤ cs.length := (List.takeWhile_prefix _).length_le
theorem atC_below {cs : List ByteArray} {key : ByteArray} {i : Nat} (h : i < atC cs key) : ∃ hi : i < cs.length, leB cs[i] key = true := by
  have hl := atC_le cs key
  refine ⟨by omega, ?_⟩
  have h1 : (cs.takeWhile fun k => leB k key)[i]'h = cs[i] := List.IsPrefix.getElem (List.takeWhile_prefix _) h
  have h2 : (cs.takeWhile fun k => leB k key)[i]'h ∈ cs.takeWhile fun k => leB k key := List.getElem_mem h
  have h3 := List.all_takeWhile (p := fun k => leB k key) (l := cs)
  rw [List.all_eq_true] at h3
  rw [← h1]
  exact h3 _ h2
theorem atC_next {cs : List ByteArray} {key : ByteArray} (h : atC cs key < cs.length) : leB cs[atC cs key] key = false := by
  induction cs with
  | nil => simp at h
  | cons c r ih =>
    unfold atC at *
    cases hc : leB c key with
    | false => simp [List.takeWhile_cons, hc]
    | true =>
      have hr : (r.takeWhile fun k => leB k key).length < r.length := by simpa [List.takeWhile_cons, hc] using h
      have := ih hr
      simpa [List.takeWhile_cons, hc] using this
theorem leB_trans_ {a b c : ByteArray} (h : ltB a b = true) (k : leB b c = true) : leB a c = true := by
  rw [leB_iff] at *
  cases e : ltB c a with
  | false => rfl
  | true => rw [ltB_trans e h] at k; cases k
/-- in sorted cuts those at or below a key are the first ones -/
theorem atC_iff {cs : List ByteArray} (hs : cs.Pairwise (fun a b => ltB a b = true)) {key : ByteArray} {i : Nat} (hi : i < cs.length) : leB cs[i] key = true ↔ i < atC cs key := by
  constructor
  · intro h
    refine Nat.lt_of_not_le fun hle => ?_
    have ha : atC cs key < cs.length := by omega
    have h1 := atC_next ha
    rcases Nat.lt_or_eq_of_le hle with hlt | heq
    · have h2 := List.pairwise_iff_getElem.1 hs (atC cs key) i ha hi hlt
      rw [leB_trans_ h2 h] at h1
      cases h1
    · subst heq; rw [h] at h1; cases h1
  · intro h; exact (atC_below h).2
/-- whose a key is -/
def whV (cs : List ByteArray) (os : List Int) (key : ByteArray) : Int := os.getD (atC cs key) 0
end Go.Proofs.YtmepmiokpcddbabGreatDoor
