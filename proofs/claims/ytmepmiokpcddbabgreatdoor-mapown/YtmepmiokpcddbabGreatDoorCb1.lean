/-
  Plain facts about keys, values and stores as lists (no program in it).
  The byte order of keys, and lists of pairs that are sorted by it (no program in it).
  Partition maps, plainly (no program in it).
  Plain maps, plainly (no program in it).
-/
import Derived.WalkKit
import Derived.WalkSpells
import Derived.Lib.Bytealg
set_option linter.unusedVariables false
set_option linter.unusedSimpArgs false
namespace Go.Proofs.YtmepmiokpcddbabGreatDoor
open Go.RowKit

theorem hideP {p : Prop} (h : p) : Hid p := h
/-- a letter from a to z -/
def lowB (c : UInt8) : Bool := decide (97 ≤ (c.toNat : Int)) && decide ((c.toNat : Int) ≤ 122)
/-- a valid key -/
def keyB (s : ByteArray) : Bool := decide (1 ≤ s.size) && decide (s.size ≤ 6) && s.data.toList.all lowB
/-- a valid value -/
def valB (n : Int) : Bool := decide (-1000000000 ≤ n) && decide (n ≤ 1000000000)

theorem ret_int {k : IntKind} {a b : Int} (h : a = b) : Ending.returned (.int k a) = .returned (.int k b) := by rw [h]
theorem ret_bool {a b : Bool} (h : a = b) : Ending.returned (.bool a) = .returned (.bool b) := by rw [h]
theorem ret_ib {a b : Int} {x y : Bool} (h : a = b) (k : x = y) : Ending.returned (.tuple #[.int .i64 a, .bool x]) = .returned (.tuple #[.int .i64 b, .bool y]) := by rw [h, k]
theorem take_snoc (s : ByteArray) (k : Nat) (h : k < s.size) : s.data.toList.take (k + 1) = s.data.toList.take k ++ [s[k]] := by
  rw [List.take_succ_eq_append_getElem (by simpa using h)]; rfl
theorem cell_lt {w : World} {a : Addr} {v : Value} (h : w.cell? a = some v) : a.block < w.heap.size := by
  rcases Nat.lt_or_ge a.block w.heap.size with hl | hl
  · exact hl
  · simp [World.cell?, hl] at h
/-- byte order -/
def ltB (a b : ByteArray) : Bool := Op.bytesLess a.toList b.toList
def leB (a b : ByteArray) : Bool := Op.bytesLess a.toList b.toList || a.toList == b.toList
/-- a pair: a key and its value -/
abbrev Pr := ByteArray × Int
/-- what Check answers, from a preceding key on -/
def chk (before : ByteArray) : List Pr → Int
  | [] => 0
  | p :: r => if keyB p.1 = false then 3 else if valB p.2 = false then 1 else if p.2 = 0 then 1 else if leB p.1 before = true then 3 else chk p.1 r
/-- a slice's cells read as a list of pairs; they lie below block B -/
def PS (w : World) (B : Nat) (A : Option Addr) (l : List Pr) : Prop :=
  ∀ i p, l[i]? = some p → ∃ b o, A = some ⟨b, o, none⟩ ∧ b < B ∧ w.cell? ⟨b, o + i * 2, none⟩ = some (.string p.1) ∧ w.cell? ⟨b, o + i * 2 + 1, none⟩ = some (.int .i64 p.2)
theorem PS.below {w w' : World} {B : Nat} {A : Option Addr} {l : List Pr} (h : PS w B A l) (hb : Below B w w') : PS w' B A l := fun i p hp => by
  obtain ⟨b, o, e, hlt, h1, h2⟩ := h i p hp
  exact ⟨b, o, e, hlt, (hb.cell hlt).trans h1, (hb.cell hlt).trans h2⟩
theorem PS.more {w : World} {B B' : Nat} {A : Option Addr} {l : List Pr} (h : PS w B A l) (hB : B ≤ B') : PS w B' A l := fun i p hp => by
  obtain ⟨b, o, e, hlt, h1, h2⟩ := h i p hp
  exact ⟨b, o, e, by omega, h1, h2⟩
theorem PS.nil {w : World} {B : Nat} {A : Option Addr} : PS w B A [] := fun i p hp => by simp at hp
section
variable {bf : ByteArray} {l : List Pr} {k : Nat} {p : Pr} (h : k < l.length) (hp : l[k] = p)
include hp
theorem chk_key (h1 : keyB p.1 = false) : chk bf (l.drop k) = 3 := by rw [List.drop_eq_getElem_cons h, hp]; simp [chk, h1]
theorem chk_val (h1 : keyB p.1 = true) (h2 : valB p.2 = false) : chk bf (l.drop k) = 1 := by rw [List.drop_eq_getElem_cons h, hp]; simp [chk, h1, h2]
theorem chk_zero (h1 : keyB p.1 = true) (h2 : valB p.2 = true) (h3 : p.2 = 0) : chk bf (l.drop k) = 1 := by rw [List.drop_eq_getElem_cons h, hp]; simp [chk, h1, h2, h3]
theorem chk_ord (h1 : keyB p.1 = true) (h2 : valB p.2 = true) (h3 : ¬ p.2 = 0) (h4 : leB p.1 bf = true) : chk bf (l.drop k) = 3 := by rw [List.drop_eq_getElem_cons h, hp]; simp [chk, h1, h2, h3, h4]
theorem chk_next (h1 : keyB p.1 = true) (h2 : valB p.2 = true) (h3 : ¬ p.2 = 0) (h4 : leB p.1 bf = false) : chk bf (l.drop k) = chk p.1 (l.drop (k + 1)) := by rw [List.drop_eq_getElem_cons h, hp]; simp [chk, h1, h2, h3, h4]
end
theorem keyB_no {s : ByteArray} {x : UInt8} (hx : x ∈ s.data.toList) (h : lowB x = false) : keyB s = false := by
  have : s.data.toList.all lowB = false := by
    rw [List.all_eq_false]; exact ⟨x, hx, by simp [h]⟩
  simp [keyB, this]
end Go.Proofs.YtmepmiokpcddbabGreatDoor

set_option linter.unusedVariables false
set_option linter.unusedSimpArgs false
namespace Go.Proofs.YtmepmiokpcddbabGreatDoor
open Go.RowKit

theorem bLess : ∀ (x y : List UInt8), Op.bytesLess x y = decide (x < y)
  | [], [] => by simp [Op.bytesLess]
  | _ :: _, [] => by simp [Op.bytesLess]
  | [], _ :: _ => by simp [Op.bytesLess]
  | a :: x, b :: y => by
    rw [Op.bytesLess, bLess x y]
    simp only [List.cons_lt_cons_iff]
    by_cases h1 : a < b <;> by_cases h2 : a = b <;> by_cases h3 : x < y <;> simp [h1, h2, h3]

/-- bytes of a key -/
abbrev by8 (a : ByteArray) : List UInt8 := a.data.toList
theorem by8_inj {a b : ByteArray} (h : by8 a = by8 b) : a = b := by
  cases a; cases b; simp [by8, Array.toList_inj] at h; simp [h]
theorem ltB_iff {a b : ByteArray} : ltB a b = true ↔ by8 a < by8 b := by unfold ltB; rw [bLess, ByteArray.toList_eq, ByteArray.toList_eq]; simp
theorem ltB_no {a b : ByteArray} : ltB a b = false ↔ ¬ by8 a < by8 b := by rw [← ltB_iff]; simp
theorem ltB_irrefl (a : ByteArray) : ltB a a = false := by rw [ltB_no]; exact List.lt_irrefl _
theorem ltB_trans {a b c : ByteArray} (h : ltB a b = true) (k : ltB b c = true) : ltB a c = true := by
  rw [ltB_iff] at *; exact List.lt_trans h k
theorem ltB_asymm {a b : ByteArray} (h : ltB a b = true) : ltB b a = false := by
  rw [ltB_iff] at h; rw [ltB_no]; exact List.lt_asymm h
theorem ltB_ne {a b : ByteArray} (h : ltB a b = true) : a ≠ b := fun e => by rw [e, ltB_irrefl] at h; cases h
theorem ltB_total {a b : ByteArray} (h : ltB a b = false) (k : ltB b a = false) : a = b := by
  rw [ltB_no] at *
  exact by8_inj (List.le_antisymm (List.not_lt.1 k) (List.not_lt.1 h))
theorem leB_iff {a b : ByteArray} : leB a b = true ↔ ltB b a = false := by
  unfold leB; rw [ByteArray.toList_eq, ByteArray.toList_eq, bLess]
  constructor
  · intro h
    simp only [Bool.or_eq_true, decide_eq_true_eq, beq_iff_eq] at h
    rcases h with h | h
    · exact ltB_asymm (ltB_iff.2 h)
    · rw [by8_inj h]; exact ltB_irrefl _
  · intro h
    cases k : ltB a b
    · have := ltB_total k h; subst this; simp
    · rw [ltB_iff] at k; simp [k]
theorem leB_no {a b : ByteArray} : leB a b = false ↔ ltB b a = true := by
  have := @leB_iff a b
  cases h : leB a b <;> cases k : ltB b a <;> simp_all

theorem cmp_neg : ∀ (x y : List UInt8), Lib.compareBytes x y < 0 ↔ x < y
  | [], [] => by simp [Lib.compareBytes]
  | _ :: _, [] => by simp [Lib.compareBytes]
  | [], _ :: _ => by simp [Lib.compareBytes]
  | a :: x, b :: y => by
    simp only [Lib.compareBytes, List.cons_lt_cons_iff]
    by_cases h1 : a < b
    · simp [h1]
    · by_cases h2 : b < a
      · have : a ≠ b := fun e => by subst e; exact h1 h2
        simp [h1, h2, this]
      · have : a = b := UInt8.le_antisymm (UInt8.not_lt.1 h2) (UInt8.not_lt.1 h1)
        subst this
        simp [cmp_neg x y]
theorem cmp_zero : ∀ (x y : List UInt8), Lib.compareBytes x y = 0 ↔ x = y
  | [], [] => by simp [Lib.compareBytes]
  | _ :: _, [] => by simp [Lib.compareBytes]
  | [], _ :: _ => by simp [Lib.compareBytes]
  | a :: x, b :: y => by
    simp only [Lib.compareBytes, List.cons.injEq]
    by_cases h1 : a < b
    · have : a ≠ b := fun e => by subst e; exact UInt8.lt_irrefl a h1
      simp [h1, this]
    · by_cases h2 : b < a
      · have : a ≠ b := fun e => by subst e; exact h1 h2
        simp [h1, h2, this]
      · have : a = b := UInt8.le_antisymm (UInt8.not_lt.1 h2) (UInt8.not_lt.1 h1)
        subst this
        simp [cmp_zero x y]

/-- what strings.Compare answers -/
def cmpB (a b : ByteArray) : Int := Lib.compareBytes a.data.toList b.data.toList
theorem cmpB_neg {a b : ByteArray} : cmpB a b < 0 ↔ ltB a b = true := by rw [ltB_iff]; exact cmp_neg _ _
theorem cmpB_zero {a b : ByteArray} : cmpB a b = 0 ↔ a = b := ⟨fun h => by8_inj ((cmp_zero _ _).1 h), fun h => by subst h; exact (cmp_zero _ _).2 rfl⟩

/-- i is the place of a key in a list: what lies ahead is less, what lies behind isn't -/
structure At (l : List Pr) (key : ByteArray) (i : Nat) : Prop where
  le : i ≤ l.length
  lo : ∀ j (h : j < l.length), j < i → ltB (l[j]).1 key = true
  hi : ∀ j (h : j < l.length), i ≤ j → ltB (l[j]).1 key = false
/-- is it there? -/
def fnd (l : List Pr) (key : ByteArray) (i : Nat) : Bool := match l[i]? with
  | some p => cmpB p.1 key == 0
  | none => false
end Go.Proofs.YtmepmiokpcddbabGreatDoor

set_option linter.unusedVariables false
set_option linter.unusedSimpArgs false
namespace Go.Proofs.YtmepmiokpcddbabGreatDoor

/-- valid cuts, each greater than the one before -/
def cutsB (last : ByteArray) : List ByteArray → Bool
  | [] => true
  | k :: r => keyB k && ltB last k && cutsB k r
/-- a valid owner -/
def ownB (n : Int) : Bool := decide (0 ≤ n) && decide (n ≤ 3)
theorem ownB_iff {n : Int} : ownB n = true ↔ 0 ≤ n ∧ n ≤ 3 := by simp [ownB]
/-- the error of a map -/
def chkM (cs : List ByteArray) (os : List Int) : Int :=
  if 12 < cs.length then 2 else if os.length ≠ cs.length + 1 then 3 else if cutsB ByteArray.empty cs = false then 3 else if os.all ownB = false then 1 else 0
/-- a valid map -/
structure OkM (cs : List ByteArray) (os : List Int) : Prop where
  few : cs.length ≤ 12
  len : os.length = cs.length + 1
  cuts : cutsB ByteArray.empty cs = true
  own : ∀ n ∈ os, 0 ≤ n ∧ n ≤ 3
theorem chkM_ok {cs : List ByteArray} {os : List Int} : chkM cs os = 0 ↔ OkM cs os := by
  unfold chkM
  by_cases h1 : 12 < cs.length
  · rw [if_pos h1]; exact ⟨fun h => absurd h (by decide), fun h => by have := h.few; omega⟩
  rw [if_neg h1]
  by_cases h2 : os.length ≠ cs.length + 1
  · rw [if_pos h2]; exact ⟨fun h => absurd h (by decide), fun h => absurd h.len h2⟩
  rw [if_neg h2]
  by_cases h3 : cutsB ByteArray.empty cs = false
  · rw [if_pos h3]; exact ⟨fun h => absurd h (by decide), fun h => by rw [h.cuts] at h3; cases h3⟩
  rw [if_neg h3]
  by_cases h4 : os.all ownB = false
  · rw [if_pos h4]
    refine ⟨fun h => absurd h (by decide), fun h => ?_⟩
    rw [List.all_eq_true.2 fun n hn => ownB_iff.2 (h.own n hn)] at h4
    cases h4
  · rw [if_neg h4]
    refine ⟨fun _ => ⟨by omega, by omega, by simpa using h3, fun n hn => ?_⟩, fun _ => rfl⟩
    exact ownB_iff.1 (List.all_eq_true.1 (by simpa using h4) n hn)
theorem keyB_ne_empty {k : ByteArray} (h : keyB k = true) : ltB ByteArray.empty k = true := by
  rw [ltB_iff]
  have h1 : 1 ≤ k.size := by simp [keyB] at h; omega
  have h2 : (by8 k).length = k.size := by simp [by8]
  cases e : by8 k with
  | nil => rw [e] at h2; simp at h2; omega
  | cons x r => show ([] : List UInt8) < x :: r; exact List.nil_lt_cons _ _
theorem cutsB_iff {last : ByteArray} {cs : List ByteArray} : cutsB last cs = true ↔ (∀ k ∈ cs, keyB k = true ∧ ltB last k = true) ∧ cs.Pairwise (fun a b => ltB a b = true) := by
  induction cs generalizing last with
  | nil => simp [cutsB]
  | cons k r ih =>
    simp only [cutsB, Bool.and_eq_true, ih, List.pairwise_cons, List.mem_cons]
    constructor
    · rintro ⟨⟨h1, h2⟩, h3, h4⟩
      refine ⟨fun x hx => ?_, fun x hx => (h3 x hx).2, h4⟩
      rcases hx with rfl | hx
      · exact ⟨h1, h2⟩
      · exact ⟨(h3 x hx).1, ltB_trans h2 (h3 x hx).2⟩
    · rintro ⟨h1, h2, h3⟩
      exact ⟨⟨(h1 k (.inl rfl)).1, (h1 k (.inl rfl)).2⟩, fun x hx => ⟨(h1 x (.inr hx)).1, h2 x hx⟩, h3⟩
theorem cutsB_next {last : ByteArray} {cs : List ByteArray} {k : Nat} (h : k < cs.length) : cutsB last (cs.drop k) = (keyB cs[k] && ltB last cs[k] && cutsB cs[k] (cs.drop (k + 1))) := by
  rw [List.drop_eq_getElem_cons h]; rfl
/-- how many cuts lie at or below a key -/
def atC (cs : List ByteArray) (key : ByteArray) : Nat := (cs.takeWhile fun k => leB k key).length
theorem atC_le (cs : List ByteArray) (key : ByteArray) : atC cs key ≤ cs.length := (List.takeWhile_prefix _).length_le
theorem atC_below {cs : List ByteArray} {key : ByteArray} {i : Nat} (h : i < atC cs key) : ∃ hi : i < cs.length, leB cs[i] key = true := by
  have hl := atC_le cs key
  refine ⟨by omega, ?_⟩
  have h1 : (cs.takeWhile fun k => leB k key)[i]'h = cs[i] := List.IsPrefix.getElem (List.takeWhile_prefix _) h
  have h2 : (cs.takeWhile fun k => leB k key)[i]'h ∈ cs.takeWhile fun k => leB k key := List.getElem_mem h
  have h3 := List.all_takeWhile (p := fun k => leB k key) (l := cs)
  rw [List.all_eq_true] at h3
  rw [← h1]
  exact h3 _ h2
theorem atC_next {cs : List ByteArray} {key : ByteArray} (h : atC cs key < cs.length) : leB cs[atC cs key] key = false := by
  induction cs with
  | nil => simp at h
  | cons c r ih =>
    unfold atC at *
    cases hc : leB c key with
    | false => simp [List.takeWhile_cons, hc]
    | true =>
      have hr : (r.takeWhile fun k => leB k key).length < r.length := by simpa [List.takeWhile_cons, hc] using h
      have := ih hr
      simpa [List.takeWhile_cons, hc] using this
theorem leB_trans_ {a b c : ByteArray} (h : ltB a b = true) (k : leB b c = true) : leB a c = true := by
  rw [leB_iff] at *
  cases e : ltB c a with
  | false => rfl
  | true => rw [ltB_trans e h] at k; cases k
/-- in sorted cuts those at or below a key are the first ones -/
theorem atC_iff {cs : List ByteArray} (hs : cs.Pairwise (fun a b => ltB a b = true)) {key : ByteArray} {i : Nat} (hi : i < cs.length) : leB cs[i] key = true ↔ i < atC cs key := by
  constructor
  · intro h
    refine Nat.lt_of_not_le fun hle => ?_
    have ha : atC cs key < cs.length := by omega
    have h1 := atC_next ha
    rcases Nat.lt_or_eq_of_le hle with hlt | heq
    · have h2 := List.pairwise_iff_getElem.1 hs (atC cs key) i ha hi hlt
      rw [leB_trans_ h2 h] at h1
      cases h1
    · subst heq; rw [h] at h1; cases h1
  · intro h; exact (atC_below h).2
/-- whose a key is -/
def whV (cs : List ByteArray) (os : List Int) (key : ByteArray) : Int := os.getD (atC cs key) 0
end Go.Proofs.YtmepmiokpcddbabGreatDoor

set_option linter.unusedVariables false
set_option linter.unusedSimpArgs false
namespace Go.Proofs.YtmepmiokpcddbabGreatDoor

/-- the plain map of the first k cuts -/
def plN (cs : List ByteArray) (os : List Int) : Nat → List ByteArray × List Int
  | 0 => ([], [os.getD 0 0])
  | k + 1 => if os.getD (k + 1) 0 = os.getD k 0 then plN cs os k else ((plN cs os k).1 ++ [cs.getD k ByteArray.empty], (plN cs os k).2 ++ [os.getD (k + 1) 0])
section
variable {cs : List ByteArray} {os : List Int}
theorem plN_len (cs : List ByteArray) (os : List Int) (k : Nat) : (plN cs os k).2.length = (plN cs os k).1.length + 1 := by
  induction k with
  | zero => rfl
  | succ k ih => simp only [plN]; split <;> simp [ih]
theorem plN_last (cs : List ByteArray) (os : List Int) (k : Nat) : (plN cs os k).2.getD (plN cs os k).1.length 0 = os.getD k 0 := by
  induction k with
  | zero => rfl
  | succ k ih =>
    simp only [plN]
    split
    · rename_i h; rw [ih, h]
    · simp only [List.length_append, List.length_singleton, List.getD_eq_getElem?_getD]
      rw [List.getElem?_append_right (by rw [plN_len]; exact Nat.le_refl _), plN_len]
      simp
theorem take_snoc_ {k : Nat} (h : k < cs.length) : cs.take (k + 1) = cs.take k ++ [cs.getD k ByteArray.empty] := by
  rw [List.take_succ_eq_append_getElem h]
  simp [List.getD_eq_getElem?_getD, h]
theorem plN_sub (os : List Int) {k : Nat} (hk : k ≤ cs.length) : (plN cs os k).1.Sublist (cs.take k) := by
  induction k with
  | zero => simp [plN]
  | succ k ih =>
    rw [take_snoc_ (by omega)]
    simp only [plN]
    split
    · exact (ih (by omega)).trans (List.sublist_append_left _ _)
    · exact (ih (by omega)).append (List.Sublist.refl _)
theorem plN_own {k : Nat} (hk : k < os.length) (h : ∀ n ∈ os, 0 ≤ n ∧ n ≤ 3) : ∀ n ∈ (plN cs os k).2, 0 ≤ n ∧ n ≤ 3 := by
  have hm : ∀ i, i < os.length → os.getD i 0 ∈ os := fun i hi => by rw [List.getD_eq_getElem?_getD, List.getElem?_eq_getElem hi]; exact List.getElem_mem hi
  induction k with
  | zero => intro n hn; simp [plN] at hn; subst hn; have := h _ (hm 0 hk); simpa [List.getD_eq_getElem?_getD] using this
  | succ k ih =>
    simp only [plN]
    split
    · exact ih (by omega)
    · intro n hn
      rcases List.mem_append.1 hn with hn | hn
      · exact ih (by omega) n hn
      · rw [List.mem_singleton.1 hn]; exact h _ (hm _ hk)
/-- no neighbours have one owner -/
theorem plN_adj (cs : List ByteArray) (os : List Int) (k : Nat) : ∀ i, i + 1 < (plN cs os k).2.length → (plN cs os k).2.getD (i + 1) 0 ≠ (plN cs os k).2.getD i 0 := by
  induction k with
  | zero => intro i hi; simp [plN] at hi
  | succ k ih =>
    simp only [plN]
    split
    · exact ih
    · rename_i h
      intro i hi
      simp only [List.length_append, List.length_singleton] at hi
      have hl := plN_len cs os k
      by_cases hlt : i + 1 < (plN cs os k).2.length
      · simp only [List.getD_eq_getElem?_getD]
        rw [List.getElem?_append_left hlt, List.getElem?_append_left (by omega)]
        have := ih i hlt
        simpa only [List.getD_eq_getElem?_getD] using this
      · have e : i + 1 = (plN cs os k).2.length := by omega
        have h1 := plN_last cs os k
        have e2 : i = (plN cs os k).1.length := by omega
        simp only [List.getD_eq_getElem?_getD] at h1 h ⊢
        rw [List.getElem?_append_right (by omega), List.getElem?_append_left (by omega), e, Nat.sub_self, e2, h1]
        simpa using h
theorem plN_valid (h : OkM cs os) : OkM (plN cs os cs.length).1 (plN cs os cs.length).2 := by
  have hs := plN_sub (cs := cs) os (Nat.le_refl _)
  rw [List.take_length] at hs
  obtain ⟨h1, h2⟩ := cutsB_iff.1 h.cuts
  exact ⟨Nat.le_trans hs.length_le h.few, plN_len _ _ _, cutsB_iff.2 ⟨fun k hk => h1 k (hs.subset hk), h2.sublist hs⟩, plN_own (by rw [h.len]; omega) h.own⟩
/-- a plain map's plain map is itself -/
theorem plN_same {k : Nat} (hk : k ≤ cs.length) (hl : os.length = cs.length + 1) (h : ∀ i, i < k → os.getD (i + 1) 0 ≠ os.getD i 0) : plN cs os k = (cs.take k, os.take (k + 1)) := by
  induction k with
  | zero =>
    have : 0 < os.length := by omega
    cases os with
    | nil => simp at this
    | cons x r => simp [plN]
  | succ k ih =>
    simp only [plN]
    rw [if_neg (h k (by omega)), ih (by omega) (fun i hi => h i (by omega)), take_snoc_ (by omega)]
    have e : os.take (k + 1 + 1) = os.take (k + 1) ++ [os.getD (k + 1) 0] := by
      rw [List.take_succ_eq_append_getElem (show k + 1 < os.length by omega)]
      simp [List.getD_eq_getElem?_getD, show k + 1 < os.length by omega]
    rw [e]
theorem plN_twice (h : OkM cs os) : plN (plN cs os cs.length).1 (plN cs os cs.length).2 (plN cs os cs.length).1.length = plN cs os cs.length := by
  have hl := plN_len cs os cs.length
  rw [plN_same (Nat.le_refl _) hl (fun i hi => plN_adj cs os cs.length i (by omega)), List.take_length, ← hl, List.take_length]
theorem atC_snoc (l : List ByteArray) (c key : ByteArray) : atC (l ++ [c]) key = if atC l key = l.length ∧ leB c key = true then l.length + 1 else atC l key := by
  unfold atC
  rw [List.takeWhile_append]
  by_cases h : (l.takeWhile fun k => leB k key).length = l.length
  · rw [if_pos h]
    cases hc : leB c key <;> simp [List.takeWhile_cons, hc, h]
  · rw [if_neg h, if_neg (fun e => h e.1)]
theorem atC_all {l : List ByteArray} {key : ByteArray} (h : ∀ k ∈ l, leB k key = true) : atC l key = l.length := by
  unfold atC
  induction l with
  | nil => rfl
  | cons c r ih => simp [List.takeWhile_cons, h c (by simp), ih fun k hk => h k (by simp [hk])]
/-- plain, all keys are whose they were -/
theorem plN_whose (hs : cs.Pairwise (fun a b => ltB a b = true)) (key : ByteArray) {k : Nat} (hk : k ≤ cs.length) : whV (plN cs os k).1 (plN cs os k).2 key = os.getD (atC (cs.take k) key) 0 := by
  induction k with
  | zero => simp [plN, whV, atC]
  | succ k ih =>
    have ih := ih (by omega)
    have hkl : k < cs.length := by omega
    have hck : cs.getD k ByteArray.empty = cs[k] := by simp [List.getD_eq_getElem?_getD, hkl]
    have hsub := plN_sub (cs := cs) os (show k ≤ cs.length by omega)
    rw [take_snoc_ hkl, atC_snoc, hck]
    have htl : (cs.take k).length = k := by rw [List.length_take]; omega
    cases hc : leB cs[k] key with
    | true =>
      have hall : ∀ x ∈ cs.take k, leB x key = true := fun x hx => by
        obtain ⟨i, hi, e⟩ := List.getElem_of_mem hx
        rw [List.getElem_take] at e
        rw [← e]
        exact leB_trans_ (List.pairwise_iff_getElem.1 hs i k (by omega) hkl (by omega)) hc
      have ha := atC_all hall
      rw [if_pos ⟨ha, rfl⟩, htl]
      rw [ha, htl] at ih
      simp only [plN]
      split
      · rename_i h; rw [ih, h]
      · unfold whV
        rw [hck, atC_snoc, if_pos ⟨atC_all fun x hx => hall x (hsub.subset hx), hc⟩]
        simp only [List.getD_eq_getElem?_getD]
        rw [List.getElem?_append_right (by rw [plN_len]; exact Nat.le_refl _), plN_len]
        simp
    | false =>
      rw [if_neg (by simp)]
      simp only [plN]
      split
      · exact ih
      · unfold whV at *
        rw [hck, atC_snoc, if_neg (by simp [hc])]
        rw [← ih]
        simp only [List.getD_eq_getElem?_getD]
        rw [List.getElem?_append_left (by rw [plN_len]; have := atC_le (plN cs os k).1 key; omega)]
end
end Go.Proofs.YtmepmiokpcddbabGreatDoor
