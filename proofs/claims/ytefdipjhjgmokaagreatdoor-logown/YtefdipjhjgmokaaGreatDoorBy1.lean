/-
  Plain facts about keys, values and stores as lists (no program in it).
  Operations and transactions as lists, and their cells in memory (no program in it).
  The byte order of keys, and lists of pairs that are sorted by it (no program in it).
  Partition maps, plainly (no program in it).
  Log entries, plainly (no program in it).
  Slices of one-cell values in memory: what they read as, rows of the call's own, append (no body of the program in it).
  Rows of numbers (no body of the program in it).
-/
import Derived.WalkKit
import Derived.WalkSpells
import Derived.Lib.Bytealg
import Derived.Test.YtefdipjhjgmokaaGreatDoorProg
import Derived.Maps.AppendAt
import Derived.Deep.AppendLies
import Derived.Lib.AppendZerosOnto
import Derived.OwnWalk
set_option linter.unusedVariables false
set_option linter.unusedSimpArgs false
namespace Go.Proofs.YtefdipjhjgmokaaGreatDoor
open Go.RowKit

theorem hideP {p : Prop} (h : p) : Hid p := h
/-- a letter from a to z -/
def lowB (c : UInt8) : Bool := decide (97 ≤ (c.toNat : Int)) && decide ((c.toNat : Int) ≤ 122)
/-- a valid key -/
def keyB (s : ByteArray) : Bool := decide (1 ≤ s.size) && decide (s.size ≤ 6) && s.data.toList.all lowB
/-- a valid value -/
def valB (n : Int) : Bool := decide (-1000000000 ≤ n) && decide (n ≤ 1000000000)

theorem ret_int {k : IntKind} {a b : Int} (h : a = b) : Ending.returned (.int k a) = .returned (.int k b) := by rw [h]
theorem ret_bool {a b : Bool} (h : a = b) : Ending.returned (.bool a) = .returned (.bool b) := by rw [h]
theorem ret_ib {a b : Int} {x y : Bool} (h : a = b) (k : x = y) : Ending.returned (.tuple #[.int .i64 a, .bool x]) = .returned (.tuple #[.int .i64 b, .bool y]) := by rw [h, k]
theorem take_snoc (s : ByteArray) (k : Nat) (h : k < s.size) : s.data.toList.take (k + 1) = s.data.toList.take k ++ [s[k]] := by
  rw [List.take_succ_eq_append_getElem (by simpa using h)]; rfl
theorem cell_lt {w : World} {a : Addr} {v : Value} (h : w.cell? a = some v) : a.block < w.heap.size := by
  rcases Nat.lt_or_ge a.block w.heap.size with hl | hl
  · exact hl
  · simp [World.cell?, hl] at h
/-- byte order -/
def ltB (a b : ByteArray) : Bool := Op.bytesLess a.toList b.toList
def leB (a b : ByteArray) : Bool := Op.bytesLess a.toList b.toList || a.toList == b.toList
/-- a pair: a key and its value -/
abbrev Pr := ByteArray × Int
/-- what Check answers, from a preceding key on -/
def chk (before : ByteArray) : List Pr → Int
  | [] => 0
  | p :: r => if keyB p.1 = false then 3 else if valB p.2 = false then 1 else if p.2 = 0 then 1 else if leB p.1 before = true then 3 else chk p.1 r
/-- a slice's cells read as a list of pairs; they lie below block B -/
def PS (w : World) (B : Nat) (A : Option Addr) (l : List Pr) : Prop :=
  ∀ i p, l[i]? = some p → ∃ b o, A = some ⟨b, o, none⟩ ∧ b < B ∧ w.cell? ⟨b, o + i * 2, none⟩ = some (.string p.1) ∧ w.cell? ⟨b, o + i * 2 + 1, none⟩ = some (.int .i64 p.2)
theorem PS.below {w w' : World} {B : Nat} {A : Option Addr} {l : List Pr} (h : PS w B A l) (hb : Below B w w') : PS w' B A l := fun i p hp => by
  obtain ⟨b, o, e, hlt, h1, h2⟩ := h i p hp
  exact ⟨b, o, e, hlt, (hb.cell hlt).trans h1, (hb.cell hlt).trans h2⟩
theorem PS.more {w : World} {B B' : Nat} {A : Option Addr} {l : List Pr} (h : PS w B A l) (hB : B ≤ B') : PS w B' A l := fun i p hp => by
  obtain ⟨b, o, e, hlt, h1, h2⟩ := h i p hp
  exact ⟨b, o, e, by omega, h1, h2⟩
theorem PS.nil {w : World} {B : Nat} {A : Option Addr} : PS w B A [] := fun i p hp => by simp at hp
section
variable {bf : ByteArray} {l : List Pr} {k : Nat} {p : Pr} (h : k < l.length) (hp : l[k] = p)
include hp
theorem chk_key (h1 : keyB p.1 = false) : chk bf (l.drop k) = 3 := by rw [List.drop_eq_getElem_cons h, hp]; simp [chk, h1]
theorem chk_val (h1 : keyB p.1 = true) (h2 : valB p.2 = false) : chk bf (l.drop k) = 1 := by rw [List.drop_eq_getElem_cons h, hp]; simp [chk, h1, h2]
theorem chk_zero (h1 : keyB p.1 = true) (h2 : valB p.2 = true) (h3 : p.2 = 0) : chk bf (l.drop k) = 1 := by rw [List.drop_eq_getElem_cons h, hp]; simp [chk, h1, h2, h3]
theorem chk_ord (h1 : keyB p.1 = true) (h2 : valB p.2 = true) (h3 : ¬ p.2 = 0) (h4 : leB p.1 bf = true) : chk bf (l.drop k) = 3 := by rw [List.drop_eq_getElem_cons h, hp]; simp [chk, h1, h2, h3, h4]
theorem chk_next (h1 : keyB p.1 = true) (h2 : valB p.2 = true) (h3 : ¬ p.2 = 0) (h4 : leB p.1 bf = false) : chk bf (l.drop k) = chk p.1 (l.drop (k + 1)) := by rw [List.drop_eq_getElem_cons h, hp]; simp [chk, h1, h2, h3, h4]
end
theorem keyB_no {s : ByteArray} {x : UInt8} (hx : x ∈ s.data.toList) (h : lowB x = false) : keyB s = false := by
  have : s.data.toList.all lowB = false := by
    rw [List.all_eq_false]; exact ⟨x, hx, by simp [h]⟩
  simp [keyB, this]
end Go.Proofs.YtefdipjhjgmokaaGreatDoor

set_option linter.unusedVariables false
set_option linter.unusedSimpArgs false
namespace Go.Proofs.YtefdipjhjgmokaaGreatDoor
open Go.RowKit

/-- an operation -/
structure Opr where
  kind : Int
  key : ByteArray
  src : ByteArray
  n : Int
/-- its value -/
def opV (o : Opr) : Value := .agg #[.int .i64 o.kind, .string o.key, .string o.src, .int .i64 o.n]
/-- what the check of an operation answers -/
def chkO (o : Opr) : Int :=
  if o.kind < 1 then 3 else if 5 < o.kind then 3 else if keyB o.key = false then 3
  else if (o.kind = 3 ∨ o.kind = 5) ∧ keyB o.src = false then 3
  else if (o.kind = 3 ∨ o.kind = 5) ∧ o.src = o.key then 3
  else if o.kind ≠ 3 ∧ valB o.n = false then 1 else if o.kind = 5 ∧ o.n < 0 then 1 else 0
/-- the first error of a list of operations -/
def chkOs : List Opr → Int
  | [] => 0
  | o :: r => if chkO o = 0 then chkOs r else chkO o
/-- what Check answers -/
def chkD (l : List Opr) : Int := if l.length < 1 then 2 else if 8 < l.length then 2 else chkOs l
/-- a slice's cells read as a list of operations; they lie below block B -/
def OS (w : World) (B : Nat) (A : Option Addr) (l : List Opr) : Prop :=
  ∀ i p, l[i]? = some p → ∃ b o, A = some ⟨b, o, none⟩ ∧ b < B ∧ w.cell? ⟨b, o + i * 4, none⟩ = some (.int .i64 p.kind) ∧ w.cell? ⟨b, o + i * 4 + 1, none⟩ = some (.string p.key) ∧
    w.cell? ⟨b, o + i * 4 + 2, none⟩ = some (.string p.src) ∧ w.cell? ⟨b, o + i * 4 + 3, none⟩ = some (.int .i64 p.n)
theorem OS.below {w w' : World} {B : Nat} {A : Option Addr} {l : List Opr} (h : OS w B A l) (hb : Below B w w') : OS w' B A l := fun i p hp => by
  obtain ⟨b, o, e, hlt, h1, h2, h3, h4⟩ := h i p hp
  exact ⟨b, o, e, hlt, (hb.cell hlt).trans h1, (hb.cell hlt).trans h2, (hb.cell hlt).trans h3, (hb.cell hlt).trans h4⟩
theorem OS.more {w : World} {B B' : Nat} {A : Option Addr} {l : List Opr} (h : OS w B A l) (hB : B ≤ B') : OS w B' A l := fun i p hp => by
  obtain ⟨b, o, e, hlt, h1⟩ := h i p hp
  exact ⟨b, o, e, by omega, h1⟩
theorem OS.go {w w' : World} {A : Option Addr} {l : List Opr} (h : OS w w.heap.size A l) (hb : Below w.heap.size w w') : OS w' w'.heap.size A l := (h.below hb).more hb.size
theorem OS.nil {w : World} {B : Nat} {A : Option Addr} : OS w B A [] := fun i p hp => by simp at hp
theorem chkOs_next {l : List Opr} {k : Nat} (h : k < l.length) : chkOs (l.drop k) = if chkO l[k] = 0 then chkOs (l.drop (k + 1)) else chkO l[k] := by
  rw [List.drop_eq_getElem_cons h]; rfl
theorem chkOs_zero {l : List Opr} : chkOs l = 0 ↔ ∀ o ∈ l, chkO o = 0 := by
  induction l with
  | nil => simp [chkOs]
  | cons o r ih =>
    by_cases h : chkO o = 0
    · simp [chkOs, h, ih]
    · simp [chkOs, h]
theorem chkD_zero {l : List Opr} : chkD l = 0 ↔ 1 ≤ l.length ∧ l.length ≤ 8 ∧ ∀ o ∈ l, chkO o = 0 := by
  unfold chkD
  by_cases h1 : l.length < 1
  · rw [if_pos h1]; exact ⟨fun h => absurd h (by decide), fun h => by omega⟩
  rw [if_neg h1]
  by_cases h2 : 8 < l.length
  · rw [if_pos h2]; exact ⟨fun h => absurd h (by decide), fun h => by omega⟩
  rw [if_neg h2, chkOs_zero]
  exact ⟨fun h => ⟨by omega, by omega, h⟩, fun h => h.2.2⟩
/-- what a valid operation is -/
theorem chkO_zero {o : Opr} : chkO o = 0 ↔ 1 ≤ o.kind ∧ o.kind ≤ 5 ∧ keyB o.key = true ∧ (o.kind = 3 ∨ o.kind = 5 → keyB o.src = true ∧ o.src ≠ o.key) ∧ (o.kind ≠ 3 → valB o.n = true) ∧ (o.kind = 5 → 0 ≤ o.n) := by
  unfold chkO
  by_cases h1 : o.kind < 1
  · rw [if_pos h1]; exact ⟨fun h => absurd h (by decide), fun h => by omega⟩
  rw [if_neg h1]
  by_cases h2 : 5 < o.kind
  · rw [if_pos h2]; exact ⟨fun h => absurd h (by decide), fun h => by omega⟩
  rw [if_neg h2]
  by_cases h3 : keyB o.key = false
  · rw [if_pos h3]; exact ⟨fun h => absurd h (by decide), fun h => by rw [h.2.2.1] at h3; cases h3⟩
  rw [if_neg h3]
  by_cases h4 : (o.kind = 3 ∨ o.kind = 5) ∧ keyB o.src = false
  · rw [if_pos h4]; exact ⟨fun h => absurd h (by decide), fun h => by have := h4.2; rw [(h.2.2.2.1 h4.1).1] at this; cases this⟩
  rw [if_neg h4]
  by_cases h5 : (o.kind = 3 ∨ o.kind = 5) ∧ o.src = o.key
  · rw [if_pos h5]; exact ⟨fun h => absurd h (by decide), fun h => absurd h5.2 (h.2.2.2.1 h5.1).2⟩
  rw [if_neg h5]
  by_cases h6 : o.kind ≠ 3 ∧ valB o.n = false
  · rw [if_pos h6]; exact ⟨fun h => absurd h (by decide), fun h => by have := h6.2; rw [h.2.2.2.2.1 h6.1] at this; cases this⟩
  rw [if_neg h6]
  by_cases h7 : o.kind = 5 ∧ o.n < 0
  · rw [if_pos h7]; exact ⟨fun h => absurd h (by decide), fun h => by have := h.2.2.2.2.2 h7.1; omega⟩
  rw [if_neg h7]
  refine ⟨fun _ => ⟨by omega, by omega, by simpa using h3, fun hk => ⟨?_, ?_⟩, fun hk => ?_, fun hk => ?_⟩, fun _ => rfl⟩
  · cases hs : keyB o.src
    · exact absurd ⟨hk, hs⟩ h4
    · rfl
  · exact fun e => h5 ⟨hk, e⟩
  · cases hs : valB o.n
    · exact absurd ⟨hk, hs⟩ h6
    · rfl
  · exact Int.not_lt.1 fun e => h7 ⟨hk, e⟩
theorem bytes_ne {a b : ByteArray} (h : a ≠ b) : (a.toList == b.toList) = false := by
  rw [beq_eq_false_iff_ne]; intro e; rw [ByteArray.toList_eq, ByteArray.toList_eq] at e
  refine h ?_
  cases a with | mk a => cases b with | mk b => simp at e; rw [e]
end Go.Proofs.YtefdipjhjgmokaaGreatDoor

set_option linter.unusedVariables false
set_option linter.unusedSimpArgs false
namespace Go.Proofs.YtefdipjhjgmokaaGreatDoor
open Go.RowKit

theorem bLess : ∀ (x y : List UInt8), Op.bytesLess x y = decide (x < y)
  | [], [] => by simp [Op.bytesLess]
  | _ :: _, [] => by simp [Op.bytesLess]
  | [], _ :: _ => by simp [Op.bytesLess]
  | a :: x, b :: y => by
    rw [Op.bytesLess, bLess x y]
    simp only [List.cons_lt_cons_iff]
    by_cases h1 : a < b <;> by_cases h2 : a = b <;> by_cases h3 : x < y <;> simp [h1, h2, h3]

/-- bytes of a key -/
abbrev by8 (a : ByteArray) : List UInt8 := a.data.toList
theorem by8_inj {a b : ByteArray} (h : by8 a = by8 b) : a = b := by
  cases a; cases b; simp [by8, Array.toList_inj] at h; simp [h]
theorem ltB_iff {a b : ByteArray} : ltB a b = true ↔ by8 a < by8 b := by unfold ltB; rw [bLess, ByteArray.toList_eq, ByteArray.toList_eq]; simp
theorem ltB_no {a b : ByteArray} : ltB a b = false ↔ ¬ by8 a < by8 b := by rw [← ltB_iff]; simp
theorem ltB_irrefl (a : ByteArray) : ltB a a = false := by rw [ltB_no]; exact List.lt_irrefl _
theorem ltB_trans {a b c : ByteArray} (h : ltB a b = true) (k : ltB b c = true) : ltB a c = true := by
  rw [ltB_iff] at *; exact List.lt_trans h k
theorem ltB_asymm {a b : ByteArray} (h : ltB a b = true) : ltB b a = false := by
  rw [ltB_iff] at h; rw [ltB_no]; exact List.lt_asymm h
theorem ltB_ne {a b : ByteArray} (h : ltB a b = true) : a ≠ b := fun e => by rw [e, ltB_irrefl] at h; cases h
theorem ltB_total {a b : ByteArray} (h : ltB a b = false) (k : ltB b a = false) : a = b := by
  rw [ltB_no] at *
  exact by8_inj (List.le_antisymm (List.not_lt.1 k) (List.not_lt.1 h))
theorem leB_iff {a b : ByteArray} : leB a b = true ↔ ltB b a = false := by
  unfold leB; rw [ByteArray.toList_eq, ByteArray.toList_eq, bLess]
  constructor
  · intro h
    simp only [Bool.or_eq_true, decide_eq_true_eq, beq_iff_eq] at h
    rcases h with h | h
    · exact ltB_asymm (ltB_iff.2 h)
    · rw [by8_inj h]; exact ltB_irrefl _
  · intro h
    cases k : ltB a b
    · have := ltB_total k h; subst this; simp
    · rw [ltB_iff] at k; simp [k]
theorem leB_no {a b : ByteArray} : leB a b = false ↔ ltB b a = true := by
  have := @leB_iff a b
  cases h : leB a b <;> cases k : ltB b a <;> simp_all

theorem cmp_neg : ∀ (x y : List UInt8), Lib.compareBytes x y < 0 ↔ x < y
  | [], [] => by simp [Lib.compareBytes]
  | _ :: _, [] => by simp [Lib.compareBytes]
  | [], _ :: _ => by simp [Lib.compareBytes]
  | a :: x, b :: y => by
    simp only [Lib.compareBytes, List.cons_lt_cons_iff]
    by_cases h1 : a < b
    · simp [h1]
    · by_cases h2 : b < a
      · have : a ≠ b := fun e => by subst e; exact h1 h2
        simp [h1, h2, this]
      · have : a = b := UInt8.le_antisymm (UInt8.not_lt.1 h2) (UInt8.not_lt.1 h1)
        subst this
        simp [cmp_neg x y]
theorem cmp_zero : ∀ (x y : List UInt8), Lib.compareBytes x y = 0 ↔ x = y
  | [], [] => by simp [Lib.compareBytes]
  | _ :: _, [] => by simp [Lib.compareBytes]
  | [], _ :: _ => by simp [Lib.compareBytes]
  | a :: x, b :: y => by
    simp only [Lib.compareBytes, List.cons.injEq]
    by_cases h1 : a < b
    · have : a ≠ b := fun e => by subst e; exact UInt8.lt_irrefl a h1
      simp [h1, this]
    · by_cases h2 : b < a
      · have : a ≠ b := fun e => by subst e; exact h1 h2
        simp [h1, h2, this]
      · have : a = b := UInt8.le_antisymm (UInt8.not_lt.1 h2) (UInt8.not_lt.1 h1)
        subst this
        simp [cmp_zero x y]

/-- what strings.Compare answers -/
def cmpB (a b : ByteArray) : Int := Lib.compareBytes a.data.toList b.data.toList
theorem cmpB_neg {a b : ByteArray} : cmpB a b < 0 ↔ ltB a b = true := by rw [ltB_iff]; exact cmp_neg _ _
theorem cmpB_zero {a b : ByteArray} : cmpB a b = 0 ↔ a = b := ⟨fun h => by8_inj ((cmp_zero _ _).1 h), fun h => by subst h; exact (cmp_zero _ _).2 rfl⟩

/-- i is the place of a key in a list: what lies ahead is less, what lies behind isn't -/
structure At (l : List Pr) (key : ByteArray) (i : Nat) : Prop where
  le : i ≤ l.length
  lo : ∀ j (h : j < l.length), j < i → ltB (l[j]).1 key = true
  hi : ∀ j (h : j < l.length), i ≤ j → ltB (l[j]).1 key = false
/-- is it there? -/
def fnd (l : List Pr) (key : ByteArray) (i : Nat) : Bool := match l[i]? with
  | some p => cmpB p.1 key == 0
  | none => false
end Go.Proofs.YtefdipjhjgmokaaGreatDoor

set_option linter.unusedVariables false
set_option linter.unusedSimpArgs false
namespace Go.Proofs.YtefdipjhjgmokaaGreatDoor

/-- valid cuts, each greater than the one before -/
def cutsB (last : ByteArray) : List ByteArray → Bool
  | [] => true
  | k :: r => keyB k && ltB last k && cutsB k r
/-- a valid owner -/
def ownB (n : Int) : Bool := decide (0 ≤ n) && decide (n ≤ 3)
theorem ownB_iff {n : Int} : ownB n = true ↔ 0 ≤ n ∧ n ≤ 3 := by simp [ownB]
/-- the error of a map -/
def chkM (cs : List ByteArray) (os : List Int) : Int :=
  if 12 < cs.length then 2 else if os.length ≠ cs.length + 1 then 3 else if cutsB ByteArray.empty cs = false then 3 else if os.all ownB = false then 1 else 0
/-- a valid map -/
structure OkM (cs : List ByteArray) (os : List Int) : Prop where
  few : cs.length ≤ 12
  len : os.length = cs.length + 1
  cuts : cutsB ByteArray.empty cs = true
  own : ∀ n ∈ os, 0 ≤ n ∧ n ≤ 3
theorem chkM_ok {cs : List ByteArray} {os : List Int} : chkM cs os = 0 ↔ OkM cs os := by
  unfold chkM
  by_cases h1 : 12 < cs.length
  · rw [if_pos h1]; exact ⟨fun h => absurd h (by decide), fun h => by have := h.few; omega⟩
  rw [if_neg h1]
  by_cases h2 : os.length ≠ cs.length + 1
  · rw [if_pos h2]; exact ⟨fun h => absurd h (by decide), fun h => absurd h.len h2⟩
  rw [if_neg h2]
  by_cases h3 : cutsB ByteArray.empty cs = false
  · rw [if_pos h3]; exact ⟨fun h => absurd h (by decide), fun h => by rw [h.cuts] at h3; cases h3⟩
  rw [if_neg h3]
  by_cases h4 : os.all ownB = false
  · rw [if_pos h4]
    refine ⟨fun h => absurd h (by decide), fun h => ?_⟩
    rw [List.all_eq_true.2 fun n hn => ownB_iff.2 (h.own n hn)] at h4
    cases h4
  · rw [if_neg h4]
    refine ⟨fun _ => ⟨by omega, by omega, by simpa using h3, fun n hn => ?_⟩, fun _ => rfl⟩
    exact ownB_iff.1 (List.all_eq_true.1 (by simpa using h4) n hn)
theorem keyB_ne_empty {k : ByteArray} (h : keyB k = true) : ltB ByteArray.empty k = true := by
  rw [ltB_iff]
  have h1 : 1 ≤ k.size := by simp [keyB] at h; omega
  have h2 : (by8 k).length = k.size := by simp [by8]
  cases e : by8 k with
  | nil => rw [e] at h2; simp at h2; omega
  | cons x r => show ([] : List UInt8) < x :: r; exact List.nil_lt_cons _ _
theorem cutsB_iff {last : ByteArray} {cs : List ByteArray} : cutsB last cs = true ↔ (∀ k ∈ cs, keyB k = true ∧ ltB last k = true) ∧ cs.Pairwise (fun a b => ltB a b = true) := by
  induction cs generalizing last with
  | nil => simp [cutsB]
  | cons k r ih =>
    simp only [cutsB, Bool.and_eq_true, ih, List.pairwise_cons, List.mem_cons]
    constructor
    · rintro ⟨⟨h1, h2⟩, h3, h4⟩
      refine ⟨fun x hx => ?_, fun x hx => (h3 x hx).2, h4⟩
      rcases hx with rfl | hx
      · exact ⟨h1, h2⟩
      · exact ⟨(h3 x hx).1, ltB_trans h2 (h3 x hx).2⟩
    · rintro ⟨h1, h2, h3⟩
      exact ⟨⟨(h1 k (.inl rfl)).1, (h1 k (.inl rfl)).2⟩, fun x hx => ⟨(h1 x (.inr hx)).1, h2 x hx⟩, h3⟩
theorem cutsB_next {last : ByteArray} {cs : List ByteArray} {k : Nat} (h : k < cs.length) : cutsB last (cs.drop k) = (keyB cs[k] && ltB last cs[k] && cutsB cs[k] (cs.drop (k + 1))) := by
  rw [List.drop_eq_getElem_cons h]; rfl
/-- how many cuts lie at or below a key -/
def atC (cs : List ByteArray) (key : ByteArray) : Nat := (cs.takeWhile fun k => leB k key).length
theorem atC_le (cs : List ByteArray) (key : ByteArray) : atC cs key ≤ cs.length := (List.takeWhile_prefix _).length_le
theorem atC_below {cs : List ByteArray} {key : ByteArray} {i : Nat} (h : i < atC cs key) : ∃ hi : i < cs.length, leB cs[i] key = true := by
  have hl := atC_le cs key
  refine ⟨by omega, ?_⟩
  have h1 : (cs.takeWhile fun k => leB k key)[i]'h = cs[i] := List.IsPrefix.getElem (List.takeWhile_prefix _) h
  have h2 : (cs.takeWhile fun k => leB k key)[i]'h ∈ cs.takeWhile fun k => leB k key := List.getElem_mem h
  have h3 := List.all_takeWhile (p := fun k => leB k key) (l := cs)
  rw [List.all_eq_true] at h3
  rw [← h1]
  exact h3 _ h2
theorem atC_next {cs : List ByteArray} {key : ByteArray} (h : atC cs key < cs.length) : leB cs[atC cs key] key = false := by
  induction cs with
  | nil => simp at h
  | cons c r ih =>
    unfold atC at *
    cases hc : leB c key with
    | false => simp [List.takeWhile_cons, hc]
    | true =>
      have hr : (r.takeWhile fun k => leB k key).length < r.length := by simpa [List.takeWhile_cons, hc] using h
      have := ih hr
      simpa [List.takeWhile_cons, hc] using this
theorem leB_trans_ {a b c : ByteArray} (h : ltB a b = true) (k : leB b c = true) : leB a c = true := by
  rw [leB_iff] at *
  cases e : ltB c a with
  | false => rfl
  | true => rw [ltB_trans e h] at k; cases k
/-- in sorted cuts those at or below a key are the first ones -/
theorem atC_iff {cs : List ByteArray} (hs : cs.Pairwise (fun a b => ltB a b = true)) {key : ByteArray} {i : Nat} (hi : i < cs.length) : leB cs[i] key = true ↔ i < atC cs key := by
  constructor
  · intro h
    refine Nat.lt_of_not_le fun hle => ?_
    have ha : atC cs key < cs.length := by omega
    have h1 := atC_next ha
    rcases Nat.lt_or_eq_of_le hle with hlt | heq
    · have h2 := List.pairwise_iff_getElem.1 hs (atC cs key) i ha hi hlt
      rw [leB_trans_ h2 h] at h1
      cases h1
    · subst heq; rw [h] at h1; cases h1
  · intro h; exact (atC_below h).2
/-- whose a key is -/
def whV (cs : List ByteArray) (os : List Int) (key : ByteArray) : Int := os.getD (atC cs key) 0
end Go.Proofs.YtefdipjhjgmokaaGreatDoor

set_option linter.unusedVariables false
set_option linter.unusedSimpArgs false
namespace Go.Proofs.YtefdipjhjgmokaaGreatDoor

/-- an entry -/
structure Ent where
  isM : Bool
  d : List Opr
  cs : List ByteArray
  os : List Int
def ent0 : Ent := ⟨false, [], [], []⟩
/-- its error -/
def chkE (x : Ent) : Int := if x.isM then chkM x.cs x.os else chkD x.d
/-- without the field that does not count -/
def dropE (x : Ent) : Ent := if x.isM then ⟨true, [], x.cs, x.os⟩ else ⟨false, x.d, [], []⟩
theorem dropE_twice (x : Ent) : dropE (dropE x) = dropE x := by
  obtain ⟨m, d, cs, os⟩ := x
  cases m <;> rfl
theorem chkE_drop (x : Ent) : chkE (dropE x) = chkE x := by
  obtain ⟨m, d, cs, os⟩ := x
  cases m <;> rfl
end Go.Proofs.YtefdipjhjgmokaaGreatDoor

set_option linter.unusedVariables false
set_option linter.unusedSimpArgs false
namespace Go.Proofs.YtefdipjhjgmokaaGreatDoor
open Go.RowKit

/-- a slice reads as a list of values -/
def VS (w : World) (A : Option Addr) (vs : List Value) : Prop := ∀ i v, vs[i]? = some v → ∃ b o, A = some ⟨b, o, none⟩ ∧ b < w.heap.size ∧ w.cell? ⟨b, o + i, none⟩ = some v
theorem VS.below {w w' : World} {A : Option Addr} {vs : List Value} (h : VS w A vs) (hb : Below w.heap.size w w') : VS w' A vs := fun i p hp => by
  obtain ⟨b, o, e, hlt, h1⟩ := h i p hp
  exact ⟨b, o, e, Nat.lt_of_lt_of_le hlt hb.size, (hb.cell hlt).trans h1⟩
theorem VS.nil {w : World} {A : Option Addr} : VS w A [] := fun i p hp => by simp at hp
theorem VS.take_ {w : World} {A : Option Addr} {vs : List Value} (h : VS w A vs) (q : Nat) : VS w A (vs.take q) := fun i p hp => by
  rw [List.getElem?_take] at hp
  split at hp
  · exact h i p hp
  · cases hp
theorem VS.drop_ {w : World} {b o : Nat} {vs : List Value} (h : VS w (some ⟨b, o, none⟩) vs) (q : Nat) : VS w (some ⟨b, o + q, none⟩) (vs.drop q) := fun i p hp => by
  rw [List.getElem?_drop] at hp
  obtain ⟨b', o', e, hlt, h1⟩ := h _ p hp
  injection e with e
  injection e with e1 e2 _
  subst e1; subst e2
  rw [← Nat.add_assoc] at h1
  exact ⟨_, _, rfl, hlt, h1⟩
/-- a slice that the call itself has made: its row lies from block B on -/
def OR (w : World) (B : Nat) (t : TypeId) (A : Option Addr) (c : Nat) (xs : List Value) : Prop := w.ownsRow B t 1 (.slice A xs.length c) xs.length xs
section
variable {w w' : World} {B B' : Nat} {t : TypeId} {A : Option Addr} {c : Nat} {xs : List Value}
theorem OR.mono (h : OR w B t A c xs) (hB : B' ≤ B) : OR w B' t A c xs :=
  ⟨h.1, h.2.imp id fun ⟨g, cap, cur, h1, h2, h3⟩ => ⟨g, cap, cur, h1, Nat.le_trans hB h2, h3⟩⟩
theorem OR.below (h : OR w B t A c xs) (hb : Below w.heap.size w w') : OR w' B t A c xs :=
  ⟨h.1, h.2.imp id fun ⟨g, cap, cur, h1, h2, h3, h4⟩ => ⟨g, cap, cur, h1, h2, (hb.block g (Array.getElem?_eq_some_iff.1 h3).1).trans h3, h4⟩⟩
theorem OR.vs (h : OR w B t A c xs) : VS w A xs := by
  rcases Nat.eq_zero_or_pos xs.length with h0 | h0
  · rw [List.length_eq_zero_iff.1 h0]; exact VS.nil
  · obtain ⟨g, cap, hv, _, hlt⟩ := World.ownsRow.form h h0
    injection hv with a b d
    subst a; subst d
    refine fun i p hp => ⟨g, 0, rfl, hlt, ?_⟩
    have := h.cells (g := g) rfl _ _ hp
    rw [Addr.add_lit] at this
    exact this
theorem OR.of_own {n : Nat} {v : Value} (h : w.ownsRow B t 1 v n xs) : ∃ A c, v = .slice A xs.length c ∧ OR w B t A c xs := by
  have hn : n = xs.length := by have := h.1; omega
  subst hn
  rcases h.2 with ⟨rfl, h0⟩ | ⟨g, cap, cur, rfl, h2⟩
  · exact ⟨none, 0, by rw [h0], by unfold OR; rw [h0]; exact h0 ▸ h⟩
  · exact ⟨_, _, rfl, h⟩
theorem OR.nil (w : World) (B : Nat) (t : TypeId) : OR w B t none 0 [] := World.ownsRow_nil w _ _ _
theorem OR.caps (h : OR w B t A c xs) : xs.length ≤ c ∧ c ≤ maxLen ∧ (A = none → c = 0) ∧ (∀ a, A = some a → ∃ g, a = ⟨g, 0, none⟩ ∧ B ≤ g ∧ g < w.heap.size) := by
  rcases h.2 with ⟨hv, h0⟩ | ⟨g, cap, cur, hv, h2, h3, h4, h5, _⟩
  · injection hv with a b d
    subst a; subst d
    exact ⟨by omega, Nat.zero_le _, (fun _ => rfl), (fun a e => by cases e)⟩
  · injection hv with a b d
    subst a; subst d
    exact ⟨h4, h5, (fun e => by cases e), (fun a e => by injection e with e; exact ⟨g, e.symm, h2, (Array.getElem?_eq_some_iff.1 h3).1⟩)⟩
end
/-- append of new values onto a row of the call's own -/
theorem app_row {P : Program} {st t : TypeId} {z : Value} {bytes : Nat} (hS : P.underlying st = some (.slice t)) (hI : (P.info? t).map (fun i => (i.zero, i.size, i.bytes)) = some (some z, 1, bytes)) (hz : z.cells.size = 1)
    (w : World) (base : Nat) (ty : TypeId) (A : Option Addr) (c : Nat) (xs : List Value) (hown : OR w base t A c xs) (news : List Value) (h1 : ∀ u ∈ news, u.oneCell' = true)
    (h63 : (xs.length + news.length) * bytes ≤ 140737488355328) (hby : 1 ≤ bytes) (hbase : base ≤ w.heap.size) :
    ∃ A' c' w', (Builtin.append_ #[st, st] ty #[.slice A xs.length c, .slice (some ⟨w.heap.size, 0, none⟩) news.length news.length]).run P (w.alloc (.cells news.toArray t)) = .ok (.slice A' (xs ++ news).length c') w' ∧ OR w' base t A' c' (xs ++ news) ∧ (∀ B a, B ≤ base → Below B a w → Below B a w') ∧ (w.alloc (.cells news.toArray t)).grownBy w' (Value.slice A xs.length c).ownBlock ∧
      ((Value.slice A' (xs ++ news).length c').ownBlock = (Value.slice A xs.length c).ownBlock ∨ (Value.slice A' (xs ++ news).length c').ownBlock = some (w.heap.size + 1)) := by
  obtain ⟨i0, hi, hz0, hz1, hz2⟩ := info_parts hI
  have hle : xs.length + news.length ≤ 140737488355328 := Nat.le_trans (Nat.le_mul_of_pos_right _ hby) h63
  have hm : xs.length + news.length ≤ maxLen := by unfold maxLen; omega
  have hc : ∀ j u, news[j]? = some u → (w.alloc (.cells news.toArray t)).cell? ((⟨w.heap.size, 0, none⟩ : Addr).add j) = some u := by
    intro j u hu
    rw [Addr.add_lit]
    simp only [World.cell?]
    rw [heap_alloc_new]
    simp [hu]
  have hown' : (w.alloc (.cells news.toArray t)).ownsRow base t 1 (.slice A xs.length c) xs.length xs := World.ownsRow.alloc hown _
  obtain ⟨v', w', hrun, h2, h3, _, h5⟩ := run_append_own_at (P := P) (w.alloc (.cells news.toArray t)) base st ty t i0 _ 1 bytes hS hi hz0 hz1 hz2 hz (by decide) _ xs.length xs hown' ⟨w.heap.size, 0, none⟩ news.length news.length news (by simp) hc h1 hm h63 (by simp; omega)
  rw [← List.length_append] at h2
  obtain ⟨A', c', rfl, ho⟩ := OR.of_own h2
  refine ⟨A', c', w', hrun, ho, fun B a hB hb => ?_, h3, by simpa using h5⟩
  have hb' := hb.alloc (Nat.le_trans hB hbase) (.cells news.toArray t)
  exact hb'.grown h3 (by simp; omega) fun k hk => Nat.le_trans hB (World.ownsRow.lt hown' k hk).1
/-- rows that lie apart -/
theorem rows_apart {v v' : Value} {m : Nat} (h1 : ∀ k, v.ownBlock = some k → m ≤ k) (h2 : ∀ k, v'.ownBlock = some k → k < m) : v.ownBlock = none ∨ v.ownBlock ≠ v'.ownBlock := by
  cases h : v.ownBlock with
  | none => exact .inl rfl
  | some k => exact .inr fun e => by have := h1 k h; have := h2 k e.symm; omega
theorem boolInfo : (Tryz.prog.info? 4).map (fun i => (i.zero, i.size, i.bytes)) = some (some (.bool false), 1, 1) := by kernel_rfl
theorem strInfo : (Tryz.prog.info? 9).map (fun i => (i.zero, i.size, i.bytes)) = some (some (.string ByteArray.empty), 1, 16) := by kernel_rfl
end Go.Proofs.YtefdipjhjgmokaaGreatDoor

set_option linter.unusedVariables false
set_option linter.unusedSimpArgs false
namespace Go.Proofs.YtefdipjhjgmokaaGreatDoor
open Go.RowKit

theorem intInfo : (Tryz.prog.info? 3).map (fun i => (i.zero, i.size, i.bytes)) = some (some (.int .i64 0), 1, 8) := by kernel_rfl
def nV (l : List Nat) : List Value := l.map fun (k : Nat) => Value.int .i64 (k : Int)
theorem nV_append (l m : List Nat) : nV (l ++ m) = nV l ++ nV m := by simp [nV]
theorem nV_length (l : List Nat) : (nV l).length = l.length := by simp [nV]
/-- numbers are handed back -/
def RetN (w : World) (l : List Nat) (e : Ending) (w' : World) : Prop := ∃ A c, e = .returned (.slice A l.length c) ∧ OR w' w.heap.size 3 A c (nV l) ∧ Below w.heap.size w w'
end Go.Proofs.YtefdipjhjgmokaaGreatDoor
