/-
  Plain facts about keys, values and stores as lists (no program in it).
-/
import Derived.WalkKit
import Derived.WalkSpells
set_option linter.unusedVariables false
set_option linter.unusedSimpArgs false
namespace Go.Proofs.YtcjfkbponikadaaGreatDoor
open Go.RowKit

theorem hideP {p : Prop} (h : p) : Hid p := h
/-- a letter from a to z -/
def lowB (c : UInt8) : Bool := decide (97 ≤ (c.toNat : Int)) && decide ((c.toNat : Int) ≤ 122)
/-- a valid key -/
def keyB (s : ByteArray) : Bool := decide (1 ≤ s.size) && decide (s.size ≤ 6) && s.data.toList.all lowB
/-- a valid value -/
def valB (n : Int) : Bool := decide (-1000000000 ≤ n) && decide (n ≤ 1000000000)

theorem ret_int {k : IntKind} {a b : Int} (h : a = b) : Ending.returned (.int k a) = .returned (.int k b) := by rw [h]
theorem ret_bool {a b : Bool} (h : a = b) : Ending.returned (.bool a) = .returned (.bool b) := by rw [h]
theorem ret_ib {a b : Int} {x y : Bool} (h : a = b) (k : x = y) : Ending.returned (.tuple #[.int .i64 a, .bool x]) = .returned (.tuple #[.int .i64 b, .bool y]) := by rw [h, k]
theorem take_snoc (s : ByteArray) (k : Nat) (h : k < s.size) : s.data.toList.take (k + 1) = s.data.toList.take k ++ [s[k]] := by
  rw [List.take_succ_eq_append_getElem (by simpa using h)]; rfl
theorem cell_lt {w : World} {a : Addr} {v : Value} (h : w.cell? a = some v) : a.block < w.heap.size := by
  rcases Nat.lt_or_ge a.block w.heap.size with hl | hl
  · exact hl
  · simp [World.cell?, hl] at h
/-- byte order -/
def ltB (a b : ByteArray) : Bool := Op.bytesLess a.toList b.toList
def leB (a b : ByteArray) : Bool := Op.bytesLess a.toList b.toList || a.toList == b.toList
/-- a pair: a key and its value -/
abbrev Pr := ByteArray × Int
/-- what Check answers, from a preceding key on -/
def chk (before : ByteArray) : List Pr → Int
  | [] => 0
  | p :: r => if keyB p.1 = false then 3 else if valB p.2 = false then 1 else if p.2 = 0 then 1 else if leB p.1 before = true then 3 else chk p.1 r
/-- a slice's cells read as a list of pairs; they lie below block B -/
def PS (w : World) (B : Nat) (A : Option Addr) (l : List Pr) : Prop :=
  ∀ i p, l[i]? = some p → ∃ b o, A = some ⟨b, o, none⟩ ∧ b < B ∧ w.cell? ⟨b, o + i * 2, none⟩ = some (.string p.1) ∧ w.cell? ⟨b, o + i * 2 + 1, none⟩ = some (.int .i64 p.2)
theorem PS.below {w w' : World} {B : Nat} {A : Option Addr} {l : List Pr} (h : PS w B A l) (hb : Below B w w') : PS w' B A l := fun i p hp => by
  obtain ⟨b, o, e, hlt, h1, h2⟩ := h i p hp
  exact ⟨b, o, e, hlt, (hb.cell hlt).trans h1, (hb.cell hlt).trans h2⟩
theorem PS.more {w : World} {B B' : Nat} {A : Option Addr} {l : List Pr} (h : PS w B A l) (hB : B ≤ B') : PS w B' A l := fun i p hp => by
  obtain ⟨b, o, e, hlt, h1, h2⟩ := h i p hp
  exact ⟨b, o, e, by omega, h1, h2⟩
theorem PS.nil {w : World} {B : Nat} {A : Option Addr} : PS w B A [] := fun i p hp => by simp at hp
section
variable {bf : ByteArray} {l : List Pr} {k : Nat} {p : Pr} (h : k < l.length) (hp : l[k] = p)
include hp
theorem chk_key (h1 : keyB p.1 = false) : chk bf (l.drop k) = 3 := by rw [List.drop_eq_getElem_cons h, hp]; simp [chk, h1]
theorem chk_val (h1 : keyB p.1 = true) (h2 : valB p.2 = false) : chk bf (l.drop k) = 1 := by rw [List.drop_eq_getElem_cons h, hp]; simp [chk, h1, h2]
theorem chk_zero (h1 : keyB p.1 = true) (h2 : valB p.2 = true) (h3 : p.2 = 0) : chk bf (l.drop k) = 1 := by rw [List.drop_eq_getElem_cons h, hp]; simp [chk, h1, h2, h3]
theorem chk_ord (h1 : keyB p.1 = true) (h2 : valB p.2 = true) (h3 : ¬ p.2 = 0) (h4 : leB p.1 bf = true) : chk bf (l.drop k) = 3 := by rw [List.drop_eq_getElem_cons h, hp]; simp [chk, h1, h2, h3, h4]
theorem chk_next (h1 : keyB p.1 = true) (h2 : valB p.2 = true) (h3 : ¬ p.2 = 0) (h4 : leB p.1 bf = false) : chk bf (l.drop k) = chk p.1 (l.drop (k + 1)) := by rw [List.drop_eq_getElem_cons h, hp]; simp [chk, h1, h2, h3, h4]
end
theorem keyB_no {s : ByteArray} {x : UInt8} (hx : x ∈ s.data.toList) (h : lowB x = false) : keyB s = false := by
  have : s.data.toList.all lowB = false := by
    rw [List.all_eq_false]; exact ⟨x, hx, by simp [h]⟩
  simp [keyB, this]
end Go.Proofs.YtcjfkbponikadaaGreatDoor
