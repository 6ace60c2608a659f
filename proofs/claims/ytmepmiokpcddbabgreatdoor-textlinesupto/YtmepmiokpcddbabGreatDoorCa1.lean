/-
  Plain facts about keys, values and stores as lists (no program in it).
  Numbers as text, and texts cut at one byte, plainly (no program in it).
  Operations and transactions as lists, and their cells in memory (no program in it).
-/
import Derived.WalkKit
import Derived.WalkSpells
import Derived.Lib.ItoaMem
import Derived.Lib.AtoiAll
import Derived.Lib.SplitLaws
import Derived.Lib.Join
import Derived.Lib.LastIndexLaws
set_option linter.unusedVariables false
set_option linter.unusedSimpArgs false
namespace Go.Proofs.YtmepmiokpcddbabGreatDoor
open Go.RowKit

theorem hideP {p : Prop} (h : p) : Hid p := h
/-- a letter from a to z -/
def lowB (c : UInt8) : Bool := decide (97 ≤ (c.toNat : Int)) && decide ((c.toNat : Int) ≤ 122)
/-- a valid key -/
def keyB (s : ByteArray) : Bool := decide (1 ≤ s.size) && decide (s.size ≤ 6) && s.data.toList.all lowB
/-- a valid value -/
def valB (n : Int) : Bool := decide (-1000000000 ≤ n) && decide (n ≤ 1000000000)

theorem ret_int {k : IntKind} {a b : Int} (h : a = b) : Ending.returned (.int k a) = .returned (.int k b) := by rw [h]
theorem ret_bool {a b : Bool} (h : a = b) : Ending.returned (.bool a) = .returned (.bool b) := by rw [h]
theorem ret_ib {a b : Int} {x y : Bool} (h : a = b) (k : x = y) : Ending.returned (.tuple #[.int .i64 a, .bool x]) = .returned (.tuple #[.int .i64 b, .bool y]) := by rw [h, k]
theorem take_snoc (s : ByteArray) (k : Nat) (h : k < s.size) : s.data.toList.take (k + 1) = s.data.toList.take k ++ [s[k]] := by
  rw [List.take_succ_eq_append_getElem (by simpa using h)]; rfl
theorem cell_lt {w : World} {a : Addr} {v : Value} (h : w.cell? a = some v) : a.block < w.heap.size := by
  rcases Nat.lt_or_ge a.block w.heap.size with hl | hl
  · exact hl
  · simp [World.cell?, hl] at h
/-- byte order -/
def ltB (a b : ByteArray) : Bool := Op.bytesLess a.toList b.toList
def leB (a b : ByteArray) : Bool := Op.bytesLess a.toList b.toList || a.toList == b.toList
/-- a pair: a key and its value -/
abbrev Pr := ByteArray × Int
/-- what Check answers, from a preceding key on -/
def chk (before : ByteArray) : List Pr → Int
  | [] => 0
  | p :: r => if keyB p.1 = false then 3 else if valB p.2 = false then 1 else if p.2 = 0 then 1 else if leB p.1 before = true then 3 else chk p.1 r
/-- a slice's cells read as a list of pairs; they lie below block B -/
def PS (w : World) (B : Nat) (A : Option Addr) (l : List Pr) : Prop :=
  ∀ i p, l[i]? = some p → ∃ b o, A = some ⟨b, o, none⟩ ∧ b < B ∧ w.cell? ⟨b, o + i * 2, none⟩ = some (.string p.1) ∧ w.cell? ⟨b, o + i * 2 + 1, none⟩ = some (.int .i64 p.2)
theorem PS.below {w w' : World} {B : Nat} {A : Option Addr} {l : List Pr} (h : PS w B A l) (hb : Below B w w') : PS w' B A l := fun i p hp => by
  obtain ⟨b, o, e, hlt, h1, h2⟩ := h i p hp
  exact ⟨b, o, e, hlt, (hb.cell hlt).trans h1, (hb.cell hlt).trans h2⟩
theorem PS.more {w : World} {B B' : Nat} {A : Option Addr} {l : List Pr} (h : PS w B A l) (hB : B ≤ B') : PS w B' A l := fun i p hp => by
  obtain ⟨b, o, e, hlt, h1, h2⟩ := h i p hp
  exact ⟨b, o, e, by omega, h1, h2⟩
theorem PS.nil {w : World} {B : Nat} {A : Option Addr} : PS w B A [] := fun i p hp => by simp at hp
section
variable {bf : ByteArray} {l : List Pr} {k : Nat} {p : Pr} (h : k < l.length) (hp : l[k] = p)
include hp
theorem chk_key (h1 : keyB p.1 = false) : chk bf (l.drop k) = 3 := by rw [List.drop_eq_getElem_cons h, hp]; simp [chk, h1]
theorem chk_val (h1 : keyB p.1 = true) (h2 : valB p.2 = false) : chk bf (l.drop k) = 1 := by rw [List.drop_eq_getElem_cons h, hp]; simp [chk, h1, h2]
theorem chk_zero (h1 : keyB p.1 = true) (h2 : valB p.2 = true) (h3 : p.2 = 0) : chk bf (l.drop k) = 1 := by rw [List.drop_eq_getElem_cons h, hp]; simp [chk, h1, h2, h3]
theorem chk_ord (h1 : keyB p.1 = true) (h2 : valB p.2 = true) (h3 : ¬ p.2 = 0) (h4 : leB p.1 bf = true) : chk bf (l.drop k) = 3 := by rw [List.drop_eq_getElem_cons h, hp]; simp [chk, h1, h2, h3, h4]
theorem chk_next (h1 : keyB p.1 = true) (h2 : valB p.2 = true) (h3 : ¬ p.2 = 0) (h4 : leB p.1 bf = false) : chk bf (l.drop k) = chk p.1 (l.drop (k + 1)) := by rw [List.drop_eq_getElem_cons h, hp]; simp [chk, h1, h2, h3, h4]
end
theorem keyB_no {s : ByteArray} {x : UInt8} (hx : x ∈ s.data.toList) (h : lowB x = false) : keyB s = false := by
  have : s.data.toList.all lowB = false := by
    rw [List.all_eq_false]; exact ⟨x, hx, by simp [h]⟩
  simp [keyB, this]
end Go.Proofs.YtmepmiokpcddbabGreatDoor

set_option linter.unusedVariables false
set_option linter.unusedSimpArgs false
namespace Go.Proofs.YtmepmiokpcddbabGreatDoor
open Go.Lib

theorem parse_app (l r : List UInt8) : ∀ acc, parseUint10 acc (l ++ r) = match parseUint10 acc l with | .ok a => parseUint10 a r | e => e := by
  induction l with
  | nil => intro acc; rfl
  | cons c l ih =>
    intro acc
    simp only [List.cons_append, parseUint10]
    by_cases h1 : 48 ≤ c.toNat ∧ c.toNat ≤ 57
    · rw [if_pos h1, if_pos h1]
      by_cases h2 : 1844674407370955162 ≤ acc
      · rw [if_pos h2, if_pos h2]
      · rw [if_neg h2, if_neg h2]
        by_cases h3 : 18446744073709551616 ≤ acc * 10 + (c.toNat - 48)
        · rw [if_pos h3, if_pos h3]
        · rw [if_neg h3, if_neg h3]; exact ih _
    · rw [if_neg h1, if_neg h1]
theorem dig_nat {d : Nat} (h : d < 10) : (UInt8.ofNat (48 + d)).toNat = 48 + d := by
  rw [UInt8.toNat_ofNat']; omega
theorem parse_dec (u : Nat) (h : u < 18446744073709551616) : parseUint10 0 (decDigits u) = .ok u := by
  induction u using Nat.strongRecOn with
  | _ u ih =>
    by_cases h1 : u < 10
    · rw [decDigits, dif_pos h1]
      simp only [parseUint10, dig_nat h1]
      rw [if_pos (by omega), if_neg (by omega), if_neg (by omega)]
      congr 1; omega
    · rw [decDigits, dif_neg h1, parse_app, ih (u / 10) (by omega) (by omega)]
      have h2 : u % 10 < 10 := by omega
      simp only [parseUint10, dig_nat h2]
      rw [if_pos (by omega), if_neg (by omega), if_neg (by omega)]
      congr 1; omega
theorem dec_ne (u : Nat) : decDigits u ≠ [] := fun h => by
  have := decDigits_length u
  have := nDigits_pos u
  rw [h] at *
  simp at *
  omega
theorem dec_dig (u : Nat) : ∀ c ∈ decDigits u, 48 ≤ c.toNat ∧ c.toNat ≤ 57 := by
  induction u using Nat.strongRecOn with
  | _ u ih =>
    by_cases h1 : u < 10
    · rw [decDigits, dif_pos h1]
      intro c hc
      rw [List.mem_singleton] at hc
      subst hc
      rw [dig_nat h1]; omega
    · rw [decDigits, dif_neg h1]
      intro c hc
      rcases List.mem_append.1 hc with hc | hc
      · exact ih (u / 10) (by omega) c hc
      · rw [List.mem_singleton] at hc
        subst hc
        rw [dig_nat (by omega)]; omega
theorem nDigits_le (k u : Nat) (hk : 1 ≤ k) (h : u < 10 ^ k) : nDigits u ≤ k := by
  induction k generalizing u with
  | zero => omega
  | succ k ih =>
    by_cases h1 : u < 10
    · rw [nDigits_small h1]; omega
    · rw [nDigits_big h1]
      rw [Nat.pow_succ] at h
      have hk1 : 1 ≤ k := by
        rcases Nat.eq_zero_or_pos k with rfl | hp
        · simp at h; omega
        · exact hp
      have := ih (u / 10) hk1 (by omega)
      omega
/-- a byte of a number -/
def numC (c : UInt8) : Prop := c.toNat = 45 ∨ 48 ≤ c.toNat ∧ c.toNat ≤ 57
theorem itoa_num (n : Int) : ∀ c ∈ itoa n, numC c := by
  intro c hc
  unfold itoa at hc
  split at hc
  · rcases List.mem_cons.1 hc with rfl | hc
    · exact .inl rfl
    · exact .inr (dec_dig _ c hc)
  · exact .inr (dec_dig _ c hc)
theorem itoa_ne (n : Int) : itoa n ≠ [] := by
  unfold itoa
  split
  · simp
  · exact dec_ne _
theorem atoi_itoa {n : Int} (h0 : -9223372036854775808 ≤ n) (h1 : n ≤ 9223372036854775807) : atoiAll (itoa n) = .ok n := by
  unfold itoa
  split
  · next hn =>
    simp only [atoiAll]
    have e : (45 : UInt8).toNat = 45 := rfl
    rw [if_pos (.inr e)]
    have h2 : parseMag (decDigits n.natAbs) = .ok n.natAbs := by
      unfold parseMag; rw [if_neg (dec_ne _)]; exact parse_dec _ (by omega)
    rw [h2]
    simp only [e, not_true_eq_false, false_and, if_false, true_and, if_true]
    rw [if_neg (by omega)]
    congr 1; omega
  · next hn =>
    have h2 : parseMag (decDigits n.toNat) = .ok n.toNat := by
      unfold parseMag; rw [if_neg (dec_ne _)]; exact parse_dec _ (by omega)
    cases hd : decDigits n.toNat with
    | nil => exact absurd hd (dec_ne _)
    | cons c r =>
      have hc := dec_dig n.toNat c (by rw [hd]; exact List.mem_cons_self)
      simp only [atoiAll]
      rw [if_neg (by omega), ← hd, h2]
      have e : ¬ c.toNat = 45 := by omega
      simp only [e, not_false_eq_true, true_and, false_and, if_false]
      rw [if_neg (by omega)]
      congr 1; omega
/-- a number as text, of at most 11 bytes -/
def rdN (l : List UInt8) : Option Int := if 11 < l.length then none else match atoiAll l with
  | .ok v => if itoa v = l then some v else none
  | _ => none
theorem rdN_some {l : List UInt8} {n : Int} (h : rdN l = some n) : itoa n = l ∧ l.length ≤ 11 := by
  unfold rdN at h
  split at h
  · cases h
  · split at h
    · split at h
      · injection h with h; subst h; exact ⟨by assumption, by omega⟩
      · cases h
    · cases h
theorem rdN_itoa {n : Int} (h0 : -9223372036854775808 ≤ n) (h1 : n ≤ 9223372036854775807) (h : (itoa n).length ≤ 11) : rdN (itoa n) = some n := by
  unfold rdN
  rw [if_neg (by omega), atoi_itoa h0 h1]
  simp
theorem itoa_short {n : Int} (h0 : -9999999999 ≤ n) (h1 : n ≤ 9999999999) : (itoa n).length ≤ 11 := by
  unfold itoa
  split
  · rw [List.length_cons, decDigits_length]
    have := nDigits_le 10 n.natAbs (by decide) (by omega)
    omega
  · rw [decDigits_length]
    have := nDigits_le 10 n.toNat (by decide) (by omega)
    omega
theorem rdN_val {n : Int} (h : valB n = true) : rdN (itoa n) = some n := by
  simp [valB] at h
  exact rdN_itoa (by omega) (by omega) (itoa_short (by omega) (by omega))
theorem rdN_own {n : Int} (h0 : 0 ≤ n) (h1 : n ≤ 65521) : rdN (itoa n) = some n := rdN_itoa (by omega) (by omega) (itoa_short (by omega) (by omega))
theorem itoa_inj {a b : Int} (h0 : -9223372036854775808 ≤ a) (h1 : a ≤ 9223372036854775807) (h2 : -9223372036854775808 ≤ b) (h3 : b ≤ 9223372036854775807) (h : itoa a = itoa b) : a = b := by
  have e1 := atoi_itoa h0 h1
  rw [h, atoi_itoa h2 h3] at e1
  injection e1 with e1
  exact e1.symm

/-! cut at a byte -/
def spl (c : UInt8) : List UInt8 → List (List UInt8)
  | [] => [[]]
  | b :: l => if b = c then [] :: spl c l else match spl c l with
    | [] => [[b]]
    | x :: r => (b :: x) :: r
theorem spl_no {c : UInt8} {l : List UInt8} (h : c ∉ l) : spl c l = [l] := by
  induction l with
  | nil => rfl
  | cons b l ih =>
    simp only [List.mem_cons, not_or] at h
    rw [spl, if_neg (fun e => h.1 e.symm), ih h.2]
theorem spl_hit {c : UInt8} {a r : List UInt8} (h : c ∉ a) : spl c (a ++ c :: r) = a :: spl c r := by
  induction a with
  | nil => simp [spl]
  | cons b l ih =>
    simp only [List.mem_cons, not_or] at h
    rw [List.cons_append, spl, if_neg (fun e => h.1 e.symm), ih h.2]
theorem spl_ne (c : UInt8) (l : List UInt8) : spl c l ≠ [] := by
  cases l with
  | nil => simp [spl]
  | cons b l =>
    rw [spl]
    split
    · simp
    · split <;> simp
theorem at_byte (c : UInt8) (l : List UInt8) : c ∉ l ∨ ∃ a r, l = a ++ c :: r ∧ c ∉ a := by
  by_cases h : c ∈ l
  · exact .inr (List.eq_append_cons_of_mem h)
  · exact .inl h
theorem joinTail_cons (sep x : List UInt8) (r : List (List UInt8)) : joinTail sep (x :: r) = sep ++ x ++ joinTail sep r := by simp [joinTail]
theorem join_two (x y : List UInt8) (r : List (List UInt8)) (c : UInt8) : join (x :: y :: r) [c] = x ++ c :: join (y :: r) [c] := by
  rw [join_cons, join_cons, joinTail_cons]; simp
theorem join_spl (c : UInt8) (l : List UInt8) : join (spl c l) [c] = l := by
  induction h : l.length using Nat.strongRecOn generalizing l with
  | _ n ih =>
    rcases at_byte c l with hn | ⟨a, r, rfl, ha⟩
    · rw [spl_no hn, join_one]
    · rw [spl_hit ha]
      have := ih r.length (by rw [← h]; simp; omega) r rfl
      cases e : spl c r with
      | nil => exact absurd e (spl_ne c r)
      | cons y q => rw [join_two, ← e, this]
theorem spl_join {c : UInt8} : ∀ {xs : List (List UInt8)}, xs ≠ [] → (∀ x ∈ xs, c ∉ x) → spl c (join xs [c]) = xs
  | [], h, _ => absurd rfl h
  | [x], _, h => by rw [join_one]; exact spl_no (h x (by simp))
  | x :: y :: r, _, h => by
    rw [join_two, spl_hit (h x (by simp)), spl_join (by simp) (fun z hz => h z (List.mem_cons_of_mem _ hz))]
theorem join_has {c d : UInt8} : ∀ {xs : List (List UInt8)}, c ≠ d → (∀ x ∈ xs, c ∉ x) → c ∉ join xs [d]
  | [], _, _ => by rw [join_nil]; simp
  | [x], _, h => by rw [join_one]; exact h x (by simp)
  | x :: y :: r, hd, h => by
    rw [join_two]
    simp only [List.mem_append, List.mem_cons, not_or]
    exact ⟨h x (by simp), hd, join_has hd (fun z hz => h z (List.mem_cons_of_mem _ hz))⟩
theorem index_no {c : UInt8} {l : List UInt8} (h : c ∉ l) : index l [c] = -1 := by
  induction l with
  | nil => rfl
  | cons b l ih =>
    simp only [List.mem_cons, not_or] at h
    have e : (c == b) = false := by simpa using h.1
    simp [index, e, ih h.2, h.1]
theorem index_hit {c : UInt8} {a r : List UInt8} (h : c ∉ a) : index (a ++ c :: r) [c] = a.length := by
  induction a with
  | nil => simp [index]
  | cons b l ih =>
    simp only [List.mem_cons, not_or] at h
    have e : (c == b) = false := by simpa using h.1
    simp only [List.cons_append, index, ih h.2]
    have e2 : ([c] : List UInt8).isPrefixOf (b :: (l ++ c :: r)) = false := by simp [List.isPrefixOf, e]
    rw [e2, if_neg (by simp), if_neg (by rw [beq_iff_eq]; omega)]
    simp
theorem cut_no {c : UInt8} {l : List UInt8} (h : c ∉ l) : cut l [c] = (l, [], false) := by
  unfold cut; rw [index_no h]; rfl
theorem cut_hit {c : UInt8} {a r : List UInt8} (h : c ∉ a) : cut (a ++ c :: r) [c] = (a, r, true) := by
  unfold cut; rw [index_hit h]; simp
theorem split_spl (c : UInt8) (l : List UInt8) : splitK [c] 0 (count l [c]) l = spl c l := by
  induction h : l.length using Nat.strongRecOn generalizing l with
  | _ n ih =>
    rcases at_byte c l with hn | ⟨a, r, rfl, ha⟩
    · rw [spl_no hn, count_one, List.count_eq_zero_of_not_mem hn]; rfl
    · have e1 : count (a ++ c :: r) [c] = count r [c] + 1 := by
        rw [count_one, count_one, List.count_append, List.count_eq_zero_of_not_mem ha, List.count_cons_self]; omega
      rw [spl_hit ha, e1, splitK, index_hit ha, if_neg (by rw [beq_iff_eq]; omega), ← ih r.length (by rw [← h]; simp; omega) r rfl]
      simp
/-- the pieces as strings -/
def splB (c : UInt8) (s : ByteArray) : List ByteArray := splitB ⟨#[c]⟩ 0 (countB s ⟨#[c]⟩) s
theorem splB_data (c : UInt8) (s : ByteArray) : (splB c s).map (·.data.toList) = spl c s.data.toList := by
  unfold splB; rw [splitB_data]; exact split_spl c _
theorem splB_len (c : UInt8) (s : ByteArray) : (splB c s).length = countB s ⟨#[c]⟩ + 1 := splitB_all ⟨#[c]⟩ (Nat.le_refl 1) 0 _ s rfl
theorem ba_ext {a b : ByteArray} (h : a.data.toList = b.data.toList) : a = b := by
  cases a with | mk a => cases b with | mk b => simp at h; rw [h]
theorem ba_mk (a : ByteArray) : (⟨a.data.toList.toArray⟩ : ByteArray) = a := ba_ext (by simp)
end Go.Proofs.YtmepmiokpcddbabGreatDoor

set_option linter.unusedVariables false
set_option linter.unusedSimpArgs false
namespace Go.Proofs.YtmepmiokpcddbabGreatDoor
open Go.RowKit

/-- an operation -/
structure Opr where
  kind : Int
  key : ByteArray
  src : ByteArray
  n : Int
/-- its value -/
def opV (o : Opr) : Value := .agg #[.int .i64 o.kind, .string o.key, .string o.src, .int .i64 o.n]
/-- what the check of an operation answers -/
def chkO (o : Opr) : Int :=
  if o.kind < 1 then 3 else if 5 < o.kind then 3 else if keyB o.key = false then 3
  else if (o.kind = 3 ∨ o.kind = 5) ∧ keyB o.src = false then 3
  else if (o.kind = 3 ∨ o.kind = 5) ∧ o.src = o.key then 3
  else if o.kind ≠ 3 ∧ valB o.n = false then 1 else if o.kind = 5 ∧ o.n < 0 then 1 else 0
/-- the first error of a list of operations -/
def chkOs : List Opr → Int
  | [] => 0
  | o :: r => if chkO o = 0 then chkOs r else chkO o
/-- what Check answers -/
def chkD (l : List Opr) : Int := if l.length < 1 then 2 else if 8 < l.length then 2 else chkOs l
/-- a slice's cells read as a list of operations; they lie below block B -/
def OS (w : World) (B : Nat) (A : Option Addr) (l : List Opr) : Prop :=
  ∀ i p, l[i]? = some p → ∃ b o, A = some ⟨b, o, none⟩ ∧ b < B ∧ w.cell? ⟨b, o + i * 4, none⟩ = some (.int .i64 p.kind) ∧ w.cell? ⟨b, o + i * 4 + 1, none⟩ = some (.string p.key) ∧
    w.cell? ⟨b, o + i * 4 + 2, none⟩ = some (.string p.src) ∧ w.cell? ⟨b, o + i * 4 + 3, none⟩ = some (.int .i64 p.n)
theorem OS.below {w w' : World} {B : Nat} {A : Option Addr} {l : List Opr} (h : OS w B A l) (hb : Below B w w') : OS w' B A l := fun i p hp => by
  obtain ⟨b, o, e, hlt, h1, h2, h3, h4⟩ := h i p hp
  exact ⟨b, o, e, hlt, (hb.cell hlt).trans h1, (hb.cell hlt).trans h2, (hb.cell hlt).trans h3, (hb.cell hlt).trans h4⟩
theorem OS.more {w : World} {B B' : Nat} {A : Option Addr} {l : List Opr} (h : OS w B A l) (hB : B ≤ B') : OS w B' A l := fun i p hp => by
  obtain ⟨b, o, e, hlt, h1⟩ := h i p hp
  exact ⟨b, o, e, by omega, h1⟩
theorem OS.go {w w' : World} {A : Option Addr} {l : List Opr} (h : OS w w.heap.size A l) (hb : Below w.heap.size w w') : OS w' w'.heap.size A l := (h.below hb).more hb.size
theorem OS.nil {w : World} {B : Nat} {A : Option Addr} : OS w B A [] := fun i p hp => by simp at hp
theorem chkOs_next {l : List Opr} {k : Nat} (h : k < l.length) : chkOs (l.drop k) = if chkO l[k] = 0 then chkOs (l.drop (k + 1)) else chkO l[k] := by
  rw [List.drop_eq_getElem_cons h]; rfl
theorem chkOs_zero {l : List Opr} : chkOs l = 0 ↔ ∀ o ∈ l, chkO o = 0 := by
  induction l with
  | nil => simp [chkOs]
  | cons o r ih =>
    by_cases h : chkO o = 0
    · simp [chkOs, h, ih]
    · simp [chkOs, h]
theorem chkD_zero {l : List Opr} : chkD l = 0 ↔ 1 ≤ l.length ∧ l.length ≤ 8 ∧ ∀ o ∈ l, chkO o = 0 := by
  unfold chkD
  by_cases h1 : l.length < 1
  · rw [if_pos h1]; exact ⟨fun h => absurd h (by decide), fun h => by omega⟩
  rw [if_neg h1]
  by_cases h2 : 8 < l.length
  · rw [if_pos h2]; exact ⟨fun h => absurd h (by decide), fun h => by omega⟩
  rw [if_neg h2, chkOs_zero]
  exact ⟨fun h => ⟨by omega, by omega, h⟩, fun h => h.2.2⟩
/-- what a valid operation is -/
theorem chkO_zero {o : Opr} : chkO o = 0 ↔ 1 ≤ o.kind ∧ o.kind ≤ 5 ∧ keyB o.key = true ∧ (o.kind = 3 ∨ o.kind = 5 → keyB o.src = true ∧ o.src ≠ o.key) ∧ (o.kind ≠ 3 → valB o.n = true) ∧ (o.kind = 5 → 0 ≤ o.n) := by
  unfold chkO
  by_cases h1 : o.kind < 1
  · rw [if_pos h1]; exact ⟨fun h => absurd h (by decide), fun h => by omega⟩
  rw [if_neg h1]
  by_cases h2 : 5 < o.kind
  · rw [if_pos h2]; exact ⟨fun h => absurd h (by decide), fun h => by omega⟩
  rw [if_neg h2]
  by_cases h3 : keyB o.key = false
  · rw [if_pos h3]; exact ⟨fun h => absurd h (by decide), fun h => by rw [h.2.2.1] at h3; cases h3⟩
  rw [if_neg h3]
  by_cases h4 : (o.kind = 3 ∨ o.kind = 5) ∧ keyB o.src = false
  · rw [if_pos h4]; exact ⟨fun h => absurd h (by decide), fun h => by have := h4.2; rw [(h.2.2.2.1 h4.1).1] at this; cases this⟩
  rw [if_neg h4]
  by_cases h5 : (o.kind = 3 ∨ o.kind = 5) ∧ o.src = o.key
  · rw [if_pos h5]; exact ⟨fun h => absurd h (by decide), fun h => absurd h5.2 (h.2.2.2.1 h5.1).2⟩
  rw [if_neg h5]
  by_cases h6 : o.kind ≠ 3 ∧ valB o.n = false
  · rw [if_pos h6]; exact ⟨fun h => absurd h (by decide), fun h => by have := h6.2; rw [h.2.2.2.2.1 h6.1] at this; cases this⟩
  rw [if_neg h6]
  by_cases h7 : o.kind = 5 ∧ o.n < 0
  · rw [if_pos h7]; exact ⟨fun h => absurd h (by decide), fun h => by have := h.2.2.2.2.2 h7.1; omega⟩
  rw [if_neg h7]
  refine ⟨fun _ => ⟨by omega, by omega, by simpa using h3, fun hk => ⟨?_, ?_⟩, fun hk => ?_, fun hk => ?_⟩, fun _ => rfl⟩
  · cases hs : keyB o.src
    · exact absurd ⟨hk, hs⟩ h4
    · rfl
  · exact fun e => h5 ⟨hk, e⟩
  · cases hs : valB o.n
    · exact absurd ⟨hk, hs⟩ h6
    · rfl
  · exact Int.not_lt.1 fun e => h7 ⟨hk, e⟩
theorem bytes_ne {a b : ByteArray} (h : a ≠ b) : (a.toList == b.toList) = false := by
  rw [beq_eq_false_iff_ne]; intro e; rw [ByteArray.toList_eq, ByteArray.toList_eq] at e
  refine h ?_
  cases a with | mk a => cases b with | mk b => simp at e; rw [e]
end Go.Proofs.YtmepmiokpcddbabGreatDoor
