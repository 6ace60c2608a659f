/-
  Operations and transactions as lists, and their cells in memory (no program in it).
  Transactions as text, plainly (no program in it).
-/
import Derived.Test.YtcjfkbponikadaaGreatDoorBt2
import Derived.Lib.IndexAny
set_option linter.unusedVariables false
set_option linter.unusedSimpArgs false
namespace Go.Proofs.YtcjfkbponikadaaGreatDoor
open Go.RowKit

/-- an operation -/
structure Opr where
  kind : Int
  key : ByteArray
  src : ByteArray
  n : Int
/-- its value -/
def opV (o : Opr) : Value := .agg #[.int .i64 o.kind, .string o.key, .string o.src, .int .i64 o.n]
/-- what the check of an operation answers -/
def chkO (o : Opr) : Int :=
  if o.kind < 1 then 3 else if 5 < o.kind then 3 else if keyB o.key = false then 3
  else if (o.kind = 3 ∨ o.kind = 5) ∧ keyB o.src = false then 3
  else if (o.kind = 3 ∨ o.kind = 5) ∧ o.src = o.key then 3
  else if o.kind ≠ 3 ∧ valB o.n = false then 1 else if o.kind = 5 ∧ o.n < 0 then 1 else 0
/-- the first error of a list of operations -/
def chkOs : List Opr → Int
  | [] => 0
  | o :: r => if chkO o = 0 then chkOs r else chkO o
/-- what Check answers -/
def chkD (l : List Opr) : Int := if l.length < 1 then 2 else if 8 < l.length then 2 else chkOs l
/-- a slice's cells read as a list of operations; they lie below block B -/
def OS (w : World) (B : Nat) (A : Option Addr) (l : List Opr) : Prop :=
  ∀ i p, l[i]? = some p → ∃ b o, A = some ⟨b, o, none⟩ ∧ b < B ∧ w.cell? ⟨b, o + i * 4, none⟩ = some (.int .i64 p.kind) ∧ w.cell? ⟨b, o + i * 4 + 1, none⟩ = some (.string p.key) ∧
    w.cell? ⟨b, o + i * 4 + 2, none⟩ = some (.string p.src) ∧ w.cell? ⟨b, o + i * 4 + 3, none⟩ = some (.int .i64 p.n)
theorem OS.below {w w' : World} {B : Nat} {A : Option Addr} {l : List Opr} (h : OS w B A l) (hb : Below B w w') : OS w' B A l := fun i p hp => by
  obtain ⟨b, o, e, hlt, h1, h2, h3, h4⟩ := h i p hp
  exact ⟨b, o, e, hlt, (hb.cell hlt).trans h1, (hb.cell hlt).trans h2, (hb.cell hlt).trans h3, (hb.cell hlt).trans h4⟩
theorem OS.more {w : World} {B B' : Nat} {A : Option Addr} {l : List Opr} (h : OS w B A l) (hB : B ≤ B') : OS w B' A l := fun i p hp => by
  obtain ⟨b, o, e, hlt, h1⟩ := h i p hp
  exact ⟨b, o, e, by omega, h1⟩
theorem OS.go {w w' : World} {A : Option Addr} {l : List Opr} (h : OS w w.heap.size A l) (hb : Below w.heap.size w w') : OS w' w'.heap.size A l := (h.below hb).more hb.size
theorem OS.nil {w : World} {B : Nat} {A : Option Addr} : OS w B A [] := fun i p hp => by simp at hp
theorem chkOs_next {l : List Opr} {k : Nat} (h : k < l.length) : chkOs (l.drop k) = if chkO l[k] = 0 then chkOs (l.drop (k + 1)) else chkO l[k] := by
  rw [List.drop_eq_getElem_cons h]; rfl
theorem chkOs_zero {l : List Opr} : chkOs l = 0 ↔ ∀ o ∈ l, chkO o = 0 := by
  induction l with
  | nil => simp [chkOs]
  | cons o r ih =>
    by_cases h : chkO o = 0
    · simp [chkOs, h, ih]
    · simp [chkOs, h]
theorem chkD_zero {l : List Opr} : chkD l = 0 ↔ 1 ≤ l.length ∧ l.length ≤ 8 ∧ ∀ o ∈ l, chkO o = 0 := by
  unfold chkD
  by_cases h1 : l.length < 1
  · rw [if_pos h1]; exact ⟨fun h => absurd h (by decide), fun h => by omega⟩
  rw [if_neg h1]
  by_cases h2 : 8 < l.length
  · rw [if_pos h2]; exact ⟨fun h => absurd h (by decide), fun h => by omega⟩
  rw [if_neg h2, chkOs_zero]
  exact ⟨fun h => ⟨by omega, by omega, h⟩, fun h => h.2.2⟩
/-- what a valid operation is -/
theorem chkO_zero {o : Opr} : chkO o = 0 ↔ 1 ≤ o.kind ∧ o.kind ≤ 5 ∧ keyB o.key = true ∧ (o.kind = 3 ∨ o.kind = 5 → keyB o.src = true ∧ o.src ≠ o.key) ∧ (o.kind ≠ 3 → valB o.n = true) ∧ (o.kind = 5 → 0 ≤ o.n) := by
  unfold chkO
  by_cases h1 : o.kind < 1
  · rw [if_pos h1]; exact ⟨fun h => absurd h (by decide), fun h => by omega⟩
  rw [if_neg h1]
  by_cases h2 : 5 < o.kind
  · rw [if_pos h2]; exact ⟨fun h => absurd h (by decide), fun h => by omega⟩
  rw [if_neg h2]
  by_cases h3 : keyB o.key = false
  · rw [if_pos h3]; exact ⟨fun h => absurd h (by decide), fun h => by rw [h.2.2.1] at h3; cases h3⟩
  rw [if_neg h3]
  by_cases h4 : (o.kind = 3 ∨ o.kind = 5) ∧ keyB o.src = false
  · rw [if_pos h4]; exact ⟨fun h => absurd h (by decide), fun h => by have := h4.2; rw [(h.2.2.2.1 h4.1).1] at this; cases this⟩
  rw [if_neg h4]
  by_cases h5 : (o.kind = 3 ∨ o.kind = 5) ∧ o.src = o.key
  · rw [if_pos h5]; exact ⟨fun h => absurd h (by decide), fun h => absurd h5.2 (h.2.2.2.1 h5.1).2⟩
  rw [if_neg h5]
  by_cases h6 : o.kind ≠ 3 ∧ valB o.n = false
  · rw [if_pos h6]; exact ⟨fun h => absurd h (by decide), fun h => by have := h6.2; rw [h.2.2.2.2.1 h6.1] at this; cases this⟩
  rw [if_neg h6]
  by_cases h7 : o.kind = 5 ∧ o.n < 0
  · rw [if_pos h7]; exact ⟨fun h => absurd h (by decide), fun h => by have := h.2.2.2.2.2 h7.1; omega⟩
  rw [if_neg h7]
  refine ⟨fun _ => ⟨by omega, by omega, by simpa using h3, fun hk => ⟨?_, ?_⟩, fun hk => ?_, fun hk => ?_⟩, fun _ => rfl⟩
  · cases hs : keyB o.src
    · exact absurd ⟨hk, hs⟩ h4
    · rfl
  · exact fun e => h5 ⟨hk, e⟩
  · cases hs : valB o.n
    · exact absurd ⟨hk, hs⟩ h6
    · rfl
  · exact Int.not_lt.1 fun e => h7 ⟨hk, e⟩
theorem bytes_ne {a b : ByteArray} (h : a ≠ b) : (a.toList == b.toList) = false := by
  rw [beq_eq_false_iff_ne]; intro e; rw [ByteArray.toList_eq, ByteArray.toList_eq] at e
  refine h ?_
  cases a with | mk a => cases b with | mk b => simp at e; rw [e]
end Go.Proofs.YtcjfkbponikadaaGreatDoor

set_option linter.unusedVariables false
set_option linter.unusedSimpArgs false
namespace Go.Proofs.YtcjfkbponikadaaGreatDoor
open Go.Lib

/-- = + < ? -/
def signs : List UInt8 := [61, 43, 60, 63]
/-- cut at the first sign -/
def sgn : List UInt8 → Option (List UInt8 × UInt8 × List UInt8)
  | [] => none
  | b :: l => if signs.contains b then some ([], b, l) else (sgn l).map fun x => (b :: x.1, x.2.1, x.2.2)
theorem sgn_no {l : List UInt8} (h : sgn l = none) : indexAny l signs = -1 := by
  induction l with
  | nil => rfl
  | cons b l ih =>
    rw [sgn] at h
    split at h
    · cases h
    · next hb => rw [indexAny, if_neg hb, ih (by simpa using h)]; rfl
theorem sgn_at {l k r : List UInt8} {c : UInt8} (h : sgn l = some (k, c, r)) : l = k ++ c :: r ∧ signs.contains c = true ∧ (∀ b ∈ k, signs.contains b = false) ∧ indexAny l signs = k.length := by
  induction l generalizing k c r with
  | nil => cases h
  | cons b l ih =>
    rw [sgn] at h
    split at h
    · next hb =>
      injection h with h
      injection h with h1 h2
      injection h2 with h2 h3
      subst h1; subst h2; subst h3
      exact ⟨rfl, hb, by simp, by rw [indexAny, if_pos hb]; rfl⟩
    · next hb =>
      cases e : sgn l with
      | none => rw [e] at h; cases h
      | some x =>
        obtain ⟨k', c', r'⟩ := x
        rw [e] at h
        injection h with h
        injection h with h1 h2
        injection h2 with h2 h3
        subst h1
        obtain ⟨g1, g2, g3, g4⟩ := ih e
        simp only at h2 h3
        subst h2; subst h3
        refine ⟨by rw [g1]; rfl, g2, ?_, ?_⟩
        · intro d hd
          rcases List.mem_cons.1 hd with rfl | hd
          · simpa using hb
          · exact g3 d hd
        · rw [indexAny, if_neg hb, g4, if_neg (by rw [beq_iff_eq]; omega)]; simp
theorem sgn_of {k r : List UInt8} {c : UInt8} (hc : signs.contains c = true) (hk : ∀ b ∈ k, signs.contains b = false) : sgn (k ++ c :: r) = some (k, c, r) := by
  induction k with
  | nil => rw [List.nil_append, sgn, if_pos hc]
  | cons b k ih =>
    rw [List.cons_append, sgn, if_neg (by rw [hk b (by simp)]; simp), ih (fun d hd => hk d (List.mem_cons_of_mem _ hd))]; rfl
/-- bytes as a string -/
def bs (l : List UInt8) : ByteArray := ⟨l.toArray⟩
theorem bs_data (l : List UInt8) : (bs l).data.toList = l := rfl
theorem bs_of (s : ByteArray) : bs s.data.toList = s := ba_ext rfl
/-- what stands behind a < -/
def rdF (k r : List UInt8) : Option Opr := match cut r [42] with
  | (f, a, true) => (rdN a).map fun n => ⟨5, bs k, bs f, n⟩
  | (f, _, false) => some ⟨3, bs k, bs f, 0⟩
/-- the kind of a sign -/
def kdOf (c : UInt8) : Int := if c = 61 then 1 else if c = 43 then 2 else 4
/-- an operation that is read -/
def prO (l : List UInt8) : Option Opr := match sgn l with
  | none => none
  | some (k, c, r) => if c = 60 then rdF k r else (rdN r).map fun n => ⟨kdOf c, bs k, ByteArray.empty, n⟩
/-- an operation that is written -/
def opT (o : Opr) : List UInt8 :=
  if o.kind = 1 then o.key.data.toList ++ 61 :: itoa o.n else if o.kind = 2 then o.key.data.toList ++ 43 :: itoa o.n else if o.kind = 3 then o.key.data.toList ++ 60 :: o.src.data.toList
  else if o.kind = 4 then o.key.data.toList ++ 63 :: itoa o.n else o.key.data.toList ++ 60 :: (o.src.data.toList ++ 42 :: itoa o.n)
/-- without what the kind does not name -/
def bare (o : Opr) : Opr := if o.kind = 3 then { o with n := 0 } else if o.kind = 5 then o else { o with src := ByteArray.empty }
theorem key_low {s : ByteArray} (h : keyB s = true) : ∀ b ∈ s.data.toList, 97 ≤ b.toNat ∧ b.toNat ≤ 122 := fun b hb => by
  have h2 : s.data.toList.all lowB = true := by
    unfold keyB at h
    rw [Bool.and_eq_true] at h
    exact h.2
  have := List.all_eq_true.1 h2 b hb
  simp [lowB] at this
  omega
theorem key_sgn {s : ByteArray} (h : keyB s = true) : ∀ b ∈ s.data.toList, signs.contains b = false := fun b hb => by
  have h1 := key_low h b hb
  cases e : signs.contains b
  · rfl
  · simp [signs] at e
    rcases e with rfl | rfl | rfl | rfl <;> simp at h1
theorem key_not {s : ByteArray} {c : UInt8} (h : keyB s = true) (hc : c.toNat < 97) : c ∉ s.data.toList := fun hm => by have := key_low h c hm; omega
theorem num_not {n : Int} {c : UInt8} (h1 : c.toNat ≠ 45) (h2 : c.toNat < 48 ∨ 57 < c.toNat) : c ∉ itoa n := fun hm => by
  rcases itoa_num n c hm with h | h <;> omega
theorem prO_opT {o : Opr} (h : chkO o = 0) : prO (opT o) = some (bare o) := by
  obtain ⟨h1, h2, h3, h4, h5, h6⟩ := chkO_zero.1 h
  obtain ⟨kd, key, src, n⟩ := o
  simp only at h1 h2 h3 h4 h5 h6
  have hk := key_sgn h3
  have hkd : kd = 1 ∨ kd = 2 ∨ kd = 3 ∨ kd = 4 ∨ kd = 5 := by omega
  unfold prO
  rcases hkd with rfl | rfl | rfl | rfl | rfl
  · rw [show opT ⟨1, key, src, n⟩ = key.data.toList ++ 61 :: itoa n from rfl, sgn_of (by decide) hk]
    simp only
    rw [if_neg (by decide), rdN_val (h5 (by decide))]
    simp [kdOf, bs_of, bare]
  · rw [show opT ⟨2, key, src, n⟩ = key.data.toList ++ 43 :: itoa n from rfl, sgn_of (by decide) hk]
    simp only
    rw [if_neg (by decide), rdN_val (h5 (by decide))]
    simp [kdOf, bs_of, bare]
  · rw [show opT ⟨3, key, src, n⟩ = key.data.toList ++ 60 :: src.data.toList from rfl, sgn_of (by decide) hk]
    simp only
    rw [if_pos trivial, rdF, cut_no (key_not (h4 (.inl rfl)).1 (by decide))]
    simp [bs_of, bare]
  · rw [show opT ⟨4, key, src, n⟩ = key.data.toList ++ 63 :: itoa n from rfl, sgn_of (by decide) hk]
    simp only
    rw [if_neg (by decide), rdN_val (h5 (by decide))]
    simp [kdOf, bs_of, bare]
  · rw [show opT ⟨5, key, src, n⟩ = key.data.toList ++ 60 :: (src.data.toList ++ 42 :: itoa n) from rfl, sgn_of (by decide) hk]
    simp only
    rw [if_pos trivial, rdF, cut_hit (key_not (h4 (.inr rfl)).1 (by decide))]
    simp only
    rw [rdN_val (h5 (by decide))]
    simp [bs_of, bare]
theorem cut_cases (c : UInt8) (l : List UInt8) : (c ∉ l ∧ cut l [c] = (l, [], false)) ∨ ∃ a r, l = a ++ c :: r ∧ c ∉ a ∧ cut l [c] = (a, r, true) := by
  rcases at_byte c l with h | ⟨a, r, rfl, h⟩
  · exact .inl ⟨h, cut_no h⟩
  · exact .inr ⟨a, r, rfl, h, cut_hit h⟩
theorem opT_prO {l : List UInt8} {o : Opr} (h : prO l = some o) : opT o = l ∧ bare o = o := by
  unfold prO at h
  split at h
  · cases h
  · next k c r hs =>
    obtain ⟨rfl, hc, hk, _⟩ := sgn_at hs
    split at h
    · next hc60 =>
      subst hc60
      unfold rdF at h
      rcases cut_cases 42 r with ⟨hn, e⟩ | ⟨a, b, rfl, hn, e⟩
      · rw [e] at h
        injection h with h
        subst h
        exact ⟨rfl, rfl⟩
      · rw [e] at h
        simp only at h
        cases e2 : rdN b with
        | none => rw [e2] at h; cases h
        | some n =>
          rw [e2] at h
          injection h with h
          subst h
          refine ⟨?_, rfl⟩
          rw [← (rdN_some e2).1]; rfl
    · next hc60 =>
      cases e2 : rdN r with
      | none => rw [e2] at h; cases h
      | some n =>
        rw [e2] at h
        injection h with h
        subst h
        have hcs : c = 61 ∨ c = 43 ∨ c = 63 := by
          simp [signs] at hc
          rcases hc with h | h | h | h
          · exact .inl h
          · exact .inr (.inl h)
          · exact absurd h hc60
          · exact .inr (.inr h)
        rcases hcs with rfl | rfl | rfl
        all_goals
          refine ⟨?_, rfl⟩
          rw [← (rdN_some e2).1]; rfl
theorem opT_bare {o : Opr} (h : chkO o = 0) : opT (bare o) = opT o := by
  obtain ⟨g1, g2, _⟩ := chkO_zero.1 h
  obtain ⟨kd, key, src, n⟩ := o
  have hkd : kd = 1 ∨ kd = 2 ∨ kd = 3 ∨ kd = 4 ∨ kd = 5 := by simp only at g1 g2; omega
  rcases hkd with rfl | rfl | rfl | rfl | rfl <;> rfl
theorem opT_not {o : Opr} {c : UInt8} (h : chkO o = 0) (h1 : c.toNat < 97) (h2 : c.toNat ≠ 45) (h3 : c.toNat < 48 ∨ 57 < c.toNat) (h4 : signs.contains c = false) (h5 : c ≠ 42) : c ∉ opT o := by
  obtain ⟨g1, g2, g3, g4, g5, g6⟩ := chkO_zero.1 h
  have k1 := key_not g3 h1
  have k2 : ∀ n, c ∉ itoa n := fun n => num_not h2 h3
  simp [signs] at h4
  obtain ⟨s1, s2, s3, s4⟩ := h4
  unfold opT
  split
  · simp [k1, k2, s1]
  · split
    · simp [k1, k2, s2]
    · split
      · next e => simp [k1, s3, key_not (g4 (.inl e)).1 h1]
      · split
        · simp [k1, k2, s4]
        · next e1 e2 e3 e4 => simp [k1, k2, s3, h5, key_not (g4 (.inr (by omega))).1 h1]
/-- a transaction that is written -/
def tD (d : List Opr) : List UInt8 := join (d.map opT) [59]
/-- operations that are read, one behind the other -/
def prOs (acc : List Opr) : List (List UInt8) → Option (List Opr)
  | [] => some acc
  | w :: r => match prO w with
    | none => none
    | some o => prOs (acc ++ [o]) r
theorem prOs_eq (ws : List (List UInt8)) : ∀ acc d, prOs acc ws = some d ↔ ∃ e, d = acc ++ e ∧ ws.map prO = e.map some := by
  induction ws with
  | nil =>
    intro acc d
    rw [prOs]
    constructor
    · intro h; injection h with h; exact ⟨[], by simp [h], rfl⟩
    · rintro ⟨e, rfl, h⟩
      have : e = [] := by simpa using h.symm
      subst this; simp
  | cons w r ih =>
    intro acc d
    rw [prOs]
    cases e2 : prO w with
    | none =>
      constructor
      · intro h; cases h
      · rintro ⟨e, rfl, h⟩
        rw [List.map_cons, e2] at h
        cases e with
        | nil => simp at h
        | cons x e => simp at h
    | some o =>
      simp only
      rw [ih]
      constructor
      · rintro ⟨e, rfl, h⟩
        exact ⟨o :: e, by simp, by rw [List.map_cons, e2, h]; rfl⟩
      · rintro ⟨e, rfl, h⟩
        rw [List.map_cons, e2] at h
        cases e with
        | nil => simp at h
        | cons x e =>
          simp only [List.map_cons, List.cons.injEq, Option.some.injEq] at h
          obtain ⟨rfl, h⟩ := h
          exact ⟨e, by simp, h⟩
/-- a transaction that is read: the error, and the operations -/
def rdD (l : List UInt8) : Int × List Opr := match prOs [] (spl 59 l) with
  | none => (9, [])
  | some d => if chkD d = 0 then (0, d) else (chkD d, [])
theorem bare_chk {o : Opr} (h : chkO o = 0) : chkO (bare o) = 0 := by
  rw [chkO_zero] at h ⊢
  obtain ⟨h1, h2, h3, h4, h5, h6⟩ := h
  unfold bare
  split
  · next e => exact ⟨h1, h2, h3, h4, fun hh => absurd e hh, fun hh => by simp at hh; omega⟩
  · split
    · exact ⟨h1, h2, h3, h4, h5, h6⟩
    · next e1 e2 => exact ⟨h1, h2, h3, fun hh => by simp at hh; omega, h5, h6⟩
theorem bare_chkD {d : List Opr} (h : chkD d = 0) : chkD (d.map bare) = 0 := by
  rw [chkD_zero] at h ⊢
  refine ⟨by simpa using h.1, by simpa using h.2.1, ?_⟩
  intro o ho
  obtain ⟨p, hp, rfl⟩ := List.mem_map.1 ho
  exact bare_chk (h.2.2 p hp)
theorem spl_tD {d : List Opr} (h : chkD d = 0) : spl 59 (tD d) = d.map opT := by
  have h' := chkD_zero.1 h
  refine spl_join ?_ ?_
  · intro e
    have : d = [] := by simpa using e
    rw [this] at h'
    simp at h'
  · intro x hx
    obtain ⟨o, ho, rfl⟩ := List.mem_map.1 hx
    exact opT_not (h'.2.2 o ho) (by decide) (by decide) (by decide) (by decide) (by decide)
theorem rdD_tD {d : List Opr} (h : chkD d = 0) : rdD (tD d) = (0, d.map bare) := by
  have h' := chkD_zero.1 h
  have e : prOs [] (spl 59 (tD d)) = some (d.map bare) := by
    rw [spl_tD h, prOs_eq]
    refine ⟨d.map bare, rfl, ?_⟩
    rw [List.map_map, List.map_map]
    exact List.map_congr_left fun o ho => prO_opT (h'.2.2 o ho)
  rw [rdD, e]
  simp only
  rw [if_pos (bare_chkD h)]
theorem tD_rdD {l : List UInt8} {d : List Opr} (h : rdD l = (0, d)) : tD d = l ∧ chkD d = 0 ∧ d.map bare = d := by
  unfold rdD at h
  split at h
  · cases h
  · next d' e =>
    split at h
    · next hc =>
      injection h with _ h
      subst h
      rw [prOs_eq] at e
      obtain ⟨e1, rfl, h2⟩ := e
      have key : ∀ (ws : List (List UInt8)) (ds : List Opr), ws.map prO = ds.map some → ds.map opT = ws ∧ ds.map bare = ds := by
        intro ws
        induction ws with
        | nil => intro ds hh; have : ds = [] := by simpa using hh.symm
                 subst this; exact ⟨rfl, rfl⟩
        | cons w ws ih =>
          intro ds hh
          cases ds with
          | nil => simp at hh
          | cons o ds =>
            simp only [List.map_cons, List.cons.injEq] at hh
            obtain ⟨g1, g2⟩ := ih ds hh.2
            obtain ⟨g3, g4⟩ := opT_prO hh.1
            exact ⟨by rw [List.map_cons, g1, g3], by rw [List.map_cons, g2, g4]⟩
      obtain ⟨g1, g2⟩ := key _ _ h2
      exact ⟨by rw [tD, g1, join_spl], hc, g2⟩
    · next hc => injection h with h _; exact absurd h hc
theorem tD_bare {d : List Opr} (h : chkD d = 0) : tD (d.map bare) = tD d := by
  unfold tD; rw [List.map_map]; congr 1; exact List.map_congr_left fun o ho => opT_bare ((chkD_zero.1 h).2.2 o ho)
theorem tD_iff {a b : List Opr} (ha : chkD a = 0) (hb : chkD b = 0) : tD a = tD b ↔ a.map bare = b.map bare := by
  constructor
  · intro h
    have h1 := rdD_tD ha
    rw [h, rdD_tD hb] at h1
    injection h1 with _ h1
    exact h1.symm
  · intro h; rw [← tD_bare ha, ← tD_bare hb, h]
end Go.Proofs.YtcjfkbponikadaaGreatDoor
