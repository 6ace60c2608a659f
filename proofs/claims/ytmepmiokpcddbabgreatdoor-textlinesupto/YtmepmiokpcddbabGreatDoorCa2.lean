/-
  Transactions as text, plainly (no program in it).
  The byte order of keys, and lists of pairs that are sorted by it (no program in it).
  Partition maps, plainly (no program in it).
-/
import Derived.Test.YtmepmiokpcddbabGreatDoorCa1
import Derived.Lib.IndexAny
import Derived.Lib.Bytealg
set_option linter.unusedVariables false
set_option linter.unusedSimpArgs false
namespace Go.Proofs.YtmepmiokpcddbabGreatDoor
open Go.Lib

/-- = + < ? -/
def signs : List UInt8 := [61, 43, 60, 63]
/-- cut at the first sign -/
def sgn : List UInt8 → Option (List UInt8 × UInt8 × List UInt8)
  | [] => none
  | b :: l => if signs.contains b then some ([], b, l) else (sgn l).map fun x => (b :: x.1, x.2.1, x.2.2)
theorem sgn_no {l : List UInt8} (h : sgn l = none) : indexAny l signs = -1 := by
  induction l with
  | nil => rfl
  | cons b l ih =>
    rw [sgn] at h
    split at h
    · cases h
    · next hb => rw [indexAny, if_neg hb, ih (by simpa using h)]; rfl
theorem sgn_at {l k r : List UInt8} {c : UInt8} (h : sgn l = some (k, c, r)) : l = k ++ c :: r ∧ signs.contains c = true ∧ (∀ b ∈ k, signs.contains b = false) ∧ indexAny l signs = k.length := by
  induction l generalizing k c r with
  | nil => cases h
  | cons b l ih =>
    rw [sgn] at h
    split at h
    · next hb =>
      injection h with h
      injection h with h1 h2
      injection h2 with h2 h3
      subst h1; subst h2; subst h3
      exact ⟨rfl, hb, by simp, by rw [indexAny, if_pos hb]; rfl⟩
    · next hb =>
      cases e : sgn l with
      | none => rw [e] at h; cases h
      | some x =>
        obtain ⟨k', c', r'⟩ := x
        rw [e] at h
        injection h with h
        injection h with h1 h2
        injection h2 with h2 h3
        subst h1
        obtain ⟨g1, g2, g3, g4⟩ := ih e
        simp only at h2 h3
        subst h2; subst h3
        refine ⟨by rw [g1]; rfl, g2, ?_, ?_⟩
        · intro d hd
          rcases List.mem_cons.1 hd with rfl | hd
          · simpa using hb
          · exact g3 d hd
        · rw [indexAny, if_neg hb, g4, if_neg (by rw [beq_iff_eq]; omega)]; simp
theorem sgn_of {k r : List UInt8} {c : UInt8} (hc : signs.contains c = true) (hk : ∀ b ∈ k, signs.contains b = false) : sgn (k ++ c :: r) = some (k, c, r) := by
  induction k with
  | nil => rw [List.nil_append, sgn, if_pos hc]
  | cons b k ih =>
    rw [List.cons_append, sgn, if_neg (by rw [hk b (by simp)]; simp), ih (fun d hd => hk d (List.mem_cons_of_mem _ hd))]; rfl
/-- bytes as a string -/
def bs (l : List UInt8) : ByteArray := ⟨l.toArray⟩
theorem bs_data (l : List UInt8) : (bs l).data.toList = l := rfl
theorem bs_of (s : ByteArray) : bs s.data.toList = s := ba_ext rfl
/-- what stands behind a < -/
def rdF (k r : List UInt8) : Option Opr := match cut r [42] with
  | (f, a, true) => (rdN a).map fun n => ⟨5, bs k, bs f, n⟩
  | (f, _, false) => some ⟨3, bs k, bs f, 0⟩
/-- the kind of a sign -/
def kdOf (c : UInt8) : Int := if c = 61 then 1 else if c = 43 then 2 else 4
/-- an operation that is read -/
def prO (l : List UInt8) : Option Opr := match sgn l with
  | none => none
  | some (k, c, r) => if c = 60 then rdF k r else (rdN r).map fun n => ⟨kdOf c, bs k, ByteArray.empty, n⟩
/-- an operation that is written -/
def opT (o : Opr) : List UInt8 :=
  if o.kind = 1 then o.key.data.toList ++ 61 :: itoa o.n else if o.kind = 2 then o.key.data.toList ++ 43 :: itoa o.n else if o.kind = 3 then o.key.data.toList ++ 60 :: o.src.data.toList
  else if o.kind = 4 then o.key.data.toList ++ 63 :: itoa o.n else o.key.data.toList ++ 60 :: (o.src.data.toList ++ 42 :: itoa o.n)
/-- without what the kind does not name -/
def bare (o : Opr) : Opr := if o.kind = 3 then { o with n := 0 } else if o.kind = 5 then o else { o with src := ByteArray.empty }
theorem key_low {s : ByteArray} (h : keyB s = true) : ∀ b ∈ s.data.toList, 97 ≤ b.toNat ∧ b.toNat ≤ 122 := fun b hb => by
  have h2 : s.data.toList.all lowB = true := by
    unfold keyB at h
    rw [Bool.and_eq_true] at h
    exact h.2
  have := List.all_eq_true.1 h2 b hb
  simp [lowB] at this
  omega
theorem key_sgn {s : ByteArray} (h : keyB s = true) : ∀ b ∈ s.data.toList, signs.contains b = false := fun b hb => by
  have h1 := key_low h b hb
  cases e : signs.contains b
  · rfl
  · simp [signs] at e
    rcases e with rfl | rfl | rfl | rfl <;> simp at h1
theorem key_not {s : ByteArray} {c : UInt8} (h : keyB s = true) (hc : c.toNat < 97) : c ∉ s.data.toList := fun hm => by have := key_low h c hm; omega
theorem num_not {n : Int} {c : UInt8} (h1 : c.toNat ≠ 45) (h2 : c.toNat < 48 ∨ 57 < c.toNat) : c ∉ itoa n := fun hm => by
  rcases itoa_num n c hm with h | h <;> omega
theorem prO_opT {o : Opr} (h : chkO o = 0) : prO (opT o) = some (bare o) := by
  obtain ⟨h1, h2, h3, h4, h5, h6⟩ := chkO_zero.1 h
  obtain ⟨kd, key, src, n⟩ := o
  simp only at h1 h2 h3 h4 h5 h6
  have hk := key_sgn h3
  have hkd : kd = 1 ∨ kd = 2 ∨ kd = 3 ∨ kd = 4 ∨ kd = 5 := by omega
  unfold prO
  rcases hkd with rfl | rfl | rfl | rfl | rfl
  · rw [show opT ⟨1, key, src, n⟩ = key.data.toList ++ 61 :: itoa n from rfl, sgn_of (by decide) hk]
    simp only
    rw [if_neg (by decide), rdN_val (h5 (by decide))]
    simp [kdOf, bs_of, bare]
  · rw [show opT ⟨2, key, src, n⟩ = key.data.toList ++ 43 :: itoa n from rfl, sgn_of (by decide) hk]
    simp only
    rw [if_neg (by decide), rdN_val (h5 (by decide))]
    simp [kdOf, bs_of, bare]
  · rw [show opT ⟨3, key, src, n⟩ = key.data.toList ++ 60 :: src.data.toList from rfl, sgn_of (by decide) hk]
    simp only
    rw [if_pos trivial, rdF, cut_no (key_not (h4 (.inl rfl)).1 (by decide))]
    simp [bs_of, bare]
  · rw [show opT ⟨4, key, src, n⟩ = key.data.toList ++ 63 :: itoa n from rfl, sgn_of (by decide) hk]
    simp only
    rw [if_neg (by decide), rdN_val (h5 (by decide))]
    simp [kdOf, bs_of, bare]
  · rw [show opT ⟨5, key, src, n⟩ = key.data.toList ++ 60 :: (src.data.toList ++ 42 :: itoa n) from rfl, sgn_of (by decide) hk]
    simp only
    rw [if_pos trivial, rdF, cut_hit (key_not (h4 (.inr rfl)).1 (by decide))]
    simp only
    rw [rdN_val (h5 (by decide))]
    simp [bs_of, bare]
theorem cut_cases (c : UInt8) (l : List UInt8) : (c ∉ l ∧ cut l [c] = (l, [], false)) ∨ ∃ a r, l = a ++ c :: r ∧ c ∉ a ∧ cut l [c] = (a, r, true) := by
  rcases at_byte c l with h | ⟨a, r, rfl, h⟩
  · exact .inl ⟨h, cut_no h⟩
  · exact .inr ⟨a, r, rfl, h, cut_hit h⟩
theorem opT_prO {l : List UInt8} {o : Opr} (h : prO l = some o) : opT o = l ∧ bare o = o := by
  unfold prO at h
  split at h
  · cases h
  · next k c r hs =>
    obtain ⟨rfl, hc, hk, _⟩ := sgn_at hs
    split at h
    · next hc60 =>
      subst hc60
      unfold rdF at h
      rcases cut_cases 42 r with ⟨hn, e⟩ | ⟨a, b, rfl, hn, e⟩
      · rw [e] at h
        injection h with h
        subst h
        exact ⟨rfl, rfl⟩
      · rw [e] at h
        simp only at h
        cases e2 : rdN b with
        | none => rw [e2] at h; cases h
        | some n =>
          rw [e2] at h
          injection h with h
          subst h
          refine ⟨?_, rfl⟩
          rw [← (rdN_some e2).1]; rfl
    · next hc60 =>
      cases e2 : rdN r with
      | none => rw [e2] at h; cases h
      | some n =>
        rw [e2] at h
        injection h with h
        subst h
        have hcs : c = 61 ∨ c = 43 ∨ c = 63 := by
          simp [signs] at hc
          rcases hc with h | h | h | h
          · exact .inl h
          · exact .inr (.inl h)
          · exact absurd h hc60
          · exact .inr (.inr h)
        rcases hcs with rfl | rfl | rfl
        all_goals
          refine ⟨?_, rfl⟩
          rw [← (rdN_some e2).1]; rfl
theorem opT_bare {o : Opr} (h : chkO o = 0) : opT (bare o) = opT o := by
  obtain ⟨g1, g2, _⟩ := chkO_zero.1 h
  obtain ⟨kd, key, src, n⟩ := o
  have hkd : kd = 1 ∨ kd = 2 ∨ kd = 3 ∨ kd = 4 ∨ kd = 5 := by simp only at g1 g2; omega
  rcases hkd with rfl | rfl | rfl | rfl | rfl <;> rfl
theorem opT_not {o : Opr} {c : UInt8} (h : chkO o = 0) (h1 : c.toNat < 97) (h2 : c.toNat ≠ 45) (h3 : c.toNat < 48 ∨ 57 < c.toNat) (h4 : signs.contains c = false) (h5 : c ≠ 42) : c ∉ opT o := by
  obtain ⟨g1, g2, g3, g4, g5, g6⟩ := chkO_zero.1 h
  have k1 := key_not g3 h1
  have k2 : ∀ n, c ∉ itoa n := fun n => num_not h2 h3
  simp [signs] at h4
  obtain ⟨s1, s2, s3, s4⟩ := h4
  unfold opT
  split
  · simp [k1, k2, s1]
  · split
    · simp [k1, k2, s2]
    · split
      · next e => simp [k1, s3, key_not (g4 (.inl e)).1 h1]
      · split
        · simp [k1, k2, s4]
        · next e1 e2 e3 e4 => simp [k1, k2, s3, h5, key_not (g4 (.inr (by omega))).1 h1]
/-- a transaction that is written -/
def tD (d : List Opr) : List UInt8 := join (d.map opT) [59]
/-- operations that are read, one behind the other -/
def prOs (acc : List Opr) : List (List UInt8) → Option (List Opr)
  | [] => some acc
  | w :: r => match prO w with
    | none => none
    | some o => prOs (acc ++ [o]) r
theorem prOs_eq (ws : List (List UInt8)) : ∀ acc d, prOs acc ws = some d ↔ ∃ e, d = acc ++ e ∧ ws.map prO = e.map some := by
  induction ws with
  | nil =>
    intro acc d
    rw [prOs]
    constructor
    · intro h; injection h with h; exact ⟨[], by simp [h], rfl⟩
    · rintro ⟨e, rfl, h⟩
      have : e = [] := by simpa using h.symm
      subst this; simp
  | cons w r ih =>
    intro acc d
    rw [prOs]
    cases e2 : prO w with
    | none =>
      constructor
      · intro h; cases h
      · rintro ⟨e, rfl, h⟩
        rw [List.map_cons, e2] at h
        cases e with
        | nil => simp at h
        | cons x e => simp at h
    | some o =>
      simp only
      rw [ih]
      constructor
      · rintro ⟨e, rfl, h⟩
        exact ⟨o :: e, by simp, by rw [List.map_cons, e2, h]; rfl⟩
      · rintro ⟨e, rfl, h⟩
        rw [List.map_cons, e2] at h
        cases e with
        | nil => simp at h
        | cons x e =>
          simp only [List.map_cons, List.cons.injEq, Option.some.injEq] at h
          obtain ⟨rfl, h⟩ := h
          exact ⟨e, by simp, h⟩
/-- a transaction that is read: the error, and the operations -/
def rdD (l : List UInt8) : Int × List Opr := match prOs [] (spl 59 l) with
  | none => (9, [])
  | some d => if chkD d = 0 then (0, d) else (chkD d, [])
theorem bare_chk {o : Opr} (h : chkO o = 0) : chkO (bare o) = 0 := by
  rw [chkO_zero] at h ⊢
  obtain ⟨h1, h2, h3, h4, h5, h6⟩ := h
  unfold bare
  split
  · next e => exact ⟨h1, h2, h3, h4, fun hh => absurd e hh, fun hh => by simp at hh; omega⟩
  · split
    · exact ⟨h1, h2, h3, h4, h5, h6⟩
    · next e1 e2 => exact ⟨h1, h2, h3, fun hh => by simp at hh; omega, h5, h6⟩
theorem bare_chkD {d : List Opr} (h : chkD d = 0) : chkD (d.map bare) = 0 := by
  rw [chkD_zero] at h ⊢
  refine ⟨by simpa using h.1, by simpa using h.2.1, ?_⟩
  intro o ho
  obtain ⟨p, hp, rfl⟩ := List.mem_map.1 ho
  exact bare_chk (h.2.2 p hp)
theorem spl_tD {d : List Opr} (h : chkD d = 0) : spl 59 (tD d) = d.map opT := by
  have h' := chkD_zero.1 h
  refine spl_join ?_ ?_
  · intro e
    have : d = [] := by simpa using e
    rw [this] at h'
    simp at h'
  · intro x hx
    obtain ⟨o, ho, rfl⟩ := List.mem_map.1 hx
    exact opT_not (h'.2.2 o ho) (by decide) (by decide) (by decide) (by decide) (by decide)
theorem rdD_tD {d : List Opr} (h : chkD d = 0) : rdD (tD d) = (0, d.map bare) := by
  have h' := chkD_zero.1 h
  have e : prOs [] (spl 59 (tD d)) = some (d.map bare) := by
    rw [spl_tD h, prOs_eq]
    refine ⟨d.map bare, rfl, ?_⟩
    rw [List.map_map, List.map_map]
    exact List.map_congr_left fun o ho => prO_opT (h'.2.2 o ho)
  rw [rdD, e]
  simp only
  rw [if_pos (bare_chkD h)]
theorem tD_rdD {l : List UInt8} {d : List Opr} (h : rdD l = (0, d)) : tD d = l ∧ chkD d = 0 ∧ d.map bare = d := by
  unfold rdD at h
  split at h
  · cases h
  · next d' e =>
    split at h
    · next hc =>
      injection h with _ h
      subst h
      rw [prOs_eq] at e
      obtain ⟨e1, rfl, h2⟩ := e
      have key : ∀ (ws : List (List UInt8)) (ds : List Opr), ws.map prO = ds.map some → ds.map opT = ws ∧ ds.map bare = ds := by
        intro ws
        induction ws with
        | nil => intro ds hh; have : ds = [] := by simpa using hh.symm
                 subst this; exact ⟨rfl, rfl⟩
        | cons w ws ih =>
          intro ds hh
          cases ds with
          | nil => simp at hh
          | cons o ds =>
            simp only [List.map_cons, List.cons.injEq] at hh
            obtain ⟨g1, g2⟩ := ih ds hh.2
            obtain ⟨g3, g4⟩ := opT_prO hh.1
            exact ⟨by rw [List.map_cons, g1, g3], by rw [List.map_cons, g2, g4]⟩
      obtain ⟨g1, g2⟩ := key _ _ h2
      exact ⟨by rw [tD, g1, join_spl], hc, g2⟩
    · next hc => injection h with h _; exact absurd h hc
theorem tD_bare {d : List Opr} (h : chkD d = 0) : tD (d.map bare) = tD d := by
  unfold tD; rw [List.map_map]; congr 1; exact List.map_congr_left fun o ho => opT_bare ((chkD_zero.1 h).2.2 o ho)
theorem tD_iff {a b : List Opr} (ha : chkD a = 0) (hb : chkD b = 0) : tD a = tD b ↔ a.map bare = b.map bare := by
  constructor
  · intro h
    have h1 := rdD_tD ha
    rw [h, rdD_tD hb] at h1
    injection h1 with _ h1
    exact h1.symm
  · intro h; rw [← tD_bare ha, ← tD_bare hb, h]
end Go.Proofs.YtmepmiokpcddbabGreatDoor

set_option linter.unusedVariables false
set_option linter.unusedSimpArgs false
namespace Go.Proofs.YtmepmiokpcddbabGreatDoor
open Go.RowKit

theorem bLess : ∀ (x y : List UInt8), Op.bytesLess x y = decide (x < y)
  | [], [] => by simp [Op.bytesLess]
  | _ :: _, [] => by simp [Op.bytesLess]
  | [], _ :: _ => by simp [Op.bytesLess]
  | a :: x, b :: y => by
    rw [Op.bytesLess, bLess x y]
    simp only [List.cons_lt_cons_iff]
    by_cases h1 : a < b <;> by_cases h2 : a = b <;> by_cases h3 : x < y <;> simp [h1, h2, h3]

/-- bytes of a key -/
abbrev by8 (a : ByteArray) : List UInt8 := a.data.toList
theorem by8_inj {a b : ByteArray} (h : by8 a = by8 b) : a = b := by
  cases a; cases b; simp [by8, Array.toList_inj] at h; simp [h]
theorem ltB_iff {a b : ByteArray} : ltB a b = true ↔ by8 a < by8 b := by unfold ltB; rw [bLess, ByteArray.toList_eq, ByteArray.toList_eq]; simp
theorem ltB_no {a b : ByteArray} : ltB a b = false ↔ ¬ by8 a < by8 b := by rw [← ltB_iff]; simp
theorem ltB_irrefl (a : ByteArray) : ltB a a = false := by rw [ltB_no]; exact List.lt_irrefl _
theorem ltB_trans {a b c : ByteArray} (h : ltB a b = true) (k : ltB b c = true) : ltB a c = true := by
  rw [ltB_iff] at *; exact List.lt_trans h k
theorem ltB_asymm {a b : ByteArray} (h : ltB a b = true) : ltB b a = false := by
  rw [ltB_iff] at h; rw [ltB_no]; exact List.lt_asymm h
theorem ltB_ne {a b : ByteArray} (h : ltB a b = true) : a ≠ b := fun e => by rw [e, ltB_irrefl] at h; cases h
theorem ltB_total {a b : ByteArray} (h : ltB a b = false) (k : ltB b a = false) : a = b := by
  rw [ltB_no] at *
  exact by8_inj (List.le_antisymm (List.not_lt.1 k) (List.not_lt.1 h))
theorem leB_iff {a b : ByteArray} : leB a b = true ↔ ltB b a = false := by
  unfold leB; rw [ByteArray.toList_eq, ByteArray.toList_eq, bLess]
  constructor
  · intro h
    simp only [Bool.or_eq_true, decide_eq_true_eq, beq_iff_eq] at h
    rcases h with h | h
    · exact ltB_asymm (ltB_iff.2 h)
    · rw [by8_inj h]; exact ltB_irrefl _
  · intro h
    cases k : ltB a b
    · have := ltB_total k h; subst this; simp
    · rw [ltB_iff] at k; simp [k]
theorem leB_no {a b : ByteArray} : leB a b = false ↔ ltB b a = true := by
  have := @leB_iff a b
  cases h : leB a b <;> cases k : ltB b a <;> simp_all

theorem cmp_neg : ∀ (x y : List UInt8), Lib.compareBytes x y < 0 ↔ x < y
  | [], [] => by simp [Lib.compareBytes]
  | _ :: _, [] => by simp [Lib.compareBytes]
  | [], _ :: _ => by simp [Lib.compareBytes]
  | a :: x, b :: y => by
    simp only [Lib.compareBytes, List.cons_lt_cons_iff]
    by_cases h1 : a < b
    · simp [h1]
    · by_cases h2 : b < a
      · have : a ≠ b := fun e => by subst e; exact h1 h2
        simp [h1, h2, this]
      · have : a = b := UInt8.le_antisymm (UInt8.not_lt.1 h2) (UInt8.not_lt.1 h1)
        subst this
        simp [cmp_neg x y]
theorem cmp_zero : ∀ (x y : List UInt8), Lib.compareBytes x y = 0 ↔ x = y
  | [], [] => by simp [Lib.compareBytes]
  | _ :: _, [] => by simp [Lib.compareBytes]
  | [], _ :: _ => by simp [Lib.compareBytes]
  | a :: x, b :: y => by
    simp only [Lib.compareBytes, List.cons.injEq]
    by_cases h1 : a < b
    · have : a ≠ b := fun e => by subst e; exact UInt8.lt_irrefl a h1
      simp [h1, this]
    · by_cases h2 : b < a
      · have : a ≠ b := fun e => by subst e; exact h1 h2
        simp [h1, h2, this]
      · have : a = b := UInt8.le_antisymm (UInt8.not_lt.1 h2) (UInt8.not_lt.1 h1)
        subst this
        simp [cmp_zero x y]

/-- what strings.Compare answers -/
def cmpB (a b : ByteArray) : Int := Lib.compareBytes a.data.toList b.data.toList
theorem cmpB_neg {a b : ByteArray} : cmpB a b < 0 ↔ ltB a b = true := by rw [ltB_iff]; exact cmp_neg _ _
theorem cmpB_zero {a b : ByteArray} : cmpB a b = 0 ↔ a = b := ⟨fun h => by8_inj ((cmp_zero _ _).1 h), fun h => by subst h; exact (cmp_zero _ _).2 rfl⟩

/-- i is the place of a key in a list: what lies ahead is less, what lies behind isn't -/
structure At (l : List Pr) (key : ByteArray) (i : Nat) : Prop where
  le : i ≤ l.length
  lo : ∀ j (h : j < l.length), j < i → ltB (l[j]).1 key = true
  hi : ∀ j (h : j < l.length), i ≤ j → ltB (l[j]).1 key = false
/-- is it there? -/
def fnd (l : List Pr) (key : ByteArray) (i : Nat) : Bool := match l[i]? with
  | some p => cmpB p.1 key == 0
  | none => false
end Go.Proofs.YtmepmiokpcddbabGreatDoor

set_option linter.unusedVariables false
set_option linter.unusedSimpArgs false
namespace Go.Proofs.YtmepmiokpcddbabGreatDoor

/-- valid cuts, each greater than the one before -/
def cutsB (last : ByteArray) : List ByteArray → Bool
  | [] => true
  | k :: r => keyB k && ltB last k && cutsB k r
/-- a valid owner -/
def ownB (n : Int) : Bool := decide (0 ≤ n) && decide (n ≤ 3)
theorem ownB_iff {n : Int} : ownB n = true ↔ 0 ≤ n ∧ n ≤ 3 := by simp [ownB]
/-- the error of a map -/
def chkM (cs : List ByteArray) (os : List Int) : Int :=
  if 12 < cs.length then 2 else if os.length ≠ cs.length + 1 then 3 else if cutsB ByteArray.empty cs = false then 3 else if os.all ownB = false then 1 else 0
/-- a valid map -/
structure OkM (cs : List ByteArray) (os : List Int) : Prop where
  few : cs.length ≤ 12
  len : os.length = cs.length + 1
  cuts : cutsB ByteArray.empty cs = true
  own : ∀ n ∈ os, 0 ≤ n ∧ n ≤ 3
theorem chkM_ok {cs : List ByteArray} {os : List Int} : chkM cs os = 0 ↔ OkM cs os := by
  unfold chkM
  by_cases h1 : 12 < cs.length
  · rw [if_pos h1]; exact ⟨fun h => absurd h (by decide), fun h => by have := h.few; omega⟩
  rw [if_neg h1]
  by_cases h2 : os.length ≠ cs.length + 1
  · rw [if_pos h2]; exact ⟨fun h => absurd h (by decide), fun h => absurd h.len h2⟩
  rw [if_neg h2]
  by_cases h3 : cutsB ByteArray.empty cs = false
  · rw [if_pos h3]; exact ⟨fun h => absurd h (by decide), fun h => by rw [h.cuts] at h3; cases h3⟩
  rw [if_neg h3]
  by_cases h4 : os.all ownB = false
  · rw [if_pos h4]
    refine ⟨fun h => absurd h (by decide), fun h => ?_⟩
    rw [List.all_eq_true.2 fun n hn => ownB_iff.2 (h.own n hn)] at h4
    cases h4
  · rw [if_neg h4]
    refine ⟨fun _ => ⟨by omega, by omega, by simpa using h3, fun n hn => ?_⟩, fun _ => rfl⟩
    exact ownB_iff.1 (List.all_eq_true.1 (by simpa using h4) n hn)
theorem keyB_ne_empty {k : ByteArray} (h : keyB k = true) : ltB ByteArray.empty k = true := by
  rw [ltB_iff]
  have h1 : 1 ≤ k.size := by simp [keyB] at h; omega
  have h2 : (by8 k).length = k.size := by simp [by8]
  cases e : by8 k with
  | nil => rw [e] at h2; simp at h2; omega
  | cons x r => show ([] : List UInt8) < x :: r; exact List.nil_lt_cons _ _
theorem cutsB_iff {last : ByteArray} {cs : List ByteArray} : cutsB last cs = true ↔ (∀ k ∈ cs, keyB k = true ∧ ltB last k = true) ∧ cs.Pairwise (fun a b => ltB a b = true) := by
  induction cs generalizing last with
  | nil => simp [cutsB]
  | cons k r ih =>
    simp only [cutsB, Bool.and_eq_true, ih, List.pairwise_cons, List.mem_cons]
    constructor
    · rintro ⟨⟨h1, h2⟩, h3, h4⟩
      refine ⟨fun x hx => ?_, fun x hx => (h3 x hx).2, h4⟩
      rcases hx with rfl | hx
      · exact ⟨h1, h2⟩
      · exact ⟨(h3 x hx).1, ltB_trans h2 (h3 x hx).2⟩
    · rintro ⟨h1, h2, h3⟩
      exact ⟨⟨(h1 k (.inl rfl)).1, (h1 k (.inl rfl)).2⟩, fun x hx => ⟨(h1 x (.inr hx)).1, h2 x hx⟩, h3⟩
theorem cutsB_next {last : ByteArray} {cs : List ByteArray} {k : Nat} (h : k < cs.length) : cutsB last (cs.drop k) = (keyB cs[k] && ltB last cs[k] && cutsB cs[k] (cs.drop (k + 1))) := by
  rw [List.drop_eq_getElem_cons h]; rfl
/-- how many cuts lie at or below a key -/
def atC (cs : List ByteArray) (key : ByteArray) : Nat := (cs.takeWhile fun k => leB k key).length
theorem atC_le (cs : List ByteArray) (key : ByteArray) : atC cs key ≤ cs.length := (List.takeWhile_prefix _).length_le
theorem atC_below {cs : List ByteArray} {key : ByteArray} {i : Nat} (h : i < atC cs key) : ∃ hi : i < cs.length, leB cs[i] key = true := by
  have hl := atC_le cs key
  refine ⟨by omega, ?_⟩
  have h1 : (cs.takeWhile fun k => leB k key)[i]'h = cs[i] := List.IsPrefix.getElem (List.takeWhile_prefix _) h
  have h2 : (cs.takeWhile fun k => leB k key)[i]'h ∈ cs.takeWhile fun k => leB k key := List.getElem_mem h
  have h3 := List.all_takeWhile (p := fun k => leB k key) (l := cs)
  rw [List.all_eq_true] at h3
  rw [← h1]
  exact h3 _ h2
theorem atC_next {cs : List ByteArray} {key : ByteArray} (h : atC cs key < cs.length) : leB cs[atC cs key] key = false := by
  induction cs with
  | nil => simp at h
  | cons c r ih =>
    unfold atC at *
    cases hc : leB c key with
    | false => simp [List.takeWhile_cons, hc]
    | true =>
      have hr : (r.takeWhile fun k => leB k key).length < r.length := by simpa [List.takeWhile_cons, hc] using h
      have := ih hr
      simpa [List.takeWhile_cons, hc] using this
theorem leB_trans_ {a b c : ByteArray} (h : ltB a b = true) (k : leB b c = true) : leB a c = true := by
  rw [leB_iff] at *
  cases e : ltB c a with
  | false => rfl
  | true => rw [ltB_trans e h] at k; cases k
/-- in sorted cuts those at or below a key are the first ones -/
theorem atC_iff {cs : List ByteArray} (hs : cs.Pairwise (fun a b => ltB a b = true)) {key : ByteArray} {i : Nat} (hi : i < cs.length) : leB cs[i] key = true ↔ i < atC cs key := by
  constructor
  · intro h
    refine Nat.lt_of_not_le fun hle => ?_
    have ha : atC cs key < cs.length := by omega
    have h1 := atC_next ha
    rcases Nat.lt_or_eq_of_le hle with hlt | heq
    · have h2 := List.pairwise_iff_getElem.1 hs (atC cs key) i ha hi hlt
      rw [leB_trans_ h2 h] at h1
      cases h1
    · subst heq; rw [h] at h1; cases h1
  · intro h; exact (atC_below h).2
/-- whose a key is -/
def whV (cs : List ByteArray) (os : List Int) (key : ByteArray) : Int := os.getD (atC cs key) 0
end Go.Proofs.YtmepmiokpcddbabGreatDoor
