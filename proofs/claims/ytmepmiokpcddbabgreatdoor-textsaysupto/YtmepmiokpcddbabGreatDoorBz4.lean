/-
  Transactions as text, plainly (no program in it).
-/
import Derived.Test.YtmepmiokpcddbabGreatDoorBz2
import Derived.Test.YtmepmiokpcddbabGreatDoorBz3
import Derived.Lib.IndexAny
set_option linter.unusedVariables false
set_option linter.unusedSimpArgs false
namespace Go.Proofs.YtmepmiokpcddbabGreatDoor
open Go.Lib

/-- = + < ? -/
def signs : List UInt8 := [61, 43, 60, 63]
/-- cut at the first sign -/
def sgn : List UInt8 → Option (List UInt8 × UInt8 × List UInt8)
  | [] => none
  | b :: l => if signs.contains b then some ([], b, l) else (sgn l).map fun x => (b :: x.1, x.2.1, x.2.2)
theorem sgn_no {l : List UInt8} (h : sgn l = none) : indexAny l signs = -1 := by
  induction l with
  | nil => rfl
  | cons b l ih =>
    rw [sgn] at h
    split at h
    · cases h
    · next hb => rw [indexAny, if_neg hb, ih (by simpa using h)]; rfl
theorem sgn_at {l k r : List UInt8} {c : UInt8} (h : sgn l = some (k, c, r)) : l = k ++ c :: r ∧ signs.contains c = true ∧ (∀ b ∈ k, signs.contains b = false) ∧ indexAny l signs = k.length := by
  induction l generalizing k c r with
  | nil => cases h
  | cons b l ih =>
    rw [sgn] at h
    split at h
    · next hb =>
      injection h with h
      injection h with h1 h2
      injection h2 with h2 h3
      subst h1; subst h2; subst h3
      exact ⟨rfl, hb, by simp, by rw [indexAny, if_pos hb]; rfl⟩
    · next hb =>
      cases e : sgn l with
      | none => rw [e] at h; cases h
      | some x =>
        obtain ⟨k', c', r'⟩ := x
        rw [e] at h
        injection h with h
        injection h with h1 h2
        injection h2 with h2 h3
        subst h1
        obtain ⟨g1, g2, g3, g4⟩ := ih e
        simp only at h2 h3
        subst h2; subst h3
        refine ⟨by rw [g1]; rfl, g2, ?_, ?_⟩
        · intro d hd
          rcases List.mem_cons.1 hd with rfl | hd
          · simpa using hb
          · exact g3 d hd
        · rw [indexAny, if_neg hb, g4, if_neg (by rw [beq_iff_eq]; omega)]; simp
theorem sgn_of {k r : List UInt8} {c : UInt8} (hc : signs.contains c = true) (hk : ∀ b ∈ k, signs.contains b = false) : sgn (k ++ c :: r) = some (k, c, r) := by
  induction k with
  | nil => rw [List.nil_append, sgn, if_pos hc]
  | cons b k ih =>
    rw [List.cons_append, sgn, if_neg (by rw [hk b (by simp)]; simp), ih (fun d hd => hk d (List.mem_cons_of_mem _ hd))]; rfl
/-- bytes as a string -/
def bs (l : List UInt8) : ByteArray := ⟨l.toArray⟩
theorem bs_data (l : List UInt8) : (bs l).data.toList = l := rfl
theorem bs_of (s : ByteArray) : bs s.data.toList = s := ba_ext rfl
/-- what stands behind a < -/
def rdF (k r : List UInt8) : Option Opr := match cut r [42] with
  | (f, a, true) => (rdN a).map fun n => ⟨5, bs k, bs f, n⟩
  | (f, _, false) => some ⟨3, bs k, bs f, 0⟩
/-- the kind of a sign -/
def kdOf (c : UInt8) : Int := if c = 61 then 1 else if c = 43 then 2 else 4
/-- an operation that is read -/
def prO (l : List UInt8) : Option Opr := match sgn l with
  | none => none
  | some (k, c, r) => if c = 60 then rdF k r else (rdN r).map fun n => ⟨kdOf c, bs k, ByteArray.empty, n⟩
/-- an operation that is written -/
def opT (o : Opr) : List UInt8 :=
  if o.kind = 1 then o.key.data.toList ++ 61 :: itoa o.n else if o.kind = 2 then o.key.data.toList ++ 43 :: itoa o.n else if o.kind = 3 then o.key.data.toList ++ 60 :: o.src.data.toList
  else if o.kind = 4 then o.key.data.toList ++ 63 :: itoa o.n else o.key.data.toList ++ 60 :: (o.src.data.toList ++ 42 :: itoa o.n)
/-- without what the kind does not name -/
def bare (o : Opr) : Opr := if o.kind = 3 then { o with n := 0 } else if o.kind = 5 then o else { o with src := ByteArray.empty }
theorem key_low {s : ByteArray} (h : keyB s = true) : ∀ b ∈ s.data.toList, 97 ≤ b.toNat ∧ b.toNat ≤ 122 := fun b hb => by
  have h2 : s.data.toList.all lowB = true := by
    unfold keyB at h
    rw [Bool.and_eq_true] at h
    exact h.2
  have := List.all_eq_true.1 h2 b hb
  simp [lowB] at this
  omega
theorem key_sgn {s : ByteArray} (h : keyB s = true) : ∀ b ∈ s.data.toList, signs.contains b = false := fun b hb => by
  have h1 := key_low h b hb
  cases e : signs.contains b
  · rfl
  · simp [signs] at e
    rcases e with rfl | rfl | rfl | rfl <;> simp at h1
theorem key_not {s : ByteArray} {c : UInt8} (h : keyB s = true) (hc : c.toNat < 97) : c ∉ s.data.toList := fun hm => by have := key_low h c hm; omega
theorem num_not {n : Int} {c : UInt8} (h1 : c.toNat ≠ 45) (h2 : c.toNat < 48 ∨ 57 < c.toNat) : c ∉ itoa n := fun hm => by
  rcases itoa_num n c hm with h | h <;> omega
theorem prO_opT {o : Opr} (h : chkO o = 0) : prO (opT o) = some (bare o) := by
  obtain ⟨h1, h2, h3, h4, h5, h6⟩ := chkO_zero.1 h
  obtain ⟨kd, key, src, n⟩ := o
  simp only at h1 h2 h3 h4 h5 h6
  have hk := key_sgn h3
  have hkd : kd = 1 ∨ kd = 2 ∨ kd = 3 ∨ kd = 4 ∨ kd = 5 := by omega
  unfold prO
  rcases hkd with rfl | rfl | rfl | rfl | rfl
  · rw [show opT ⟨1, key, src, n⟩ = key.data.toList ++ 61 :: itoa n from rfl, sgn_of (by decide) hk]
    simp only
    rw [if_neg (by decide), rdN_val (h5 (by decide))]
    simp [kdOf, bs_of, bare]
  · rw [show opT ⟨2, key, src, n⟩ = key.data.toList ++ 43 :: itoa n from rfl, sgn_of (by decide) hk]
    simp only
    rw [if_neg (by decide), rdN_val (h5 (by decide))]
    simp [kdOf, bs_of, bare]
  · rw [show opT ⟨3, key, src, n⟩ = key.data.toList ++ 60 :: src.data.toList from rfl, sgn_of (by decide) hk]
    simp only
    rw [if_pos trivial, rdF, cut_no (key_not (h4 (.inl rfl)).1 (by decide))]
    simp [bs_of, bare]
  · rw [show opT ⟨4, key, src, n⟩ = key.data.toList ++ 63 :: itoa n from rfl, sgn_of (by decide) hk]
    simp only
    rw [if_neg (by decide), rdN_val (h5 (by decide))]
    simp [kdOf, bs_of, bare]
  · rw [show opT ⟨5, key, src, n⟩ = key.data.toList ++ 60 :: (src.data.toList ++ 42 :: itoa n) from rfl, sgn_of (by decide) hk]
    simp only
    rw [if_pos trivial, rdF, cut_hit (key_not (h4 (.inr rfl)).1 (by decide))]
    simp only
    rw [rdN_val (h5 (by decide))]
    simp [bs_of, bare]
theorem cut_cases (c : UInt8) (l : List UInt8) : (c ∉ l ∧ cut l [c] = (l, [], false)) ∨ ∃ a r, l = a ++ c :: r ∧ c ∉ a ∧ cut l [c] = (a, r, true) := by
  rcases at_byte c l with h | ⟨a, r, rfl, h⟩
  · exact .inl ⟨h, cut_no h⟩
  · exact .inr ⟨a, r, rfl, h, cut_hit h⟩
theorem opT_prO {l : List UInt8} {o : Opr} (h : prO l = some o) : opT o = l ∧ bare o = o := by
  unfold prO at h
  split at h
  · cases h
  · next k c r hs =>
    obtain ⟨rfl, hc, hk, _⟩ := sgn_at hs
    split at h
    · next hc60 =>
      subst hc60
      unfold rdF at h
      rcases cut_cases 42 r with ⟨hn, e⟩ | ⟨a, b, rfl, hn, e⟩
      · rw [e] at h
        injection h with h
        subst h
        exact ⟨rfl, rfl⟩
      · rw [e] at h
        simp only at h
        cases e2 : rdN b with
        | none => rw [e2] at h; cases h
        | some n =>
          rw [e2] at h
          injection h with h
          subst h
          refine ⟨?_, rfl⟩
          rw [← (rdN_some e2).1]; rfl
    · next hc60 =>
      cases e2 : rdN r with
      | none => rw [e2] at h; cases h
      | some n =>
        rw [e2] at h
        injection h with h
        subst h
        have hcs : c = 61 ∨ c = 43 ∨ c = 63 := by
          simp [signs] at hc
          rcases hc with h | h | h | h
          · exact .inl h
          · exact .inr (.inl h)
          · exact absurd h hc60
          · exact .inr (.inr h)
        rcases hcs with rfl | rfl | rfl
        all_goals
          refine ⟨?_, rfl⟩
          rw [← (rdN_some e2).1]; rfl
theorem opT_bare {o : Opr} (h : chkO o = 0) : opT (bare o) = opT o := by
  obtain ⟨g1, g2, _⟩ := chkO_zero.1 h
  obtain ⟨kd, key, src, n⟩ := o
  have hkd : kd = 1 ∨ kd = 2 ∨ kd = 3 ∨ kd = 4 ∨ kd = 5 := by simp only at g1 g2; omega
  rcases hkd with rfl | rfl | rfl | rfl | rfl <;> rfl
theorem opT_not {o : Opr} {c : UInt8} (h : chkO o = 0) (h1 : c.toNat < 97) (h2 : c.toNat ≠ 45) (h3 : c.toNat < 48 ∨ 57 < c.toNat) (h4 : signs.contains c = false) (h5 : c ≠ 42) : c ∉ opT o := by
  obtain ⟨g1, g2, g3, g4, g5, g6⟩ := chkO_zero.1 h
  have k1 := key_not g3 h1
  have k2 : ∀ n, c ∉ itoa n := fun n => num_not h2 h3
  simp [signs] at h4
  obtain ⟨s1, s2, s3, s4⟩ := h4
  unfold opT
  split
  · simp [k1, k2, s1]
  · split
    · simp [k1, k2, s2]
    · split
      · next e => simp [k1, s3, key_not (g4 (.inl e)).1 h1]
      · split
        · simp [k1, k2, s4]
        · next e1 e2 e3 e4 => simp [k1, k2, s3, h5, key_not (g4 (.inr (by omega))).1 h1]
/-- a transaction that is written -/
def tD (d : List Opr) : List UInt8 := join (d.map opT) [59]
/-- operations that are read, one behind the other -/
def prOs (acc : List Opr) : List (List UInt8) → Option (List Opr)
  | [] => some acc
  | w :: r => match prO w with
    | none => none
    | some o => prOs (acc ++ [o]) r
theorem prOs_eq (ws : List (List UInt8)) : ∀ acc d, prOs acc ws = some d ↔ ∃ e, d = acc ++ e ∧ ws.map prO = e.map some := by
  induction ws with
  | nil =>
    intro acc d
    rw [prOs]
    constructor
    · intro h; injection h with h; exact ⟨[], by simp [h], rfl⟩
    · rintro ⟨e, rfl, h⟩
      have : e = [] := by simpa using h.symm
      subst this; simp
  | cons w r ih =>
    intro acc d
    rw [prOs]
    cases e2 : prO w with
    | none =>
      constructor
      · intro h; cases h
      · rintro ⟨e, rfl, h⟩
        rw [List.map_cons, e2] at h
        cases e with
        | nil => simp at h
        | cons x e => simp at h
    | some o =>
      simp only
      rw [ih]
      constructor
      · rintro ⟨e, rfl, h⟩
        exact ⟨o :: e, by simp, by rw [List.map_cons, e2, h]; rfl⟩
      · rintro ⟨e, rfl, h⟩
        rw [List.map_cons, e2] at h
        cases e with
        | nil => simp at h
        | cons x e =>
          simp only [List.map_cons, List.cons.injEq, Option.some.injEq] at h
          obtain ⟨rfl, h⟩ := h
          exact ⟨e, by simp, h⟩
/-- a transaction that is read: the error, and the operations -/
def rdD (l : List UInt8) : Int × List Opr := match prOs [] (spl 59 l) with
  | none => (9, [])
  | some d => if chkD d = 0 then (0, d) else (chkD d, [])
theorem bare_chk {o : Opr} (h : chkO o = 0) : chkO (bare o) = 0 := by
  rw [chkO_zero] at h ⊢
  obtain ⟨h1, h2, h3, h4, h5, h6⟩ := h
  unfold bare
  split
  · next e => exact ⟨h1, h2, h3, h4, fun hh => absurd e hh, fun hh => by simp at hh; omega⟩
  · split
    · exact ⟨h1, h2, h3, h4, h5, h6⟩
    · next e1 e2 => exact ⟨h1, h2, h3, fun hh => by simp at hh; omega, h5, h6⟩
theorem bare_chkD {d : List Opr} (h : chkD d = 0) : chkD (d.map bare) = 0 := by
  rw [chkD_zero] at h ⊢
  refine ⟨by simpa using h.1, by simpa using h.2.1, ?_⟩
  intro o ho
  obtain ⟨p, hp, rfl⟩ := List.mem_map.1 ho
  exact bare_chk (h.2.2 p hp)
theorem spl_tD {d : List Opr} (h : chkD d = 0) : spl 59 (tD d) = d.map opT := by
  have h' := chkD_zero.1 h
  refine spl_join ?_ ?_
  · intro e
    have : d = [] := by simpa using e
    rw [this] at h'
    simp at h'
  · intro x hx
    obtain ⟨o, ho, rfl⟩ := List.mem_map.1 hx
    exact opT_not (h'.2.2 o ho) (by decide) (by decide) (by decide) (by decide) (by decide)
theorem rdD_tD {d : List Opr} (h : chkD d = 0) : rdD (tD d) = (0, d.map bare) := by
  have h' := chkD_zero.1 h
  have e : prOs [] (spl 59 (tD d)) = some (d.map bare) := by
    rw [spl_tD h, prOs_eq]
    refine ⟨d.map bare, rfl, ?_⟩
    rw [List.map_map, List.map_map]
    exact List.map_congr_left fun o ho => prO_opT (h'.2.2 o ho)
  rw [rdD, e]
  simp only
  rw [if_pos (bare_chkD h)]
theorem tD_rdD {l : List UInt8} {d : List Opr} (h : rdD l = (0, d)) : tD d = l ∧ chkD d = 0 ∧ d.map bare = d := by
  unfold rdD at h
  split at h
  · cases h
  · next d' e =>
    split at h
    · next hc =>
      injection h with _ h
      subst h
      rw [prOs_eq] at e
      obtain ⟨e1, rfl, h2⟩ := e
      have key : ∀ (ws : List (List UInt8)) (ds : List Opr), ws.map prO = ds.map some → ds.map opT = ws ∧ ds.map bare = ds := by
        intro ws
        induction ws with
        | nil => intro ds hh; have : ds = [] := by simpa using hh.symm
                 subst this; exact ⟨rfl, rfl⟩
        | cons w ws ih =>
          intro ds hh
          cases ds with
          | nil => simp at hh
          | cons o ds =>
            simp only [List.map_cons, List.cons.injEq] at hh
            obtain ⟨g1, g2⟩ := ih ds hh.2
            obtain ⟨g3, g4⟩ := opT_prO hh.1
            exact ⟨by rw [List.map_cons, g1, g3], by rw [List.map_cons, g2, g4]⟩
      obtain ⟨g1, g2⟩ := key _ _ h2
      exact ⟨by rw [tD, g1, join_spl], hc, g2⟩
    · next hc => injection h with h _; exact absurd h hc
theorem tD_bare {d : List Opr} (h : chkD d = 0) : tD (d.map bare) = tD d := by
  unfold tD; rw [List.map_map]; congr 1; exact List.map_congr_left fun o ho => opT_bare ((chkD_zero.1 h).2.2 o ho)
theorem tD_iff {a b : List Opr} (ha : chkD a = 0) (hb : chkD b = 0) : tD a = tD b ↔ a.map bare = b.map bare := by
  constructor
  · intro h
    have h1 := rdD_tD ha
    rw [h, rdD_tD hb] at h1
    injection h1 with _ h1
    exact h1.symm
  · intro h; rw [← tD_bare ha, ← tD_bare hb, h]
end Go.Proofs.YtmepmiokpcddbabGreatDoor
