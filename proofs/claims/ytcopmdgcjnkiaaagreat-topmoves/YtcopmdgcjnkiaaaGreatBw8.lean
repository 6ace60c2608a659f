/-
  Replicas, plainly: what entries make of them (no program in it).
  Slices of one-cell values in memory: what they read as, rows of the call's own, append (no body of the program in it).
  Transactions in memory: a slice of them, their first error (no body of the program in it).
  The block of a slice (no program in it).
-/
import Derived.Test.YtcopmdgcjnkiaaaGreatBw2
import Derived.Test.YtcopmdgcjnkiaaaGreatBw7
import Derived.Test.YtcopmdgcjnkiaaaGreatBw1
import Derived.Test.YtcopmdgcjnkiaaaGreatProg
import Derived.Maps.AppendAt
import Derived.Deep.AppendLies
import Derived.Lib.AppendZerosOnto
import Derived.OwnWalk
import Derived.WalkKit
set_option linter.unusedVariables false
set_option linter.unusedSimpArgs false
namespace Go.Proofs.YtcopmdgcjnkiaaaGreat

/-- a replica: its values, its map, what was told -/
structure Sr where
  v : VF
  cs : List ByteArray
  os : List Int
  bs : List Bool
/-- what an entry tells -/
def doneE (v : VF) (x : Ent) : Bool := if x.isM then true else (doneV v x.d).2
/-- an entry is executed -/
def stepR (r : Sr) (x : Ent) : Sr := if x.isM then ⟨r.v, x.cs, x.os, r.bs ++ [true]⟩ else ⟨(doneV r.v x.d).1, r.cs, r.os, r.bs ++ [(doneV r.v x.d).2]⟩
/-- entries are executed -/
def playR (r : Sr) (l : List Ent) : Sr := l.foldl stepR r
theorem stepR_bs (r : Sr) (x : Ent) : (stepR r x).bs = r.bs ++ [doneE r.v x] := by
  unfold stepR doneE
  cases x.isM <;> rfl
theorem playR_nil (r : Sr) : playR r [] = r := rfl
theorem playR_snoc (r : Sr) (l : List Ent) (x : Ent) : playR r (l ++ [x]) = stepR (playR r l) x := by simp [playR]
theorem playR_app (r : Sr) (l m : List Ent) : playR r (l ++ m) = playR (playR r l) m := by simp [playR]
theorem playR_len (l : List Ent) : ∀ r : Sr, (playR r l).bs.length = r.bs.length + l.length := by
  induction l with
  | nil => intro r; rfl
  | cons x l ih =>
    intro r
    have := ih (stepR r x)
    rw [stepR_bs] at this
    show (playR (stepR r x) l).bs.length = _
    rw [this]
    simp; omega
theorem playR_take (r : Sr) (l : List Ent) (k : Nat) (h : k < l.length) : playR r (l.take (k + 1)) = stepR (playR r (l.take k)) l[k] := by
  rw [List.take_succ_eq_append_getElem h, playR_snoc]
/-- Step: its error, what it tells, what it makes -/
def cpQ (log : List Ent) (st : List Sr) (i : Int) : Int := if 0 ≤ i ∧ i < (st.length : Int) then (match st[i.toNat]? with | some r => if r.bs.length < log.length then 0 else 6 | none => 4) else 4
def cpB (log : List Ent) (st : List Sr) (i : Int) : Bool := match st[i.toNat]? with
  | some r => match log[r.bs.length]? with
    | some x => decide (0 ≤ i) && doneE r.v x
    | none => false
  | none => false
def cpS (log : List Ent) (st : List Sr) (i : Int) : List Sr := if 0 ≤ i then (match st[i.toNat]? with
  | some r => match log[r.bs.length]? with
    | some x => st.set i.toNat (stepR r x)
    | none => st
  | none => st) else st
theorem cp_none {log : List Ent} {st : List Sr} {i : Int} (h : ¬ (0 ≤ i ∧ i < (st.length : Int))) : cpQ log st i = 4 ∧ cpB log st i = false ∧ cpS log st i = st := by
  refine ⟨by unfold cpQ; rw [if_neg h], ?_, ?_⟩
  · unfold cpB
    cases e : st[i.toNat]? with
    | none => rfl
    | some r =>
      have h2 := (List.getElem?_eq_some_iff.1 e).1
      have h3 : ¬ 0 ≤ i := fun h0 => h ⟨h0, by omega⟩
      cases e2 : log[r.bs.length]? with
      | none => simp only [e2]
      | some x => simp only [e2, h3, decide_false, Bool.false_and]
  · unfold cpS
    by_cases h0 : 0 ≤ i
    · rw [if_pos h0, List.getElem?_eq_none (by omega)]
    · rw [if_neg h0]
theorem cp_wait {log : List Ent} {st : List Sr} {i : Nat} {r : Sr} (hi : st[i]? = some r) (h : log.length ≤ r.bs.length) : cpQ log st (i : Int) = 6 ∧ cpB log st (i : Int) = false ∧ cpS log st (i : Int) = st := by
  have h2 := (List.getElem?_eq_some_iff.1 hi).1
  have e2 : log[r.bs.length]? = none := List.getElem?_eq_none h
  refine ⟨?_, ?_, ?_⟩
  · unfold cpQ; rw [if_pos (by omega), Int.toNat_natCast, hi]; simp only; rw [if_neg (by omega)]
  · unfold cpB; rw [Int.toNat_natCast, hi]; simp only [e2]
  · unfold cpS; rw [if_pos (by omega), Int.toNat_natCast, hi]; simp only [e2]
theorem cp_go {log : List Ent} {st : List Sr} {i : Nat} {r : Sr} {x : Ent} (hi : st[i]? = some r) (hx : log[r.bs.length]? = some x) : cpQ log st (i : Int) = 0 ∧ cpB log st (i : Int) = doneE r.v x ∧ cpS log st (i : Int) = st.set i (stepR r x) := by
  have h2 := (List.getElem?_eq_some_iff.1 hi).1
  have h3 := (List.getElem?_eq_some_iff.1 hx).1
  refine ⟨?_, ?_, ?_⟩
  · unfold cpQ; rw [if_pos (by omega), Int.toNat_natCast, hi]; simp only; rw [if_pos h3]
  · unfold cpB; rw [Int.toNat_natCast, hi]; simp only [hx]; simp
  · unfold cpS; rw [if_pos (by omega), Int.toNat_natCast, hi]; simp only [hx]
/-- Take: its error, what it makes -/
def ctQ (st : List Sr) (i k : Int) : Int := if (0 ≤ i ∧ i < (st.length : Int)) ∧ (0 ≤ k ∧ k < (st.length : Int)) then (match st[i.toNat]?, st[k.toNat]? with | some r, some q => if q.bs.length < r.bs.length then 6 else 0 | _, _ => 4) else 4
def ctS (st : List Sr) (i k : Int) : List Sr := if ctQ st i k = 0 then (match st[k.toNat]? with | some q => st.set i.toNat q | none => st) else st
theorem ct_none {st : List Sr} {i k : Int} (h : ¬ ((0 ≤ i ∧ i < (st.length : Int)) ∧ (0 ≤ k ∧ k < (st.length : Int)))) : ctQ st i k = 4 ∧ ctS st i k = st := by
  have e : ctQ st i k = 4 := by unfold ctQ; rw [if_neg h]
  exact ⟨e, by unfold ctS; rw [if_neg (by rw [e]; decide)]⟩
theorem ct_wait {st : List Sr} {i k : Nat} {r q : Sr} (hi : st[i]? = some r) (hk : st[k]? = some q) (h : q.bs.length < r.bs.length) : ctQ st (i : Int) (k : Int) = 6 ∧ ctS st (i : Int) (k : Int) = st := by
  have h2 := (List.getElem?_eq_some_iff.1 hi).1
  have h3 := (List.getElem?_eq_some_iff.1 hk).1
  have e : ctQ st (i : Int) (k : Int) = 6 := by unfold ctQ; rw [if_pos (by omega), Int.toNat_natCast, Int.toNat_natCast, hi, hk]; simp only; rw [if_pos h]
  exact ⟨e, by unfold ctS; rw [if_neg (by rw [e]; decide)]⟩
theorem ct_go {st : List Sr} {i k : Nat} {r q : Sr} (hi : st[i]? = some r) (hk : st[k]? = some q) (h : r.bs.length ≤ q.bs.length) : ctQ st (i : Int) (k : Int) = 0 ∧ ctS st (i : Int) (k : Int) = st.set i q := by
  have h2 := (List.getElem?_eq_some_iff.1 hi).1
  have h3 := (List.getElem?_eq_some_iff.1 hk).1
  have e : ctQ st (i : Int) (k : Int) = 0 := by unfold ctQ; rw [if_pos (by omega), Int.toNat_natCast, Int.toNat_natCast, hi, hk]; simp only; rw [if_neg (by omega)]
  exact ⟨e, by unfold ctS; rw [if_pos e, Int.toNat_natCast, Int.toNat_natCast, hk]⟩
theorem cpS_len (log : List Ent) (st : List Sr) (i : Int) : (cpS log st i).length = st.length := by
  unfold cpS
  split
  · split
    · split <;> simp
    · rfl
  · rfl
theorem ctS_len (st : List Sr) (i k : Int) : (ctS st i k).length = st.length := by
  unfold ctS
  split
  · split <;> simp
  · rfl
end Go.Proofs.YtcopmdgcjnkiaaaGreat

set_option linter.unusedVariables false
set_option linter.unusedSimpArgs false
namespace Go.Proofs.YtcopmdgcjnkiaaaGreat
open Go.RowKit

/-- a slice reads as a list of values -/
def VS (w : World) (A : Option Addr) (vs : List Value) : Prop := ∀ i v, vs[i]? = some v → ∃ b o, A = some ⟨b, o, none⟩ ∧ b < w.heap.size ∧ w.cell? ⟨b, o + i, none⟩ = some v
theorem VS.below {w w' : World} {A : Option Addr} {vs : List Value} (h : VS w A vs) (hb : Below w.heap.size w w') : VS w' A vs := fun i p hp => by
  obtain ⟨b, o, e, hlt, h1⟩ := h i p hp
  exact ⟨b, o, e, Nat.lt_of_lt_of_le hlt hb.size, (hb.cell hlt).trans h1⟩
theorem VS.nil {w : World} {A : Option Addr} : VS w A [] := fun i p hp => by simp at hp
theorem VS.take_ {w : World} {A : Option Addr} {vs : List Value} (h : VS w A vs) (q : Nat) : VS w A (vs.take q) := fun i p hp => by
  rw [List.getElem?_take] at hp
  split at hp
  · exact h i p hp
  · cases hp
theorem VS.drop_ {w : World} {b o : Nat} {vs : List Value} (h : VS w (some ⟨b, o, none⟩) vs) (q : Nat) : VS w (some ⟨b, o + q, none⟩) (vs.drop q) := fun i p hp => by
  rw [List.getElem?_drop] at hp
  obtain ⟨b', o', e, hlt, h1⟩ := h _ p hp
  injection e with e
  injection e with e1 e2 _
  subst e1; subst e2
  rw [← Nat.add_assoc] at h1
  exact ⟨_, _, rfl, hlt, h1⟩
/-- a slice that the call itself has made: its row lies from block B on -/
def OR (w : World) (B : Nat) (t : TypeId) (A : Option Addr) (c : Nat) (xs : List Value) : Prop := w.ownsRow B t 1 (.slice A xs.length c) xs.length xs
section
variable {w w' : World} {B B' : Nat} {t : TypeId} {A : Option Addr} {c : Nat} {xs : List Value}
theorem OR.mono (h : OR w B t A c xs) (hB : B' ≤ B) : OR w B' t A c xs :=
  ⟨h.1, h.2.imp id fun ⟨g, cap, cur, h1, h2, h3⟩ => ⟨g, cap, cur, h1, Nat.le_trans hB h2, h3⟩⟩
theorem OR.below (h : OR w B t A c xs) (hb : Below w.heap.size w w') : OR w' B t A c xs :=
  ⟨h.1, h.2.imp id fun ⟨g, cap, cur, h1, h2, h3, h4⟩ => ⟨g, cap, cur, h1, h2, (hb.block g (Array.getElem?_eq_some_iff.1 h3).1).trans h3, h4⟩⟩
theorem OR.vs (h : OR w B t A c xs) : VS w A xs := by
  rcases Nat.eq_zero_or_pos xs.length with h0 | h0
  · rw [List.length_eq_zero_iff.1 h0]; exact VS.nil
  · obtain ⟨g, cap, hv, _, hlt⟩ := World.ownsRow.form h h0
    injection hv with a b d
    subst a; subst d
    refine fun i p hp => ⟨g, 0, rfl, hlt, ?_⟩
    have := h.cells (g := g) rfl _ _ hp
    rw [Addr.add_lit] at this
    exact this
theorem OR.of_own {n : Nat} {v : Value} (h : w.ownsRow B t 1 v n xs) : ∃ A c, v = .slice A xs.length c ∧ OR w B t A c xs := by
  have hn : n = xs.length := by have := h.1; omega
  subst hn
  rcases h.2 with ⟨rfl, h0⟩ | ⟨g, cap, cur, rfl, h2⟩
  · exact ⟨none, 0, by rw [h0], by unfold OR; rw [h0]; exact h0 ▸ h⟩
  · exact ⟨_, _, rfl, h⟩
theorem OR.nil (w : World) (B : Nat) (t : TypeId) : OR w B t none 0 [] := World.ownsRow_nil w _ _ _
theorem OR.caps (h : OR w B t A c xs) : xs.length ≤ c ∧ c ≤ maxLen ∧ (A = none → c = 0) ∧ (∀ a, A = some a → ∃ g, a = ⟨g, 0, none⟩ ∧ B ≤ g ∧ g < w.heap.size) := by
  rcases h.2 with ⟨hv, h0⟩ | ⟨g, cap, cur, hv, h2, h3, h4, h5, _⟩
  · injection hv with a b d
    subst a; subst d
    exact ⟨by omega, Nat.zero_le _, (fun _ => rfl), (fun a e => by cases e)⟩
  · injection hv with a b d
    subst a; subst d
    exact ⟨h4, h5, (fun e => by cases e), (fun a e => by injection e with e; exact ⟨g, e.symm, h2, (Array.getElem?_eq_some_iff.1 h3).1⟩)⟩
end
/-- append of new values onto a row of the call's own -/
theorem app_row {P : Program} {st t : TypeId} {z : Value} {bytes : Nat} (hS : P.underlying st = some (.slice t)) (hI : (P.info? t).map (fun i => (i.zero, i.size, i.bytes)) = some (some z, 1, bytes)) (hz : z.cells.size = 1)
    (w : World) (base : Nat) (ty : TypeId) (A : Option Addr) (c : Nat) (xs : List Value) (hown : OR w base t A c xs) (news : List Value) (h1 : ∀ u ∈ news, u.oneCell' = true)
    (h63 : (xs.length + news.length) * bytes ≤ 140737488355328) (hby : 1 ≤ bytes) (hbase : base ≤ w.heap.size) :
    ∃ A' c' w', (Builtin.append_ #[st, st] ty #[.slice A xs.length c, .slice (some ⟨w.heap.size, 0, none⟩) news.length news.length]).run P (w.alloc (.cells news.toArray t)) = .ok (.slice A' (xs ++ news).length c') w' ∧ OR w' base t A' c' (xs ++ news) ∧ (∀ B a, B ≤ base → Below B a w → Below B a w') ∧ (w.alloc (.cells news.toArray t)).grownBy w' (Value.slice A xs.length c).ownBlock ∧
      ((Value.slice A' (xs ++ news).length c').ownBlock = (Value.slice A xs.length c).ownBlock ∨ (Value.slice A' (xs ++ news).length c').ownBlock = some (w.heap.size + 1)) := by
  obtain ⟨i0, hi, hz0, hz1, hz2⟩ := info_parts hI
  have hle : xs.length + news.length ≤ 140737488355328 := Nat.le_trans (Nat.le_mul_of_pos_right _ hby) h63
  have hm : xs.length + news.length ≤ maxLen := by unfold maxLen; omega
  have hc : ∀ j u, news[j]? = some u → (w.alloc (.cells news.toArray t)).cell? ((⟨w.heap.size, 0, none⟩ : Addr).add j) = some u := by
    intro j u hu
    rw [Addr.add_lit]
    simp only [World.cell?]
    rw [heap_alloc_new]
    simp [hu]
  have hown' : (w.alloc (.cells news.toArray t)).ownsRow base t 1 (.slice A xs.length c) xs.length xs := World.ownsRow.alloc hown _
  obtain ⟨v', w', hrun, h2, h3, _, h5⟩ := run_append_own_at (P := P) (w.alloc (.cells news.toArray t)) base st ty t i0 _ 1 bytes hS hi hz0 hz1 hz2 hz (by decide) _ xs.length xs hown' ⟨w.heap.size, 0, none⟩ news.length news.length news (by simp) hc h1 hm h63 (by simp; omega)
  rw [← List.length_append] at h2
  obtain ⟨A', c', rfl, ho⟩ := OR.of_own h2
  refine ⟨A', c', w', hrun, ho, fun B a hB hb => ?_, h3, by simpa using h5⟩
  have hb' := hb.alloc (Nat.le_trans hB hbase) (.cells news.toArray t)
  exact hb'.grown h3 (by simp; omega) fun k hk => Nat.le_trans hB (World.ownsRow.lt hown' k hk).1
/-- rows that lie apart -/
theorem rows_apart {v v' : Value} {m : Nat} (h1 : ∀ k, v.ownBlock = some k → m ≤ k) (h2 : ∀ k, v'.ownBlock = some k → k < m) : v.ownBlock = none ∨ v.ownBlock ≠ v'.ownBlock := by
  cases h : v.ownBlock with
  | none => exact .inl rfl
  | some k => exact .inr fun e => by have := h1 k h; have := h2 k e.symm; omega
theorem boolInfo : (Tryz.prog.info? 4).map (fun i => (i.zero, i.size, i.bytes)) = some (some (.bool false), 1, 1) := by kernel_rfl
theorem strInfo : (Tryz.prog.info? 9).map (fun i => (i.zero, i.size, i.bytes)) = some (some (.string ByteArray.empty), 1, 16) := by kernel_rfl
end Go.Proofs.YtcopmdgcjnkiaaaGreat

set_option linter.unusedVariables false
set_option linter.unusedSimpArgs false
namespace Go.Proofs.YtcopmdgcjnkiaaaGreat
open Go.RowKit

/-- a transaction in memory: where its operations lie, their capacity, what they are -/
structure Dl where
  D : Option Addr
  c : Nat
  d : List Opr
def dlV (x : Dl) : Value := .slice x.D x.d.length x.c
/-- a slice of transactions -/
structure DS (w : World) (A : Option Addr) (ds : List Dl) : Prop where
  vs : VS w A (ds.map dlV)
  os : ∀ x ∈ ds, OS w w.heap.size x.D x.d
theorem DS.below {w w' : World} {A : Option Addr} {ds : List Dl} (h : DS w A ds) (hb : Below w.heap.size w w') : DS w' A ds := ⟨h.vs.below hb, fun x hx => (h.os x hx).go hb⟩
theorem DS.at_ {w : World} {A : Option Addr} {ds : List Dl} (h : DS w A ds) {k : Nat} (hk : k < ds.length) : (∃ b o, A = some ⟨b, o, none⟩ ∧ b < w.heap.size ∧ w.cell? ⟨b, o + k, none⟩ = some (dlV ds[k])) ∧ OS w w.heap.size (ds[k]).D (ds[k]).d :=
  ⟨h.vs k _ (by simp [hk]), h.os _ (List.getElem_mem hk)⟩
/-- the first error of a list of transactions -/
def chkDs : List (List Opr) → Int
  | [] => 0
  | d :: r => if chkD d = 0 then chkDs r else chkD d
theorem chkDs_next {l : List (List Opr)} {k : Nat} (h : k < l.length) : chkDs (l.drop k) = if chkD l[k] = 0 then chkDs (l.drop (k + 1)) else chkD l[k] := by
  rw [List.drop_eq_getElem_cons h]; rfl
theorem chkDs_zero {l : List (List Opr)} : chkDs l = 0 ↔ ∀ d ∈ l, chkD d = 0 := by
  induction l with
  | nil => simp [chkDs]
  | cons o r ih =>
    by_cases h : chkD o = 0
    · simp [chkDs, h, ih]
    · simp [chkDs, h]
end Go.Proofs.YtcopmdgcjnkiaaaGreat

set_option linter.unusedVariables false
set_option linter.unusedSimpArgs false
namespace Go.Proofs.YtcopmdgcjnkiaaaGreat
open Go.RowKit

/-- the block of a slice's row -/
def blk (A : Option Addr) : Option Nat := A.map (·.block)
theorem ownBlock_slice (A : Option Addr) (n c : Nat) : (Value.slice A n c).ownBlock = blk A := by cases A <;> rfl
end Go.Proofs.YtcopmdgcjnkiaaaGreat
