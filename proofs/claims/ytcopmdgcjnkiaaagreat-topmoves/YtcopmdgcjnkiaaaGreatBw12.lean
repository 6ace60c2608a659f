/-
  What transactions leave alone, what they hang on, and which of them commute (no program in it).
  Transfers alone, plainly (no program in it).
  Partition maps in memory.
  Rows apart by the types of their blocks (no body of the program in it).
  Partition maps of the call's own (no body of the program in it).
  Entries in memory (no body of the program in it).
-/
import Derived.Test.YtcopmdgcjnkiaaaGreatBw11
import Derived.Test.YtcopmdgcjnkiaaaGreatBw8
import Derived.Test.YtcopmdgcjnkiaaaGreatBw10
import Derived.Test.YtcopmdgcjnkiaaaGreatBw9
import Derived.Test.YtcopmdgcjnkiaaaGreatBw1
import Derived.WalkKit
import Derived.WalkSpells
import Derived.WalkLawsBesides
import Derived.Deep.QuietTactic
import Derived.BigQuiet
import Derived.Test.YtcopmdgcjnkiaaaGreatBw2
set_option linter.unusedVariables false
set_option linter.unusedSimpArgs false
namespace Go.Proofs.YtcopmdgcjnkiaaaGreat
open Go.RowKit

/-- the sum of all values -/
def sumI : List Pr → Int
  | [] => 0
  | p :: r => p.2 + sumI r
theorem sumI_append (l m : List Pr) : sumI (l ++ m) = sumI l + sumI m := by
  induction l with
  | nil => simp [sumI]
  | cons p r ih => simp [sumI, ih]; omega
theorem sumI_put {l : List Pr} (hl : Ok l) {k : ByteArray} (hk : keyB k = true) {n : Int} (hn : valB n = true) {l' : List Pr} (hl' : Ok l') (h : valOf l' = upd (valOf l) k n) : sumI l' = sumI l - valOf l k + n := by
  have hq := posOf_at hl.srt k
  have hp := putL_ok hl hq hk hn
  have e : l' = putL l k n (posOf l k) := hl'.ext hp.1 fun j => by rw [h, hp.2]; rfl
  have hv := valOf_at hq hl.srt
  rw [e]
  generalize posOf l k = q at hq hv
  unfold putL
  by_cases hf : fnd l k q = true
  · rw [if_pos hf, hv, dif_pos hf]
    have hql := fnd_lt hf
    have hs : sumI l = sumI (l.take q) + ((l[q]).2 + sumI (l.drop (q + 1))) := by
      conv => lhs; rw [← List.take_append_drop q l, List.drop_eq_getElem_cons hql]
      rw [sumI_append]; rfl
    rw [sumI_append, sumI_append, hs]
    by_cases h0 : n = 0 <;> simp [h0, sumI] <;> omega
  · rw [if_neg hf, hv, dif_neg hf]
    have hs : sumI l = sumI (l.take q) + sumI (l.drop q) := by rw [← sumI_append, List.take_append_drop]
    rw [sumI_append, sumI_append, hs]
    by_cases h0 : n = 0 <;> simp [h0, sumI] <;> omega
theorem put_exists {l : List Pr} (hl : Ok l) {k : ByteArray} (hk : keyB k = true) {n : Int} (hn : valB n = true) : ∃ l', Ok l' ∧ valOf l' = upd (valOf l) k n :=
  ⟨_, (putL_ok hl (posOf_at hl.srt k) hk hn).1, funext (putL_ok hl (posOf_at hl.srt k) hk hn).2⟩
/-- what only moves keeps the total -/
theorem stepV_total {l : List Pr} (hl : Ok l) {o : Opr} (ho : chkO o = 0) (hk : o.kind = 4 ∨ o.kind = 5) {u : VF} (h : stepV (valOf l) o = some u) : ∃ l', Ok l' ∧ valOf l' = u ∧ sumI l' = sumI l := by
  have hc := chkO_zero.1 ho
  obtain ⟨kd, key, src, n⟩ := o
  simp only at hk hc
  rcases hk with rfl | rfl <;> simp [stepV] at h
  · exact ⟨l, hl, h.2, rfl⟩
  · unfold moveV at h
    simp only at h
    by_cases hlt : valOf l src < n
    · rw [if_pos hlt] at h; cases h
    rw [if_neg hlt] at h
    obtain ⟨hv2, rfl⟩ := putV_some h
    have hs := hc.2.2.2.1 (by simp)
    have hn0 := hc.2.2.2.2.2 rfl
    have hv1 := valB_iff.1 (hl.vb src)
    have hb1 : valB (valOf l src - n) = true := valB_iff.2 (by omega)
    obtain ⟨l1, ok1, e1⟩ := put_exists hl hs.1 hb1
    rw [← e1] at hv2 ⊢
    obtain ⟨l2, ok2, e2⟩ := put_exists ok1 hc.2.2.1 hv2
    refine ⟨l2, ok2, e2, ?_⟩
    rw [sumI_put ok1 hc.2.2.1 hv2 ok2 e2, sumI_put hl hs.1 hb1 ok1 e1]
    omega
theorem runV_total {d : List Opr} (hd : ∀ o ∈ d, chkO o = 0 ∧ (o.kind = 4 ∨ o.kind = 5)) {l : List Pr} (hl : Ok l) {u : VF} (h : runV (valOf l) d = some u) : ∃ l', Ok l' ∧ valOf l' = u ∧ sumI l' = sumI l := by
  induction d generalizing l with
  | nil => injection h with h; exact ⟨l, hl, h, rfl⟩
  | cons o r ih =>
    rw [runV_cons] at h
    cases hs : stepV (valOf l) o with
    | none => rw [hs] at h; cases h
    | some x =>
      rw [hs] at h
      obtain ⟨l1, ok1, e1, s1⟩ := stepV_total hl (hd o (by simp)).1 (hd o (by simp)).2 hs
      subst e1
      obtain ⟨l2, ok2, e2, s2⟩ := ih (fun q hq => hd q (by simp [hq])) ok1 h
      exact ⟨l2, ok2, e2, s2.trans s1⟩
theorem doneV_total {d : List Opr} (hd : ∀ o ∈ d, chkO o = 0 ∧ (o.kind = 4 ∨ o.kind = 5)) {l l' : List Pr} (hl : Ok l) (hl' : Ok l') (h : valOf l' = (doneV (valOf l) d).1) : sumI l' = sumI l := by
  cases hr : runV (valOf l) d with
  | none => rw [doneV_none hr] at h; rw [hl'.ext hl (fun k => by rw [h])]
  | some u =>
    rw [doneV_some hr] at h
    obtain ⟨l2, ok2, e2, s2⟩ := runV_total hd hl hr
    rw [hl'.ext ok2 (fun k => by rw [h, e2])]
    exact s2
theorem sumI_bound {l : List Pr} (h : ∀ p ∈ l, valB p.2 = true) : -1000000000 * (l.length : Int) ≤ sumI l ∧ sumI l ≤ 1000000000 * (l.length : Int) := by
  induction l with
  | nil => simp [sumI]
  | cons p r ih =>
    have := ih fun q hq => h q (by simp [hq])
    have := valB_iff.1 (h p (by simp))
    simp only [sumI, List.length_cons]
    omega
theorem sumW_eq {l : List Pr} (h : Ok l) : sumW l = sumI l := by
  have hsm := h.small
  have key : ∀ k, k ≤ l.length → sumW (l.take k) = sumI (l.take k) := by
    intro k
    induction k with
    | zero => intro _; simp [sumW, sumI]
    | succ k ih =>
      intro hk
      have hb := sumI_bound (l := l.take (k + 1)) fun p hp => h.val p (List.mem_of_mem_take hp)
      rw [sumW_take l k (by omega), ih (by omega)]
      rw [List.take_succ_eq_append_getElem (show k < l.length by omega), sumI_append] at hb ⊢
      simp [sumI] at hb ⊢
      unfold wrap64
      omega
  have := key l.length (Nat.le_refl _)
  rwa [List.take_length] at this
end Go.Proofs.YtcopmdgcjnkiaaaGreat

set_option linter.unusedVariables false
set_option linter.unusedSimpArgs false
namespace Go.Proofs.YtcopmdgcjnkiaaaGreat

/-- an operation that only needs or moves -/
def turnO (o : Opr) : Opr := if o.kind = 4 ∨ o.kind = 5 then o else ⟨5, o.key, kq, o.n⟩
def turnE (x : Ent) : Ent := ⟨x.isM, x.d.map turnO, x.cs, x.os⟩
theorem turnO_kind (o : Opr) : (turnO o).kind = 4 ∨ (turnO o).kind = 5 := by
  unfold turnO
  by_cases h : o.kind = 4 ∨ o.kind = 5
  · rw [if_pos h]; exact h
  · rw [if_neg h]; exact .inr rfl
theorem turnO_twice (o : Opr) : turnO (turnO o) = turnO o := by
  have := turnO_kind o
  unfold turnO at this ⊢
  by_cases h : o.kind = 4 ∨ o.kind = 5
  · rw [if_pos h, if_pos h]
  · rw [if_neg h]; rfl
theorem turnO_good {o : Opr} (h : GoodO o) : chkO (turnO o) = 0 := by
  unfold turnO
  by_cases hk : o.kind = 4 ∨ o.kind = 5
  · rw [if_pos hk]; exact h.chk
  · rw [if_neg hk]
    have hkey : keyB o.key = true := keysL_ok _ h.key
    have hne : ¬ kq = o.key := fun e => kq_not (by rw [e]; exact h.key)
    have hn := h.n
    exact chkO_zero.2 ⟨show (1 : Int) ≤ 5 by decide, show (5 : Int) ≤ 5 by decide, hkey, fun _ => ⟨kq_ok, hne⟩, fun _ => valB_iff'.2 (show -1000000000 ≤ o.n ∧ o.n ≤ 1000000000 by omega), fun _ => hn.1⟩
theorem turnE_chk {x : Ent} (h : chkE x = 0) (hg : ∀ o ∈ x.d, GoodO o) : chkE (turnE x) = 0 := by
  obtain ⟨isM, d, cs, os⟩ := x
  cases isM
  · obtain ⟨h1, h2, h3⟩ := chkD_zero.1 (show chkD d = 0 from h)
    exact chkD_zero.2 ⟨by simpa [turnE] using h1, by simpa [turnE] using h2, fun o ho => by
      obtain ⟨a, ha, rfl⟩ := List.mem_map.1 ho
      exact turnO_good (hg a ha)⟩
  · exact h
theorem turnE_drop {x : Ent} (h : dropE x = x) : dropE (turnE x) = turnE x := by
  obtain ⟨isM, d, cs, os⟩ := x
  cases isM
  · have h1 : ([] : List ByteArray) = cs := congrArg Ent.cs h
    have h2 : ([] : List Int) = os := congrArg Ent.os h
    subst h1; subst h2; rfl
  · have h1 : ([] : List Opr) = d := congrArg Ent.d h
    subst h1; rfl
/-- one such entry keeps the total -/
theorem turn_total {x : Ent} {l l' : List Pr} (hl : Ok l) (hl' : Ok l') (hk : ∀ o ∈ x.d, chkO o = 0 ∧ (o.kind = 4 ∨ o.kind = 5)) {r : Sr} (hr : r.v = valOf l) (h : valOf l' = (stepR r x).v) : sumI l' = sumI l := by
  unfold stepR at h
  cases e : x.isM
  · rw [e] at h
    simp only [Bool.false_eq_true, if_false] at h
    rw [hr] at h
    exact doneV_total hk hl hl' h
  · rw [e] at h
    simp only [if_true] at h
    rw [hr] at h
    rw [hl'.ext hl fun k => congrFun h k]
end Go.Proofs.YtcopmdgcjnkiaaaGreat

set_option linter.unusedVariables false
set_option linter.unusedSimpArgs false
namespace Go.Proofs.YtcopmdgcjnkiaaaGreat
open Go.RowKit

/-- a map as a value: where its cuts and its owners lie -/
structure Mp where
  A : Option Addr
  ca : Nat
  cs : List ByteArray
  O : Option Addr
  co : Nat
  os : List Int
def mpV (m : Mp) : Value := .agg #[.slice m.A m.cs.length m.ca, .slice m.O m.os.length m.co]
/-- what it reads as -/
structure MS (w : World) (m : Mp) : Prop where
  cuts : VS w m.A (m.cs.map Value.string)
  own : IS w m.O m.os
  lc : m.cs.length ≤ m.ca
  lo : m.os.length ≤ m.co
  mc : m.ca ≤ maxLen
  mo : m.co ≤ maxLen
  nc : m.A = none → m.ca = 0
  no : m.O = none → m.co = 0
theorem MS.below {w w' : World} {m : Mp} (h : MS w m) (hb : Below w.heap.size w w') : MS w' m := ⟨h.cuts.below hb, h.own.below hb, h.lc, h.lo, h.mc, h.mo, h.nc, h.no⟩
end Go.Proofs.YtcopmdgcjnkiaaaGreat

set_option linter.unusedVariables false
set_option linter.unusedSimpArgs false
namespace Go.Proofs.YtcopmdgcjnkiaaaGreat
open Go.RowKit

/-- is a block of a type? -/
def Ty (w : World) (b : Nat) (t : TypeId) : Prop := ∃ cs fr, w.heap[b]? = some (.cells cs t fr)
theorem Ty.inj {w : World} {b : Nat} {t u : TypeId} (h : Ty w b t) (k : Ty w b u) : t = u := by
  obtain ⟨cs, fr, h⟩ := h
  obtain ⟨cs', fr', k⟩ := k
  rw [h] at k; injection k with k; injection k
theorem Box.ty {w : World} {g : Nat} {t : TypeId} {cs : Array Value} (h : Box w g t cs) : Ty w g t := ⟨_, _, h⟩
theorem own_ty {w : World} {B : Nat} {t : TypeId} {s : Nat} {v : Value} {n : Nat} {xs : List Value} (h : w.ownsRow B t s v n xs) {b : Nat} (hb : v.ownBlock = some b) : Ty w b t := by
  rcases h.2 with ⟨rfl, h0⟩ | ⟨g, cap, cur, rfl, _, hg, _⟩
  · cases hb
  · injection hb with hb; subst hb; exact ⟨_, _, hg⟩
theorem own_ne {w : World} {B : Nat} {t u : TypeId} {s : Nat} {v : Value} {n : Nat} {xs : List Value} (h : w.ownsRow B t s v n xs) {r : Nat} (hr : Ty w r u) (hne : t ≠ u) : v.ownBlock = none ∨ v.ownBlock ≠ some r := by
  cases hb : v.ownBlock with
  | none => exact .inl rfl
  | some b => exact .inr fun e => by injection e with e; subst e; exact hne ((own_ty h hb).inj hr)
theorem own_ne_map {w : World} {B : Nat} {t : TypeId} {s : Nat} {v : Value} {n : Nat} {xs : List Value} (h : w.ownsRow B t s v n xs) {r : Nat} {es : Array MapEntry} {clock : Nat} (hr : w.heap[r]? = some (.map es clock)) : v.ownBlock = none ∨ v.ownBlock ≠ some r := by
  cases hb : v.ownBlock with
  | none => exact .inl rfl
  | some b =>
    refine .inr fun e => ?_
    injection e with e
    subst e
    obtain ⟨cs, fr, h2⟩ := own_ty h hb
    rw [hr] at h2
    cases h2

theorem own_below {w w' : World} {B : Nat} {t : TypeId} {s : Nat} {v : Value} {n : Nat} {xs : List Value} (h : w.ownsRow B t s v n xs) (hb : Below w.heap.size w w') : w'.ownsRow B t s v n xs :=
  h.kept (row := none) ⟨hb.os, hb.tape, hb.output, hb.size, fun k hk _ => hb.block k hk⟩ (by cases v.ownBlock <;> simp)
theorem rows_ne {w : World} {B B' : Nat} {t u : TypeId} {s s' : Nat} {v v' : Value} {n n' : Nat} {xs xs' : List Value} (h : w.ownsRow B t s v n xs) (h' : w.ownsRow B' u s' v' n' xs') (hne : t ≠ u) : v.ownBlock = none ∨ v.ownBlock ≠ v'.ownBlock := by
  cases hb : v'.ownBlock with
  | none => cases v.ownBlock <;> simp
  | some r => exact own_ne h (own_ty h' hb) hne
theorem own_mono {w : World} {B B' : Nat} {t : TypeId} {s : Nat} {v : Value} {n : Nat} {xs : List Value} (h : w.ownsRow B t s v n xs) (hB : B' ≤ B) : w.ownsRow B' t s v n xs :=
  ⟨h.1, h.2.imp id fun ⟨g, cap, cur, h1, h2, h3⟩ => ⟨g, cap, cur, h1, Nat.le_trans hB h2, h3⟩⟩
end Go.Proofs.YtcopmdgcjnkiaaaGreat

set_option linter.unusedVariables false
set_option linter.unusedSimpArgs false
namespace Go.Proofs.YtcopmdgcjnkiaaaGreat
open Go.RowKit

/-- a map of the call's own -/
structure MO (w : World) (B : Nat) (m : Mp) : Prop where
  cuts : OR w B 9 m.A m.ca (m.cs.map Value.string)
  own : OR w B 3 m.O m.co (m.os.map (Value.int .i64))
theorem VS.is_int {w : World} {A : Option Addr} {l : List Int} (h : VS w A (l.map (Value.int .i64))) : IS w A l := fun i z hz => h i (.int .i64 z) (by rw [List.getElem?_map, hz]; rfl)
theorem IS.vs {w : World} {A : Option Addr} {l : List Int} (h : IS w A l) : VS w A (l.map (Value.int .i64)) := fun i v hv => by
  rw [List.getElem?_map] at hv
  cases hz : l[i]? with
  | none => rw [hz] at hv; cases hv
  | some z => rw [hz] at hv; injection hv with hv; subst hv; exact h i z hz
theorem MO.ms {w : World} {B : Nat} {m : Mp} (h : MO w B m) : MS w m := by
  obtain ⟨c1, c2, c3, _⟩ := h.cuts.caps
  obtain ⟨d1, d2, d3, _⟩ := h.own.caps
  rw [List.length_map] at c1 d1
  exact ⟨h.cuts.vs, h.own.vs.is_int, c1, d1, c2, d2, c3, d3⟩
theorem MO.below {w w' : World} {B : Nat} {m : Mp} (h : MO w B m) (hb : Below w.heap.size w w') : MO w' B m := ⟨h.cuts.below hb, h.own.below hb⟩
theorem MO.mono {w : World} {B B' : Nat} {m : Mp} (h : MO w B m) (hB : B' ≤ B) : MO w B' m := ⟨h.cuts.mono hB, h.own.mono hB⟩
/-- no map -/
def noM : Mp := ⟨none, 0, [], none, 0, []⟩
theorem noM_mo (w : World) (B : Nat) : MO w B noM := ⟨OR.nil _ _ _, OR.nil _ _ _⟩
theorem grown_set (w : World) (g i : Nat) (v : Value) : w.grownBy (w.setCell ⟨g, i, none⟩ v) (some g) := ⟨rfl, rfl, rfl, by simp [World.setCell], fun j _ hne => Below.heap_setCell w _ _ j (fun e => hne (by rw [e]))⟩
theorem OR.set {w : World} {B g i : Nat} {t u : TypeId} {A : Option Addr} {c : Nat} {xs : List Value} {v : Value} (h : OR w B t A c xs) (ht : Ty w g u) (hne : t ≠ u) : OR (w.setCell ⟨g, i, none⟩ v) B t A c xs := World.ownsRow.kept h (grown_set w g i v) (own_ne h ht hne)
theorem MO.set {w : World} {B g i : Nat} {m : Mp} {v : Value} (h : MO w B m) (ht : Ty w g 31) : MO (w.setCell ⟨g, i, none⟩ v) B m := ⟨h.cuts.set ht (by decide), h.own.set ht (by decide)⟩
theorem below_set {a w : World} {g i : Nat} {v : Value} (h : Below a.heap.size a w) (hg : a.heap.size ≤ g) : Below a.heap.size a (w.setCell ⟨g, i, none⟩ v) := h.grown (grown_set w g i v) h.size (fun b hb => by injection hb with hb; subst hb; exact hg)
/-- the result's box is written -/
theorem res_set {w wr : World} {gr : Nat} {a b : Value} {n : Mp} (hr : Box wr gr 31 #[a, b]) (hl : w.heap.size ≤ gr) (hn : MO wr w.heap.size n) (hb : Below w.heap.size w wr) (x y : Value) :
    MO ((wr.setCell ⟨gr, 0, none⟩ x).setCell ⟨gr, 1, none⟩ y) w.heap.size n ∧ Below w.heap.size w ((wr.setCell ⟨gr, 0, none⟩ x).setCell ⟨gr, 1, none⟩ y) :=
  ⟨(hn.set hr.ty).set (hr.set 0 x).ty, below_set (below_set hb hl) hl⟩
end Go.Proofs.YtcopmdgcjnkiaaaGreat

set_option linter.unusedVariables false
set_option linter.unusedSimpArgs false
namespace Go.Proofs.YtcopmdgcjnkiaaaGreat
open Go.RowKit

/-- an entry as a value: where its lists lie -/
structure Em where
  D : Option Addr
  c : Nat
  d : List Opr
  isM : Bool
  m : Mp
def emC (x : Em) : Array Value := #[.slice x.D x.d.length x.c, .bool x.isM, .slice x.m.A x.m.cs.length x.m.ca, .slice x.m.O x.m.os.length x.m.co]
def emV (x : Em) : Value := .agg (emC x)
/-- what it reads as -/
structure ES (w : World) (x : Em) : Prop where
  ops : OS w w.heap.size x.D x.d
  map : MS w x.m
  bd : ∀ o ∈ x.d, -9223372036854775808 ≤ o.n ∧ o.n ≤ 9223372036854775807
theorem ES.below {w w' : World} {x : Em} (h : ES w x) (hb : Below w.heap.size w w') : ES w' x := ⟨h.ops.go hb, h.map.below hb, h.bd⟩
def entOf (x : Em) : Ent := ⟨x.isM, x.d, x.m.cs, x.m.os⟩
/-- an entry of the call's own -/
structure EO (w : World) (B : Nat) (x : Em) : Prop where
  ops : OO w B x.D x.c x.d
  map : MO w B x.m
theorem EO.below {w w' : World} {B : Nat} {x : Em} (h : EO w B x) (hb : Below w.heap.size w w') : EO w' B x := ⟨h.ops.below hb, h.map.below hb⟩
theorem EO.mono {w : World} {B B' : Nat} {x : Em} (h : EO w B x) (hB : B' ≤ B) : EO w B' x := ⟨h.ops.mono hB, h.map.mono hB⟩
/-- no entry -/
def em0 : Em := ⟨none, 0, [], false, noM⟩
theorem em0_eo (w : World) (B : Nat) : EO w B em0 := ⟨OO.nil _ _, noM_mo _ _⟩
end Go.Proofs.YtcopmdgcjnkiaaaGreat
