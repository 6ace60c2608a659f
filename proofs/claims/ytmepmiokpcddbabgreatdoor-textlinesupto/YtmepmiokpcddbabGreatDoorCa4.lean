/-
  Slices of one-cell values in memory: what they read as, rows of the call's own, append (no body of the program in it).
  Rows of numbers (no body of the program in it).
  Slices of ints in memory (no body of the program in it).
  Is a key in a list? (no program in it)
  Partition maps in memory.
  Boxed variables of the call's own (no program in it).
  Rows apart by the types of their blocks (no body of the program in it).
  Partition maps of the call's own (no body of the program in it).
  Transactions in memory: a slice of them, their first error (no body of the program in it).
-/
import Derived.Test.YtmepmiokpcddbabGreatDoorCa1
import Derived.Test.YtmepmiokpcddbabGreatDoorProg
import Derived.Maps.AppendAt
import Derived.Deep.AppendLies
import Derived.Lib.AppendZerosOnto
import Derived.OwnWalk
import Derived.WalkKit
import Derived.WalkSpells
import Derived.WalkLawsBesides
import Derived.Test.YtmepmiokpcddbabGreatDoorCa2
import Derived.Deep.QuietTactic
import Derived.BigQuiet
set_option linter.unusedVariables false
set_option linter.unusedSimpArgs false
namespace Go.Proofs.YtmepmiokpcddbabGreatDoor
open Go.RowKit

/-- a slice reads as a list of values -/
def VS (w : World) (A : Option Addr) (vs : List Value) : Prop := ∀ i v, vs[i]? = some v → ∃ b o, A = some ⟨b, o, none⟩ ∧ b < w.heap.size ∧ w.cell? ⟨b, o + i, none⟩ = some v
theorem VS.below {w w' : World} {A : Option Addr} {vs : List Value} (h : VS w A vs) (hb : Below w.heap.size w w') : VS w' A vs := fun i p hp => by
  obtain ⟨b, o, e, hlt, h1⟩ := h i p hp
  exact ⟨b, o, e, Nat.lt_of_lt_of_le hlt hb.size, (hb.cell hlt).trans h1⟩
theorem VS.nil {w : World} {A : Option Addr} : VS w A [] := fun i p hp => by simp at hp
theorem VS.take_ {w : World} {A : Option Addr} {vs : List Value} (h : VS w A vs) (q : Nat) : VS w A (vs.take q) := fun i p hp => by
  rw [List.getElem?_take] at hp
  split at hp
  · exact h i p hp
  · cases hp
theorem VS.drop_ {w : World} {b o : Nat} {vs : List Value} (h : VS w (some ⟨b, o, none⟩) vs) (q : Nat) : VS w (some ⟨b, o + q, none⟩) (vs.drop q) := fun i p hp => by
  rw [List.getElem?_drop] at hp
  obtain ⟨b', o', e, hlt, h1⟩ := h _ p hp
  injection e with e
  injection e with e1 e2 _
  subst e1; subst e2
  rw [← Nat.add_assoc] at h1
  exact ⟨_, _, rfl, hlt, h1⟩
/-- a slice that the call itself has made: its row lies from block B on -/
def OR (w : World) (B : Nat) (t : TypeId) (A : Option Addr) (c : Nat) (xs : List Value) : Prop := w.ownsRow B t 1 (.slice A xs.length c) xs.length xs
section
variable {w w' : World} {B B' : Nat} {t : TypeId} {A : Option Addr} {c : Nat} {xs : List Value}
theorem OR.mono (h : OR w B t A c xs) (hB : B' ≤ B) : OR w B' t A c xs :=
  ⟨h.1, h.2.imp id fun ⟨g, cap, cur, h1, h2, h3⟩ => ⟨g, cap, cur, h1, Nat.le_trans hB h2, h3⟩⟩
theorem OR.below (h : OR w B t A c xs) (hb : Below w.heap.size w w') : OR w' B t A c xs :=
  ⟨h.1, h.2.imp id fun ⟨g, cap, cur, h1, h2, h3, h4⟩ => ⟨g, cap, cur, h1, h2, (hb.block g (Array.getElem?_eq_some_iff.1 h3).1).trans h3, h4⟩⟩
theorem OR.vs (h : OR w B t A c xs) : VS w A xs := by
  rcases Nat.eq_zero_or_pos xs.length with h0 | h0
  · rw [List.length_eq_zero_iff.1 h0]; exact VS.nil
  · obtain ⟨g, cap, hv, _, hlt⟩ := World.ownsRow.form h h0
    injection hv with a b d
    subst a; subst d
    refine fun i p hp => ⟨g, 0, rfl, hlt, ?_⟩
    have := h.cells (g := g) rfl _ _ hp
    rw [Addr.add_lit] at this
    exact this
theorem OR.of_own {n : Nat} {v : Value} (h : w.ownsRow B t 1 v n xs) : ∃ A c, v = .slice A xs.length c ∧ OR w B t A c xs := by
  have hn : n = xs.length := by have := h.1; omega
  subst hn
  rcases h.2 with ⟨rfl, h0⟩ | ⟨g, cap, cur, rfl, h2⟩
  · exact ⟨none, 0, by rw [h0], by unfold OR; rw [h0]; exact h0 ▸ h⟩
  · exact ⟨_, _, rfl, h⟩
theorem OR.nil (w : World) (B : Nat) (t : TypeId) : OR w B t none 0 [] := World.ownsRow_nil w _ _ _
theorem OR.caps (h : OR w B t A c xs) : xs.length ≤ c ∧ c ≤ maxLen ∧ (A = none → c = 0) ∧ (∀ a, A = some a → ∃ g, a = ⟨g, 0, none⟩ ∧ B ≤ g ∧ g < w.heap.size) := by
  rcases h.2 with ⟨hv, h0⟩ | ⟨g, cap, cur, hv, h2, h3, h4, h5, _⟩
  · injection hv with a b d
    subst a; subst d
    exact ⟨by omega, Nat.zero_le _, (fun _ => rfl), (fun a e => by cases e)⟩
  · injection hv with a b d
    subst a; subst d
    exact ⟨h4, h5, (fun e => by cases e), (fun a e => by injection e with e; exact ⟨g, e.symm, h2, (Array.getElem?_eq_some_iff.1 h3).1⟩)⟩
end
/-- append of new values onto a row of the call's own -/
theorem app_row {P : Program} {st t : TypeId} {z : Value} {bytes : Nat} (hS : P.underlying st = some (.slice t)) (hI : (P.info? t).map (fun i => (i.zero, i.size, i.bytes)) = some (some z, 1, bytes)) (hz : z.cells.size = 1)
    (w : World) (base : Nat) (ty : TypeId) (A : Option Addr) (c : Nat) (xs : List Value) (hown : OR w base t A c xs) (news : List Value) (h1 : ∀ u ∈ news, u.oneCell' = true)
    (h63 : (xs.length + news.length) * bytes ≤ 140737488355328) (hby : 1 ≤ bytes) (hbase : base ≤ w.heap.size) :
    ∃ A' c' w', (Builtin.append_ #[st, st] ty #[.slice A xs.length c, .slice (some ⟨w.heap.size, 0, none⟩) news.length news.length]).run P (w.alloc (.cells news.toArray t)) = .ok (.slice A' (xs ++ news).length c') w' ∧ OR w' base t A' c' (xs ++ news) ∧ (∀ B a, B ≤ base → Below B a w → Below B a w') ∧ (w.alloc (.cells news.toArray t)).grownBy w' (Value.slice A xs.length c).ownBlock ∧
      ((Value.slice A' (xs ++ news).length c').ownBlock = (Value.slice A xs.length c).ownBlock ∨ (Value.slice A' (xs ++ news).length c').ownBlock = some (w.heap.size + 1)) := by
  obtain ⟨i0, hi, hz0, hz1, hz2⟩ := info_parts hI
  have hle : xs.length + news.length ≤ 140737488355328 := Nat.le_trans (Nat.le_mul_of_pos_right _ hby) h63
  have hm : xs.length + news.length ≤ maxLen := by unfold maxLen; omega
  have hc : ∀ j u, news[j]? = some u → (w.alloc (.cells news.toArray t)).cell? ((⟨w.heap.size, 0, none⟩ : Addr).add j) = some u := by
    intro j u hu
    rw [Addr.add_lit]
    simp only [World.cell?]
    rw [heap_alloc_new]
    simp [hu]
  have hown' : (w.alloc (.cells news.toArray t)).ownsRow base t 1 (.slice A xs.length c) xs.length xs := World.ownsRow.alloc hown _
  obtain ⟨v', w', hrun, h2, h3, _, h5⟩ := run_append_own_at (P := P) (w.alloc (.cells news.toArray t)) base st ty t i0 _ 1 bytes hS hi hz0 hz1 hz2 hz (by decide) _ xs.length xs hown' ⟨w.heap.size, 0, none⟩ news.length news.length news (by simp) hc h1 hm h63 (by simp; omega)
  rw [← List.length_append] at h2
  obtain ⟨A', c', rfl, ho⟩ := OR.of_own h2
  refine ⟨A', c', w', hrun, ho, fun B a hB hb => ?_, h3, by simpa using h5⟩
  have hb' := hb.alloc (Nat.le_trans hB hbase) (.cells news.toArray t)
  exact hb'.grown h3 (by simp; omega) fun k hk => Nat.le_trans hB (World.ownsRow.lt hown' k hk).1
/-- rows that lie apart -/
theorem rows_apart {v v' : Value} {m : Nat} (h1 : ∀ k, v.ownBlock = some k → m ≤ k) (h2 : ∀ k, v'.ownBlock = some k → k < m) : v.ownBlock = none ∨ v.ownBlock ≠ v'.ownBlock := by
  cases h : v.ownBlock with
  | none => exact .inl rfl
  | some k => exact .inr fun e => by have := h1 k h; have := h2 k e.symm; omega
theorem boolInfo : (Tryz.prog.info? 4).map (fun i => (i.zero, i.size, i.bytes)) = some (some (.bool false), 1, 1) := by kernel_rfl
theorem strInfo : (Tryz.prog.info? 9).map (fun i => (i.zero, i.size, i.bytes)) = some (some (.string ByteArray.empty), 1, 16) := by kernel_rfl
end Go.Proofs.YtmepmiokpcddbabGreatDoor

set_option linter.unusedVariables false
set_option linter.unusedSimpArgs false
namespace Go.Proofs.YtmepmiokpcddbabGreatDoor
open Go.RowKit

theorem intInfo : (Tryz.prog.info? 3).map (fun i => (i.zero, i.size, i.bytes)) = some (some (.int .i64 0), 1, 8) := by kernel_rfl
def nV (l : List Nat) : List Value := l.map fun (k : Nat) => Value.int .i64 (k : Int)
theorem nV_append (l m : List Nat) : nV (l ++ m) = nV l ++ nV m := by simp [nV]
theorem nV_length (l : List Nat) : (nV l).length = l.length := by simp [nV]
/-- numbers are handed back -/
def RetN (w : World) (l : List Nat) (e : Ending) (w' : World) : Prop := ∃ A c, e = .returned (.slice A l.length c) ∧ OR w' w.heap.size 3 A c (nV l) ∧ Below w.heap.size w w'
end Go.Proofs.YtmepmiokpcddbabGreatDoor

set_option linter.unusedVariables false
set_option linter.unusedSimpArgs false
namespace Go.Proofs.YtmepmiokpcddbabGreatDoor
open Go.RowKit

/-- a slice of ints that reads as a list -/
def IS (w : World) (A : Option Addr) (zs : List Int) : Prop := ∀ i z, zs[i]? = some z → ∃ b o, A = some ⟨b, o, none⟩ ∧ b < w.heap.size ∧ w.cell? ⟨b, o + i, none⟩ = some (.int .i64 z)
theorem IS.below {w w' : World} {A : Option Addr} {zs : List Int} (h : IS w A zs) (hb : Below w.heap.size w w') : IS w' A zs := fun i p hp => by
  obtain ⟨b, o, e, hlt, h1⟩ := h i p hp
  exact ⟨b, o, e, Nat.lt_of_lt_of_le hlt hb.size, (hb.cell hlt).trans h1⟩
theorem IS.nil {w : World} {A : Option Addr} : IS w A [] := fun i p hp => by simp at hp
theorem IS.take_ {w : World} {A : Option Addr} {zs : List Int} (h : IS w A zs) (q : Nat) : IS w A (zs.take q) := fun i p hp => by
  rw [List.getElem?_take] at hp
  split at hp
  · exact h i p hp
  · cases hp
theorem IS.drop_ {w : World} {b o : Nat} {zs : List Int} (h : IS w (some ⟨b, o, none⟩) zs) (q : Nat) : IS w (some ⟨b, o + q, none⟩) (zs.drop q) := fun i p hp => by
  rw [List.getElem?_drop] at hp
  obtain ⟨b', o', e, hlt, h1⟩ := h _ p hp
  injection e with e
  injection e with e1 e2 _
  subst e1; subst e2
  rw [← Nat.add_assoc] at h1
  exact ⟨_, _, rfl, hlt, h1⟩
/-- numbers as ints -/
def zI (l : List Nat) : List Int := l.map fun (k : Nat) => (k : Int)
theorem zI_len (l : List Nat) : (zI l).length = l.length := by simp [zI]
theorem VS.is_ {w : World} {A : Option Addr} {l : List Nat} (h : VS w A (nV l)) : IS w A (zI l) := fun i z hz => by
  have hi : i < l.length := by
    have := (List.getElem?_eq_some_iff.1 hz).1
    rwa [zI_len] at this
  have e : z = (l[i] : Int) := by
    have := (List.getElem?_eq_some_iff.1 hz).2
    simp [zI] at this
    exact this.symm
  subst e
  exact h i (.int .i64 (l[i] : Int)) (by simp [nV, hi])
theorem slice_some (b o n ct m : Nat) (hm : m ≤ n) (hc : n ≤ ct) (w : World) : (Instr.slice 26 (.slice (some ⟨b, o, none⟩) n ct) (some (.int .i64 (m : Int))) none none).run Tryz.prog w = .ok (.slice (if ct = m then some ⟨b, o, none⟩ else some ⟨b, o + m, none⟩) (n - m) (ct - m)) w := by
  have g0 : (0 : Int) ≤ (m : Int) := by omega
  have g1 : (m : Int) ≤ (n : Int) := by omega
  have g2 : (n : Int) ≤ (ct : Int) := by omega
  by_cases e : ct = m
  · subst e
    obtain rfl : n = ct := by omega
    clear hm hc
    go_simp
  · rw [if_neg e]
    go_simp
/-- a slice from a place on -/
theorem slice_from {T : Option Addr} {ct m : Nat} {zs : List Int} {w : World} (hI : IS w T zs) (h1 : 1 ≤ m) (hm : m ≤ zs.length) (hc : zs.length ≤ ct) :
    ∃ T', (∀ w, (Instr.slice 26 (.slice T zs.length ct) (some (.int .i64 (m : Int))) none none).run Tryz.prog w = .ok (.slice T' (zs.length - m) (ct - m)) w) ∧ IS w T' (zs.drop m) := by
  obtain ⟨b, o, rfl, _⟩ := hI 0 zs[0] (List.getElem?_eq_getElem (by omega))
  refine ⟨_, fun w => slice_some b o zs.length ct m hm hc w, ?_⟩
  by_cases e : ct = m
  · rw [if_pos e, List.drop_of_length_le (by omega)]; exact IS.nil
  · rw [if_neg e]; exact hI.drop_ m
end Go.Proofs.YtmepmiokpcddbabGreatDoor

set_option linter.unusedVariables false
set_option linter.unusedSimpArgs false
namespace Go.Proofs.YtmepmiokpcddbabGreatDoor

/-- is a key in a list? -/
def inB (x : ByteArray) (l : List ByteArray) : Bool := l.any fun k => by8 k == by8 x
theorem inB_iff {x : ByteArray} {l : List ByteArray} : inB x l = true ↔ x ∈ l := by
  unfold inB
  rw [List.any_eq_true]
  constructor
  · rintro ⟨k, hk, he⟩
    have := by8_inj (by simpa using he)
    rw [← this]; exact hk
  · exact fun h => ⟨x, h, by simp⟩
theorem inB_no {x : ByteArray} {l : List ByteArray} (h : x ∉ l) : inB x l = false := by
  cases e : inB x l
  · rfl
  · exact absurd (inB_iff.1 e) h
theorem bytes_eq {a b : ByteArray} (h : a = b) : (a.toList == b.toList) = true := by simp [h]
theorem mem_take_next {l : List ByteArray} {k : Nat} (h : k < l.length) {x : ByteArray} (h1 : x ∉ l.take k) (h2 : x ≠ l[k]) : x ∉ l.take (k + 1) := by
  rw [List.take_succ_eq_append_getElem h]
  intro hm
  rcases List.mem_append.1 hm with hm | hm
  · exact h1 hm
  · exact h2 (by simpa using hm)

end Go.Proofs.YtmepmiokpcddbabGreatDoor

set_option linter.unusedVariables false
set_option linter.unusedSimpArgs false
namespace Go.Proofs.YtmepmiokpcddbabGreatDoor
open Go.RowKit

/-- a map as a value: where its cuts and its owners lie -/
structure Mp where
  A : Option Addr
  ca : Nat
  cs : List ByteArray
  O : Option Addr
  co : Nat
  os : List Int
def mpV (m : Mp) : Value := .agg #[.slice m.A m.cs.length m.ca, .slice m.O m.os.length m.co]
/-- what it reads as -/
structure MS (w : World) (m : Mp) : Prop where
  cuts : VS w m.A (m.cs.map Value.string)
  own : IS w m.O m.os
  lc : m.cs.length ≤ m.ca
  lo : m.os.length ≤ m.co
  mc : m.ca ≤ maxLen
  mo : m.co ≤ maxLen
  nc : m.A = none → m.ca = 0
  no : m.O = none → m.co = 0
theorem MS.below {w w' : World} {m : Mp} (h : MS w m) (hb : Below w.heap.size w w') : MS w' m := ⟨h.cuts.below hb, h.own.below hb, h.lc, h.lo, h.mc, h.mo, h.nc, h.no⟩
end Go.Proofs.YtmepmiokpcddbabGreatDoor

set_option linter.unusedVariables false
set_option linter.unusedSimpArgs false
namespace Go.Proofs.YtmepmiokpcddbabGreatDoor
open Go.RowKit

/-- a boxed variable: its cells -/
def Box (w : World) (g : Nat) (t : TypeId) (cs : Array Value) : Prop := w.heap[g]? = some (.cells cs t (0, 0))
section
variable {w w' : World} {g : Nat} {t : TypeId} {cs : Array Value}
theorem Box.lt (h : Box w g t cs) : g < w.heap.size := (Array.getElem?_eq_some_iff.1 h).1
theorem Box.cell (h : Box w g t cs) (i : Nat) {v : Value} (hv : cs[i]? = some v) : w.cell? ⟨g, i, none⟩ = some v := by
  simp only [World.cell?]
  rw [h]
  simp [hv]
theorem Box.frozen (h : Box w g t cs) (i : Nat) : w.frozen? ⟨g, i, none⟩ = false := by simp [World.frozen?, show w.heap[g]? = _ from h]
theorem Box.keep (h : Box w g t cs) (hk : w'.heap[g]? = w.heap[g]?) : Box w' g t cs := hk.trans h
theorem Box.below (h : Box w g t cs) (hb : Below w.heap.size w w') : Box w' g t cs := h.keep (hb.block g h.lt)
theorem Box.drew (h : Box w g t cs) : Box w.drew g t cs := h
theorem Box.alloc (h : Box w g t cs) (o : Obj) : Box (w.alloc o) g t cs := h.keep (Below.heap_alloc _ _ _ h.lt)
theorem Box.new (w : World) (t : TypeId) (cs : Array Value) : Box (w.alloc (.cells cs t)) w.heap.size t cs := heap_alloc_new w _
theorem Box.set (h : Box w g t cs) (i : Nat) (v : Value) : Box (w.setCell ⟨g, i, none⟩ v) g t (cs.setIfInBounds i v) := by
  unfold Box at *
  simp [World.setCell, Array.getElem?_modify, h]
theorem Box.other (h : Box w g t cs) {a : Addr} (ha : a.block ≠ g) (v : Value) : Box (w.setCell a v) g t cs := h.keep (Below.heap_setCell _ _ _ _ (fun e => ha e.symm))
theorem Box.grown (h : Box w g t cs) {row : Option Nat} (hg : w.grownBy w' row) (hne : some g ≠ row) : Box w' g t cs := h.keep (hg.block g h.lt hne)
end
end Go.Proofs.YtmepmiokpcddbabGreatDoor

set_option linter.unusedVariables false
set_option linter.unusedSimpArgs false
namespace Go.Proofs.YtmepmiokpcddbabGreatDoor
open Go.RowKit

/-- is a block of a type? -/
def Ty (w : World) (b : Nat) (t : TypeId) : Prop := ∃ cs fr, w.heap[b]? = some (.cells cs t fr)
theorem Ty.inj {w : World} {b : Nat} {t u : TypeId} (h : Ty w b t) (k : Ty w b u) : t = u := by
  obtain ⟨cs, fr, h⟩ := h
  obtain ⟨cs', fr', k⟩ := k
  rw [h] at k; injection k with k; injection k
theorem Box.ty {w : World} {g : Nat} {t : TypeId} {cs : Array Value} (h : Box w g t cs) : Ty w g t := ⟨_, _, h⟩
theorem own_ty {w : World} {B : Nat} {t : TypeId} {s : Nat} {v : Value} {n : Nat} {xs : List Value} (h : w.ownsRow B t s v n xs) {b : Nat} (hb : v.ownBlock = some b) : Ty w b t := by
  rcases h.2 with ⟨rfl, h0⟩ | ⟨g, cap, cur, rfl, _, hg, _⟩
  · cases hb
  · injection hb with hb; subst hb; exact ⟨_, _, hg⟩
theorem own_ne {w : World} {B : Nat} {t u : TypeId} {s : Nat} {v : Value} {n : Nat} {xs : List Value} (h : w.ownsRow B t s v n xs) {r : Nat} (hr : Ty w r u) (hne : t ≠ u) : v.ownBlock = none ∨ v.ownBlock ≠ some r := by
  cases hb : v.ownBlock with
  | none => exact .inl rfl
  | some b => exact .inr fun e => by injection e with e; subst e; exact hne ((own_ty h hb).inj hr)
theorem own_ne_map {w : World} {B : Nat} {t : TypeId} {s : Nat} {v : Value} {n : Nat} {xs : List Value} (h : w.ownsRow B t s v n xs) {r : Nat} {es : Array MapEntry} {clock : Nat} (hr : w.heap[r]? = some (.map es clock)) : v.ownBlock = none ∨ v.ownBlock ≠ some r := by
  cases hb : v.ownBlock with
  | none => exact .inl rfl
  | some b =>
    refine .inr fun e => ?_
    injection e with e
    subst e
    obtain ⟨cs, fr, h2⟩ := own_ty h hb
    rw [hr] at h2
    cases h2

theorem own_below {w w' : World} {B : Nat} {t : TypeId} {s : Nat} {v : Value} {n : Nat} {xs : List Value} (h : w.ownsRow B t s v n xs) (hb : Below w.heap.size w w') : w'.ownsRow B t s v n xs :=
  h.kept (row := none) ⟨hb.os, hb.tape, hb.output, hb.size, fun k hk _ => hb.block k hk⟩ (by cases v.ownBlock <;> simp)
theorem rows_ne {w : World} {B B' : Nat} {t u : TypeId} {s s' : Nat} {v v' : Value} {n n' : Nat} {xs xs' : List Value} (h : w.ownsRow B t s v n xs) (h' : w.ownsRow B' u s' v' n' xs') (hne : t ≠ u) : v.ownBlock = none ∨ v.ownBlock ≠ v'.ownBlock := by
  cases hb : v'.ownBlock with
  | none => cases v.ownBlock <;> simp
  | some r => exact own_ne h (own_ty h' hb) hne
theorem own_mono {w : World} {B B' : Nat} {t : TypeId} {s : Nat} {v : Value} {n : Nat} {xs : List Value} (h : w.ownsRow B t s v n xs) (hB : B' ≤ B) : w.ownsRow B' t s v n xs :=
  ⟨h.1, h.2.imp id fun ⟨g, cap, cur, h1, h2, h3⟩ => ⟨g, cap, cur, h1, Nat.le_trans hB h2, h3⟩⟩
end Go.Proofs.YtmepmiokpcddbabGreatDoor

set_option linter.unusedVariables false
set_option linter.unusedSimpArgs false
namespace Go.Proofs.YtmepmiokpcddbabGreatDoor
open Go.RowKit

/-- a map of the call's own -/
structure MO (w : World) (B : Nat) (m : Mp) : Prop where
  cuts : OR w B 9 m.A m.ca (m.cs.map Value.string)
  own : OR w B 3 m.O m.co (m.os.map (Value.int .i64))
theorem VS.is_int {w : World} {A : Option Addr} {l : List Int} (h : VS w A (l.map (Value.int .i64))) : IS w A l := fun i z hz => h i (.int .i64 z) (by rw [List.getElem?_map, hz]; rfl)
theorem IS.vs {w : World} {A : Option Addr} {l : List Int} (h : IS w A l) : VS w A (l.map (Value.int .i64)) := fun i v hv => by
  rw [List.getElem?_map] at hv
  cases hz : l[i]? with
  | none => rw [hz] at hv; cases hv
  | some z => rw [hz] at hv; injection hv with hv; subst hv; exact h i z hz
theorem MO.ms {w : World} {B : Nat} {m : Mp} (h : MO w B m) : MS w m := by
  obtain ⟨c1, c2, c3, _⟩ := h.cuts.caps
  obtain ⟨d1, d2, d3, _⟩ := h.own.caps
  rw [List.length_map] at c1 d1
  exact ⟨h.cuts.vs, h.own.vs.is_int, c1, d1, c2, d2, c3, d3⟩
theorem MO.below {w w' : World} {B : Nat} {m : Mp} (h : MO w B m) (hb : Below w.heap.size w w') : MO w' B m := ⟨h.cuts.below hb, h.own.below hb⟩
theorem MO.mono {w : World} {B B' : Nat} {m : Mp} (h : MO w B m) (hB : B' ≤ B) : MO w B' m := ⟨h.cuts.mono hB, h.own.mono hB⟩
/-- no map -/
def noM : Mp := ⟨none, 0, [], none, 0, []⟩
theorem noM_mo (w : World) (B : Nat) : MO w B noM := ⟨OR.nil _ _ _, OR.nil _ _ _⟩
theorem grown_set (w : World) (g i : Nat) (v : Value) : w.grownBy (w.setCell ⟨g, i, none⟩ v) (some g) := ⟨rfl, rfl, rfl, by simp [World.setCell], fun j _ hne => Below.heap_setCell w _ _ j (fun e => hne (by rw [e]))⟩
theorem OR.set {w : World} {B g i : Nat} {t u : TypeId} {A : Option Addr} {c : Nat} {xs : List Value} {v : Value} (h : OR w B t A c xs) (ht : Ty w g u) (hne : t ≠ u) : OR (w.setCell ⟨g, i, none⟩ v) B t A c xs := World.ownsRow.kept h (grown_set w g i v) (own_ne h ht hne)
theorem MO.set {w : World} {B g i : Nat} {m : Mp} {v : Value} (h : MO w B m) (ht : Ty w g 28) : MO (w.setCell ⟨g, i, none⟩ v) B m := ⟨h.cuts.set ht (by decide), h.own.set ht (by decide)⟩
theorem below_set {a w : World} {g i : Nat} {v : Value} (h : Below a.heap.size a w) (hg : a.heap.size ≤ g) : Below a.heap.size a (w.setCell ⟨g, i, none⟩ v) := h.grown (grown_set w g i v) h.size (fun b hb => by injection hb with hb; subst hb; exact hg)
/-- the result's box is written -/
theorem res_set {w wr : World} {gr : Nat} {a b : Value} {n : Mp} (hr : Box wr gr 28 #[a, b]) (hl : w.heap.size ≤ gr) (hn : MO wr w.heap.size n) (hb : Below w.heap.size w wr) (x y : Value) :
    MO ((wr.setCell ⟨gr, 0, none⟩ x).setCell ⟨gr, 1, none⟩ y) w.heap.size n ∧ Below w.heap.size w ((wr.setCell ⟨gr, 0, none⟩ x).setCell ⟨gr, 1, none⟩ y) :=
  ⟨(hn.set hr.ty).set (hr.set 0 x).ty, below_set (below_set hb hl) hl⟩
end Go.Proofs.YtmepmiokpcddbabGreatDoor

set_option linter.unusedVariables false
set_option linter.unusedSimpArgs false
namespace Go.Proofs.YtmepmiokpcddbabGreatDoor
open Go.RowKit

/-- a transaction in memory: where its operations lie, their capacity, what they are -/
structure Dl where
  D : Option Addr
  c : Nat
  d : List Opr
def dlV (x : Dl) : Value := .slice x.D x.d.length x.c
/-- a slice of transactions -/
structure DS (w : World) (A : Option Addr) (ds : List Dl) : Prop where
  vs : VS w A (ds.map dlV)
  os : ∀ x ∈ ds, OS w w.heap.size x.D x.d
theorem DS.below {w w' : World} {A : Option Addr} {ds : List Dl} (h : DS w A ds) (hb : Below w.heap.size w w') : DS w' A ds := ⟨h.vs.below hb, fun x hx => (h.os x hx).go hb⟩
theorem DS.at_ {w : World} {A : Option Addr} {ds : List Dl} (h : DS w A ds) {k : Nat} (hk : k < ds.length) : (∃ b o, A = some ⟨b, o, none⟩ ∧ b < w.heap.size ∧ w.cell? ⟨b, o + k, none⟩ = some (dlV ds[k])) ∧ OS w w.heap.size (ds[k]).D (ds[k]).d :=
  ⟨h.vs k _ (by simp [hk]), h.os _ (List.getElem_mem hk)⟩
/-- the first error of a list of transactions -/
def chkDs : List (List Opr) → Int
  | [] => 0
  | d :: r => if chkD d = 0 then chkDs r else chkD d
theorem chkDs_next {l : List (List Opr)} {k : Nat} (h : k < l.length) : chkDs (l.drop k) = if chkD l[k] = 0 then chkDs (l.drop (k + 1)) else chkD l[k] := by
  rw [List.drop_eq_getElem_cons h]; rfl
theorem chkDs_zero {l : List (List Opr)} : chkDs l = 0 ↔ ∀ d ∈ l, chkD d = 0 := by
  induction l with
  | nil => simp [chkDs]
  | cons o r ih =>
    by_cases h : chkD o = 0
    · simp [chkDs, h, ih]
    · simp [chkDs, h]
end Go.Proofs.YtmepmiokpcddbabGreatDoor
