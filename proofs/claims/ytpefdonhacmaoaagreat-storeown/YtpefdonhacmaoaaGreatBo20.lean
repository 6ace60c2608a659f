/-
  The lock table, plainly: entries, the queues of keys, who waits (no program in it).
  Keys of maps, boxed variables (no body of the program in it).
-/
import Derived.Test.YtpefdonhacmaoaaGreatBo12
import Derived.Test.YtpefdonhacmaoaaGreatBo19
import Derived.Test.YtpefdonhacmaoaaGreatBo1
import Derived.Test.YtpefdonhacmaoaaGreatProg
import Derived.Maps.Own
import Derived.Maps.OwnOps
import Derived.Maps.OwnSet
set_option linter.unusedVariables false
set_option linter.unusedSimpArgs false
namespace Go.Proofs.YtpefdonhacmaoaaGreat

/-- the keys that a transaction uses -/
def uK (d : List Opr) : List ByteArray := keysOf (keysOf (rdL d) ++ keysOf (wrL d))
theorem uK_mem {d : List Opr} {k : ByteArray} : k ∈ uK d ↔ k ∈ rdL d ∨ k ∈ wrL d := by
  unfold uK; rw [keysOf_mem, List.mem_append, keysOf_mem, keysOf_mem]
theorem uK_len (d : List Opr) : (uK d).length ≤ 4 * d.length := by
  have h1 := keysOf_len (keysOf (rdL d) ++ keysOf (wrL d))
  have h2 := keysOf_len (rdL d)
  have h3 := keysOf_len (wrL d)
  have h4 := rdL_len d
  have h5 := wrL_len d
  rw [List.length_append] at h1
  unfold uK
  omega
theorem ltB_irrefl' (a : ByteArray) : ltB a a ≠ true := by intro h; have := ltB_irrefl a; rw [h] at this; cases this
theorem uK_nodup (d : List Opr) : (uK d).Nodup := (keysOf_sorted _).imp fun h e => by subst e; exact ltB_irrefl' _ h

/-- an entry of the table: its number, where its keys lie, the transaction -/
structure En where
  seq : Nat
  A : Option Addr
  c : Nat
  d : List Opr
/-- what an entry claims of a key -/
def cmOf (k : ByteArray) (e : En) : Nat × Bool := (e.seq, inB k (wrL e.d))
/-- the queue of a key -/
def qOf (left : List En) (k : ByteArray) : List (Nat × Bool) := (left.filter fun e => inB k (uK e.d)).map (cmOf k)
theorem qOf_nil (k : ByteArray) : qOf [] k = [] := rfl
theorem qOf_append (l m : List En) (k : ByteArray) : qOf (l ++ m) k = qOf l k ++ qOf m k := by simp [qOf]
theorem qOf_mem {left : List En} {k : ByteArray} {c : Nat × Bool} : c ∈ qOf left k ↔ ∃ e ∈ left, k ∈ uK e.d ∧ cmOf k e = c := by
  simp [qOf, inB_iff, and_assoc]
theorem qOf_len (left : List En) (k : ByteArray) : (qOf left k).length ≤ left.length := by
  unfold qOf; rw [List.length_map]; exact List.length_filter_le _ _
/-- does a number wait in a queue? -/
def waB (q : List (Nat × Bool)) (s : Nat) : Bool := q.any fun c => decide (c.1 < s) && (c.2 || q.contains (s, true))
/-- may an entry go on? -/
def ruB (left : List En) (e : En) : Bool := !(uK e.d).any fun k => waB (qOf left k) e.seq
/-- entries in their order -/
def Asc (left : List En) : Prop := left.Pairwise fun a b => a.seq < b.seq
theorem Asc.inj {left : List En} (h : Asc left) {a b : En} (ha : a ∈ left) (hb : b ∈ left) (e : a.seq = b.seq) : a = b := by
  induction left with
  | nil => cases ha
  | cons x r ih =>
    obtain ⟨h1, h2⟩ := List.pairwise_cons.1 h
    rcases List.mem_cons.1 ha with ea | ha' <;> rcases List.mem_cons.1 hb with eb | hb'
    · rw [ea, eb]
    · have := h1 b hb'; rw [ea] at e; omega
    · have := h1 a ha'; rw [eb] at e; omega
    · exact ih h2 ha' hb'
theorem waB_iff {left : List En} (h : Asc left) {e : En} (he : e ∈ left) {k : ByteArray} (hk : k ∈ uK e.d) : waB (qOf left k) e.seq = true ↔ ∃ x ∈ left, x.seq < e.seq ∧ k ∈ uK x.d ∧ (k ∈ wrL x.d ∨ k ∈ wrL e.d) := by
  have hw : (qOf left k).contains (e.seq, true) = true ↔ k ∈ wrL e.d := by
    rw [List.contains_iff_mem, qOf_mem]
    constructor
    · rintro ⟨x, hx, _, hc⟩
      unfold cmOf at hc
      injection hc with h1 h2
      obtain rfl := h.inj hx he h1
      exact inB_iff.1 h2
    · exact fun hw => ⟨e, he, hk, by unfold cmOf; rw [inB_iff.2 hw]⟩
  unfold waB
  rw [List.any_eq_true]
  constructor
  · rintro ⟨c, hc, hh⟩
    obtain ⟨x, hx, hkx, rfl⟩ := qOf_mem.1 hc
    rw [Bool.and_eq_true, Bool.or_eq_true] at hh
    refine ⟨x, hx, of_decide_eq_true hh.1, hkx, ?_⟩
    rcases hh.2 with h2 | h2
    · exact .inl (inB_iff.1 h2)
    · exact .inr (hw.1 h2)
  · rintro ⟨x, hx, hlt, hkx, hor⟩
    refine ⟨cmOf k x, qOf_mem.2 ⟨x, hx, hkx, rfl⟩, ?_⟩
    rw [Bool.and_eq_true, Bool.or_eq_true]
    refine ⟨decide_eq_true hlt, ?_⟩
    rcases hor with h2 | h2
    · exact .inl (inB_iff.2 h2)
    · exact .inr (hw.2 h2)
theorem clB_iff {a b : List Opr} : clB a b = true ↔ ∃ k, k ∈ uK a ∧ k ∈ uK b ∧ (k ∈ wrL a ∨ k ∈ wrL b) := by
  unfold clB
  rw [Bool.or_eq_true, Bool.or_eq_true, comB_iff, comB_iff, comB_iff]
  constructor
  · rintro ((⟨k, h1, h2⟩ | ⟨k, h1, h2⟩) | ⟨k, h1, h2⟩)
    · exact ⟨k, uK_mem.2 (.inr h1), uK_mem.2 (.inr h2), .inl h1⟩
    · exact ⟨k, uK_mem.2 (.inr h1), uK_mem.2 (.inl h2), .inl h1⟩
    · exact ⟨k, uK_mem.2 (.inl h1), uK_mem.2 (.inr h2), .inr h2⟩
  · rintro ⟨k, h1, h2, h3⟩
    rcases h3 with h3 | h3
    · rcases uK_mem.1 h2 with h2 | h2
      · exact .inl (.inr ⟨k, h3, h2⟩)
      · exact .inl (.inl ⟨k, h3, h2⟩)
    · rcases uK_mem.1 h1 with h1 | h1
      · exact .inr ⟨k, h1, h3⟩
      · exact .inl (.inl ⟨k, h1, h3⟩)
/-- the queues tell who clashes with no earlier one -/
theorem ruB_iff {left : List En} (h : Asc left) {e : En} (he : e ∈ left) : ruB left e = true ↔ ∀ x ∈ left, x.seq < e.seq → clB x.d e.d = false := by
  unfold ruB
  rw [Bool.not_eq_true', List.any_eq_false]
  constructor
  · intro hh x hx hlt
    rw [Bool.eq_false_iff]
    intro hc
    obtain ⟨k, h1, h2, h3⟩ := clB_iff.1 hc
    exact hh k h2 ((waB_iff h he h2).2 ⟨x, hx, hlt, h1, h3⟩)
  · intro hh k hk hw
    obtain ⟨x, hx, hlt, hkx, hor⟩ := (waB_iff h he hk).1 hw
    have := hh x hx hlt
    rw [clB_iff.2 ⟨k, hkx, hk, hor⟩] at this
    cases this
/-- without the entry at a place -/
theorem qOf_eraseIdx {left : List En} (h : Asc left) {i : Nat} (hi : i < left.length) (k : ByteArray) : qOf (left.eraseIdx i) k = if inB k (uK (left[i]).d) = true then (qOf left k).filter (fun c => !decide (c.1 = (left[i]).seq)) else qOf left k := by
  have hsplit : left = left.take i ++ left[i] :: left.drop (i + 1) := by rw [List.getElem_cons_drop]; exact (List.take_append_drop i left).symm
  have herase : left.eraseIdx i = left.take i ++ left.drop (i + 1) := List.eraseIdx_eq_take_drop_succ ..
  have hne : ∀ x ∈ left.take i ++ left.drop (i + 1), x.seq ≠ (left[i]).seq := by
    intro x hx
    have hp : (left.take i ++ left[i] :: left.drop (i + 1)).Pairwise fun a b => a.seq < b.seq := by rw [← hsplit]; exact h
    rw [List.pairwise_append] at hp
    obtain ⟨_, h2, h3⟩ := hp
    rcases List.mem_append.1 hx with hx | hx
    · have := h3 x hx left[i] List.mem_cons_self; omega
    · have := (List.pairwise_cons.1 h2).1 x hx; omega
  have hkeep : ∀ l : List En, (∀ x ∈ l, x.seq ≠ (left[i]).seq) → (qOf l k).filter (fun c => !decide (c.1 = (left[i]).seq)) = qOf l k := by
    intro l hl
    rw [List.filter_eq_self]
    intro c hc
    obtain ⟨x, hx, _, rfl⟩ := qOf_mem.1 hc
    exact by rw [show decide ((cmOf k x).1 = (left[i]).seq) = false from decide_eq_false (hl x hx)]; rfl
  rw [herase]
  have h1 := hkeep (left.take i) fun x hx => hne x (List.mem_append_left _ hx)
  have h2 := hkeep (left.drop (i + 1)) fun x hx => hne x (List.mem_append_right _ hx)
  have hq : qOf left k = qOf (left.take i) k ++ (qOf [left[i]] k ++ qOf (left.drop (i + 1)) k) := by
    rw [← qOf_append, ← qOf_append, List.singleton_append, ← hsplit]
  rw [qOf_append, hq]
  split
  · rename_i hm
    have : (qOf [left[i]] k).filter (fun c => !decide (c.1 = (left[i]).seq)) = [] := by
      simp [qOf, hm, cmOf]
    rw [List.filter_append, List.filter_append, h1, h2, this, List.nil_append]
  · rename_i hm
    have : qOf [left[i]] k = [] := by simp [qOf, hm]
    rw [this, List.nil_append]
end Go.Proofs.YtpefdonhacmaoaaGreat

set_option linter.unusedVariables false
set_option linter.unusedSimpArgs false
namespace Go.Proofs.YtpefdonhacmaoaaGreat
open Go.RowKit Go.Maps

/-- a key as a map's key -/
def kl (k : ByteArray) : Lit := .string k.data.toList
theorem kl_inj {a b : ByteArray} (h : kl a = kl b) : a = b := by
  unfold kl at h; injection h with h; exact by8_inj h
theorem same_kl {a b : ByteArray} (h : (kl a).sameKey (kl b) = true) : a = b := kl_inj (WideAt.sameKey_eq h)
theorem grown_setCell (w : World) (p : Addr) (u : Value) : w.grownBy (w.setCell p u) (some p.block) :=
  ⟨rfl, rfl, rfl, by simp [World.setCell], fun i _ hne => Below.heap_setCell w p u i (fun e => hne (by rw [e]))⟩
theorem box_set {w : World} {g : Nat} {v u : Value} {t : TypeId} (h : w.heap[g]? = some (.cells #[v] t)) : (w.setCell ⟨g, 0, none⟩ u).heap[g]? = some (.cells #[u] t) := by
  simp [World.setCell, Array.getElem?_modify, h]
theorem law9 : Keyed Tryz.prog 9 := string_keyed Tryz.underlying9
end Go.Proofs.YtpefdonhacmaoaaGreat
