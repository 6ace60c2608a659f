/-
  Logs as text, plainly (no program in it).
  What Log answers, plainly (no program in it).
  Rows of entries in memory (no body of the program in it).
-/
import Derived.Test.YtmepmiokpcddbabGreatDoorCa5
import Derived.Lib.ItoaLen
set_option linter.unusedVariables false
set_option linter.unusedSimpArgs false
namespace Go.Proofs.YtmepmiokpcddbabGreatDoor
open Go.Lib

/-- the first lines, read: their entries and how many bytes they are -/
inductive LogTo (l : List UInt8) : List Ent → Nat → Prop
  | nil : LogTo l [] 0
  | snoc {xs : List Ent} {k : Nat} {x : Ent} {n : Nat} (h : LogTo l xs k) (hr : rdE (l.drop k) = (0, x, n)) : LogTo l (xs ++ [x]) (k + n)
/-- lines one behind the other -/
def logT (xs : List Ent) : List UInt8 := (xs.map entT).flatten
theorem logT_snoc (xs : List Ent) (x : Ent) : logT (xs ++ [x]) = logT xs ++ entT x := by simp [logT]
theorem rdE_len {l : List UInt8} {x : Ent} {n : Nat} (h : rdE l = (0, x, n)) : 2 ≤ n ∧ n ≤ l.length := by
  obtain ⟨more, h1, _, _, h4⟩ := ent_rdE h
  have h2 : 2 ≤ (entT x).length := by simp only [entT, lnT, List.length_append, List.length_cons, List.length_nil]; omega
  refine ⟨by omega, ?_⟩
  rw [h1, h4]; simp
theorem LogTo.le {l : List UInt8} {xs : List Ent} {k : Nat} (h : LogTo l xs k) : k ≤ l.length := by
  induction h with
  | nil => exact Nat.zero_le _
  | snoc h hr ih =>
    have := (rdE_len hr).2
    rw [List.length_drop] at this
    omega
/-- a log that was written is read -/
theorem log_read (xs : List Ent) (rest : List UInt8) (h : ∀ x ∈ xs, chkE x = 0) : LogTo (logT xs ++ rest) (xs.map bareE) (logT xs).length := by
  suffices H : ∀ (ys zs : List Ent), xs = ys ++ zs → LogTo (logT xs ++ rest) (ys.map bareE) (logT ys).length from H xs [] (by simp)
  intro ys
  induction hn : ys.length generalizing ys with
  | zero =>
    intro zs _
    have : ys = [] := List.length_eq_zero_iff.1 hn
    subst this
    exact LogTo.nil
  | succ n ih =>
    intro zs hx
    obtain ⟨ws, y, rfl⟩ : ∃ ws y, ys = ws ++ [y] := ⟨ys.dropLast, ys.getLast (by intro e; rw [e] at hn; simp at hn), (List.dropLast_concat_getLast _).symm⟩
    have hl : ws.length = n := by simp at hn; omega
    have h1 := ih ws hl (y :: zs) (by rw [hx]; simp)
    have hy : chkE y = 0 := h y (by rw [hx]; simp)
    have hd : (logT xs ++ rest).drop (logT ws).length = entT y ++ (logT zs ++ rest) := by
      rw [hx]
      simp [logT, List.drop_append]
    have h2 := h1.snoc (x := bareE y) (n := (entT y).length) (by rw [hd]; exact rdE_ent hy _)
    rw [List.map_append, logT_snoc, List.length_append]
    exact h2
/-- what follows has no newline -/
theorem rdE_short {l : List UInt8} (h : (10 : UInt8) ∉ l) : rdE l = (7, ent0, 0) := by
  unfold rdE; rw [cut_no h]; rfl
/-- reading goes one way -/
theorem LogTo.same {l : List UInt8} {xs : List Ent} {k : Nat} (h : LogTo l xs k) : ∀ {ys : List Ent} {m : Nat}, LogTo l ys m → xs.length = ys.length → xs = ys ∧ k = m := by
  induction h with
  | nil =>
    intro ys m h2 hl
    cases h2 with
    | nil => exact ⟨rfl, rfl⟩
    | snoc h2 hr => simp at hl
  | snoc h hr ih =>
    intro ys m h2 hl
    cases h2 with
    | nil => simp at hl
    | snoc h2 hr2 =>
      obtain ⟨rfl, rfl⟩ := ih h2 (by simpa using hl)
      rw [hr] at hr2
      injection hr2 with _ hr2
      injection hr2 with e1 e2
      exact ⟨by rw [e1], by rw [e2]⟩
end Go.Proofs.YtmepmiokpcddbabGreatDoor

set_option linter.unusedVariables false
set_option linter.unusedSimpArgs false
namespace Go.Proofs.YtmepmiokpcddbabGreatDoor
open Go.Lib

/-- what Log answers: the error, the entries, how many bytes -/
inductive LogIs (l : List UInt8) : Int → List Ent → Nat → Prop
  | large (h : 20000 < l.length) : LogIs l 2 [] 0
  | ok {ys : List Ent} {k : Nat} (h : l.length ≤ 20000) (hr : LogTo l ys k) (hs : (rdE (l.drop k)).1 = 7) : LogIs l 0 ys k
  | bad {ys : List Ent} {k : Nat} {q : Int} (h : l.length ≤ 20000) (hr : LogTo l ys k) (hq : (rdE (l.drop k)).1 = q) (h0 : q ≠ 0) (h7 : q ≠ 7) : LogIs l q [] 0
theorem LogTo.cut_ {l : List UInt8} {ys : List Ent} {m : Nat} (h : LogTo l ys m) : ∀ j, j < ys.length → ∃ m', LogTo l (ys.take j) m' ∧ (rdE (l.drop m')).1 = 0 := by
  induction h with
  | nil => intro j hj; simp at hj
  | @snoc xs k x n h hr ih =>
    intro j hj
    rcases Nat.lt_or_ge j xs.length with h1 | h1
    · obtain ⟨m', a, b⟩ := ih j h1
      exact ⟨m', by rw [List.take_append_of_le_length (by omega)]; exact a, b⟩
    · have e : j = xs.length := by simp at hj; omega
      subst e
      exact ⟨k, by simpa using h, by rw [hr]⟩
theorem LogTo.stop {l : List UInt8} {xs ys : List Ent} {k m : Nat} (h : LogTo l xs k) (hs : (rdE (l.drop k)).1 ≠ 0) (h2 : LogTo l ys m) : ys.length ≤ xs.length := by
  rcases Nat.lt_or_ge xs.length ys.length with hl | hl
  · obtain ⟨m', a, b⟩ := h2.cut_ _ hl
    obtain ⟨_, e⟩ := h.same a (by simp; omega)
    subst e; exact absurd b hs
  · exact hl
theorem LogTo.only {l : List UInt8} {xs ys : List Ent} {k m : Nat} (h : LogTo l xs k) (hs : (rdE (l.drop k)).1 ≠ 0) (h2 : LogTo l ys m) (hs2 : (rdE (l.drop m)).1 ≠ 0) : xs = ys ∧ k = m :=
  h.same h2 (Nat.le_antisymm (h2.stop hs2 h) (h.stop hs h2))
/-- one answer -/
theorem LogIs.same {l : List UInt8} {q q' : Int} {ys ys' : List Ent} {k k' : Nat} (h : LogIs l q ys k) (h' : LogIs l q' ys' k') : q = q' ∧ ys = ys' ∧ k = k' := by
  cases h with
  | large h =>
    cases h' with
    | large _ => exact ⟨rfl, rfl, rfl⟩
    | ok h2 _ _ => omega
    | bad h2 _ _ _ _ => omega
  | ok h hr hs =>
    cases h' with
    | large _ => omega
    | ok _ hr2 hs2 =>
      obtain ⟨rfl, rfl⟩ := hr.only (by rw [hs]; decide) hr2 (by rw [hs2]; decide)
      exact ⟨rfl, rfl, rfl⟩
    | bad _ hr2 hq h0 h7 =>
      obtain ⟨rfl, rfl⟩ := hr.only (by rw [hs]; decide) hr2 (by rw [hq]; exact h0)
      exact absurd (hq.symm.trans hs) h7
  | bad h hr hq h0 h7 =>
    cases h' with
    | large _ => omega
    | ok _ hr2 hs2 =>
      obtain ⟨rfl, rfl⟩ := hr.only (by rw [hq]; exact h0) hr2 (by rw [hs2]; decide)
      exact absurd (hq.symm.trans hs2) h7
    | bad _ hr2 hq2 _ _ =>
      obtain ⟨rfl, rfl⟩ := hr.only (by rw [hq]; exact h0) hr2 (by rw [hq2]; assumption)
      exact ⟨hq.symm.trans hq2, rfl, rfl⟩
theorem LogTo.room {l : List UInt8} {ys : List Ent} {k : Nat} (h : LogTo l ys k) : ys.length * 2 ≤ k := by
  induction h with
  | nil => simp
  | snoc h hr ih => have := (rdE_len hr).1; simp; omega
theorem logT_cons (x : Ent) (xs : List Ent) : logT (x :: xs) = entT x ++ logT xs := by simp [logT]
theorem entT_nl {x : Ent} (h : chkE x = 0) : ∃ b, entT x = b ++ [10] ∧ (10 : UInt8) ∉ b := ⟨_, by rw [show entT x = (bodyT x ++ 32 :: itoa (sm (bodyT x))) ++ [10] by simp [entT, lnT]], line_not h⟩
/-- a log that is cut off: its whole lines, and what has no newline -/
theorem log_cut (xs : List Ent) (h : ∀ x ∈ xs, chkE x = 0) : ∀ n, ∃ j rest, j ≤ xs.length ∧ (logT xs).take n = logT (xs.take j) ++ rest ∧ (10 : UInt8) ∉ rest ∧ ((logT xs).take n).count 10 = j := by
  induction xs with
  | nil => intro n; exact ⟨0, [], Nat.le_refl _, by simp [logT], by simp, by simp [logT]⟩
  | cons x r ih =>
    intro n
    obtain ⟨b, hb, hn⟩ := entT_nl (h x (by simp))
    rw [logT_cons, hb]
    rcases Nat.lt_or_ge b.length n with hlt | hge
    · obtain ⟨j, rest, h1, h2, h3, h4⟩ := ih (fun y hy => h y (by simp [hy])) (n - (b.length + 1))
      have e : (b ++ [10] ++ logT r).take n = (b ++ [10]) ++ (logT r).take (n - (b.length + 1)) := by
        rw [List.take_append, List.take_of_length_le (by simp; omega)]; simp
      refine ⟨j + 1, rest, by simp; omega, ?_, h3, ?_⟩
      · rw [e, h2, List.take_succ_cons, logT_cons, hb]; simp
      · rw [e, List.count_append, h4, List.count_append, List.count_eq_zero.2 hn]; simp; omega
    · have e : (b ++ [10] ++ logT r).take n = b.take n := by
        rw [List.append_assoc, List.take_append_of_le_length (by omega)]
      have hm : (10 : UInt8) ∉ b.take n := fun hm => hn (List.mem_of_mem_take hm)
      exact ⟨0, b.take n, Nat.zero_le _, by rw [e]; simp [logT], hm, by rw [e, List.count_eq_zero.2 hm]⟩
/-- a log that was written, and a piece of a line -/
theorem log_is (xs : List Ent) (rest : List UInt8) (h : ∀ x ∈ xs, chkE x = 0) (hr : (10 : UInt8) ∉ rest) (hl : (logT xs ++ rest).length ≤ 20000) : LogIs (logT xs ++ rest) 0 (xs.map bareE) (logT xs).length :=
  .ok hl (log_read xs rest h) (by rw [List.drop_left, rdE_short hr])
theorem logT_len (xs : List Ent) (h : ∀ x ∈ xs, chkE x = 0) : (logT xs).length ≤ xs.length * 300 := by
  induction xs with
  | nil => simp [logT]
  | cons x r ih =>
    have h1 := ih (fun y hy => h y (by simp [hy]))
    have hbl := body_len (h x (by simp))
    have hsl := itoa_length_le (sm (bodyT x) : Int) (by have := sm_lt (bodyT x); omega) (by have := sm_lt (bodyT x); omega)
    rw [logT_cons]
    have htl : (entT x).length ≤ 300 := by simp only [entT, lnT, List.length_append, List.length_cons, List.length_nil]; omega
    rw [List.length_append, List.length_cons]; omega
end Go.Proofs.YtmepmiokpcddbabGreatDoor

set_option linter.unusedVariables false
set_option linter.unusedSimpArgs false
namespace Go.Proofs.YtmepmiokpcddbabGreatDoor
open Go.RowKit

/-- the cells of a list of entries -/
def emCells : List Em → List Value
  | [] => []
  | x :: r => .slice x.D x.d.length x.c :: .bool x.isM :: .slice x.m.A x.m.cs.length x.m.ca :: .slice x.m.O x.m.os.length x.m.co :: emCells r
theorem emCells_length (l : List Em) : (emCells l).length = l.length * 4 := by
  induction l with
  | nil => rfl
  | cons p r ih => simp [emCells, ih]; omega
theorem emCells_append (l m : List Em) : emCells (l ++ m) = emCells l ++ emCells m := by
  induction l with
  | nil => rfl
  | cons p r ih => simp [emCells, ih]
theorem emCells_one (x : Em) : (emCells [x]).toArray = emC x := rfl
theorem emCells_get (l : List Em) (i : Nat) (x : Em) (h : l[i]? = some x) : (emCells l)[i * 4]? = some (.slice x.D x.d.length x.c) ∧ (emCells l)[i * 4 + 1]? = some (.bool x.isM) ∧ (emCells l)[i * 4 + 2]? = some (.slice x.m.A x.m.cs.length x.m.ca) ∧ (emCells l)[i * 4 + 3]? = some (.slice x.m.O x.m.os.length x.m.co) := by
  induction l generalizing i with
  | nil => simp at h
  | cons q r ih =>
    cases i with
    | zero => simp at h; subst h; simp [emCells]
    | succ i => simp at h; have := ih i h; rw [show (i + 1) * 4 = i * 4 + 1 + 1 + 1 + 1 by omega]; simpa [emCells] using this
theorem entInfo : (Tryz.prog.info? 45).map (fun i => (i.zero, i.size, i.bytes)) = some (some (.agg #[.slice none 0 0, .bool false, .slice none 0 0, .slice none 0 0]), 4, 80) := by kernel_rfl
/-- a slice of entries: as it reads -/
structure EL (w : World) (A : Option Addr) (l : List Em) : Prop where
  cells : ∀ i x, l[i]? = some x → ∃ b o, A = some ⟨b, o, none⟩ ∧ b < w.heap.size ∧ w.cell? ⟨b, o + i * 4, none⟩ = some (.slice x.D x.d.length x.c) ∧ w.cell? ⟨b, o + i * 4 + 1, none⟩ = some (.bool x.isM) ∧
    w.cell? ⟨b, o + i * 4 + 2, none⟩ = some (.slice x.m.A x.m.cs.length x.m.ca) ∧ w.cell? ⟨b, o + i * 4 + 3, none⟩ = some (.slice x.m.O x.m.os.length x.m.co)
  es : ∀ x ∈ l, ES w x
theorem EL.below {w w' : World} {A : Option Addr} {l : List Em} (h : EL w A l) (hb : Below w.heap.size w w') : EL w' A l :=
  ⟨fun i p hp => by
    obtain ⟨b, o, e, hlt, h1, h2, h3, h4⟩ := h.cells i p hp
    exact ⟨b, o, e, Nat.lt_of_lt_of_le hlt hb.size, (hb.cell hlt).trans h1, (hb.cell hlt).trans h2, (hb.cell hlt).trans h3, (hb.cell hlt).trans h4⟩, fun x hx => (h.es x hx).below hb⟩
theorem EL.nil {w : World} {A : Option Addr} : EL w A [] := ⟨fun i p hp => by simp at hp, fun x hx => by simp at hx⟩
theorem EL.take_ {w : World} {A : Option Addr} {l : List Em} (h : EL w A l) (q : Nat) : EL w A (l.take q) := by
  refine ⟨fun i p hp => ?_, fun x hx => h.es x (List.mem_of_mem_take hx)⟩
  rw [List.getElem?_take] at hp
  split at hp
  · exact h.cells i p hp
  · cases hp
/-- a slice of entries that the call itself has made, and all in them -/
structure EW (w : World) (B : Nat) (A : Option Addr) (c : Nat) (l : List Em) : Prop where
  row : w.ownsRow B 45 4 (.slice A l.length c) l.length (emCells l)
  eo : ∀ x ∈ l, EO w B x
  bd : ∀ x ∈ l, ∀ o ∈ x.d, -9223372036854775808 ≤ o.n ∧ o.n ≤ 9223372036854775807
section
variable {w w' : World} {B B' : Nat} {A : Option Addr} {c : Nat} {l : List Em}
theorem EO.es {x : Em} (h : EO w B x) (hb : ∀ o ∈ x.d, -9223372036854775808 ≤ o.n ∧ o.n ≤ 9223372036854775807) : ES w x := ⟨h.ops.os, h.map.ms, hb⟩
theorem EW.nil (w : World) (B : Nat) : EW w B none 0 [] := ⟨World.ownsRow_nil w _ _ _, by simp, by simp⟩
theorem EW.mono (h : EW w B A c l) (hB : B' ≤ B) : EW w B' A c l := ⟨own_mono h.row hB, fun x hx => (h.eo x hx).mono hB, h.bd⟩
theorem EW.below (h : EW w B A c l) (hb : Below w.heap.size w w') : EW w' B A c l := ⟨own_below h.row hb, fun x hx => (h.eo x hx).below hb, h.bd⟩
theorem EW.el (h : EW w B A c l) : EL w A l := by
  refine ⟨?_, fun x hx => (h.eo x hx).es (h.bd x hx)⟩
  rcases Nat.eq_zero_or_pos l.length with h0 | h0
  · rw [List.length_eq_zero_iff.1 h0]; exact EL.nil (w := w) (A := A) |>.cells
  · obtain ⟨g, cap, hv, _, hlt⟩ := World.ownsRow.form h.row h0
    injection hv with a b e
    subst a; subst e
    have hc := h.row.cells (g := g) rfl
    intro i p hp
    obtain ⟨g1, g2, g3, g4⟩ := emCells_get l i p hp
    have h1 := hc _ _ g1
    have h2 := hc _ _ g2
    have h3 := hc _ _ g3
    have h4 := hc _ _ g4
    rw [Addr.add_lit] at h1 h2 h3 h4
    refine ⟨g, 0, rfl, hlt, h1, ?_, ?_, ?_⟩
    · rw [Nat.add_assoc]; exact h2
    · rw [Nat.add_assoc]; exact h3
    · rw [Nat.add_assoc]; exact h4
theorem EW.caps (h : EW w B A c l) : l.length ≤ c ∧ c ≤ maxLen ∧ (A = none → c = 0) ∧ (∀ a, A = some a → ∃ g, a = ⟨g, 0, none⟩ ∧ B ≤ g ∧ g < w.heap.size) := by
  rcases h.row.2 with ⟨hv, h0⟩ | ⟨g, cap, cur, hv, h2, h3, h4, h5, _⟩
  · injection hv with a b d
    subst a; subst d
    exact ⟨by omega, Nat.zero_le _, (fun _ => rfl), (fun a e => by cases e)⟩
  · injection hv with a b d
    subst a; subst d
    exact ⟨h4, h5, (fun e => by cases e), (fun a e => by injection e with e; exact ⟨g, e.symm, h2, (Array.getElem?_eq_some_iff.1 h3).1⟩)⟩
end
theorem own_keep {w w' : World} {B : Nat} {r : Option Nat} {t : TypeId} {s : Nat} {v : Value} {n : Nat} {xs : List Value} (h : w.ownsRow B t s v n xs) (hg : w.grownBy w' r) (hr : ∀ k, r = some k → ∃ u, Ty w k u ∧ t ≠ u) : w'.ownsRow B t s v n xs := by
  refine World.ownsRow.kept h hg ?_
  cases r with
  | none => cases Value.ownBlock v <;> simp
  | some k =>
    obtain ⟨u, h1, h2⟩ := hr k rfl
    exact own_ne h h1 h2
theorem EO.grown {w w' : World} {B : Nat} {x : Em} {r : Option Nat} (h : EO w B x) (hg : w.grownBy w' r) (hr : ∀ k, r = some k → Ty w k 45) : EO w' B x := by
  have key : ∀ {t : TypeId} {s : Nat} {v : Value} {n : Nat} {xs : List Value}, w.ownsRow B t s v n xs → t ≠ 45 → w'.ownsRow B t s v n xs := fun h hne => by
    refine World.ownsRow.kept h hg ?_
    cases r with
    | none => cases ob : Value.ownBlock _ <;> simp
    | some k => exact own_ne h (hr k rfl) hne
  exact ⟨key h.ops (by decide), ⟨key h.map.cuts (by decide), key h.map.own (by decide)⟩⟩
/-- append of one entry onto such a row -/
theorem app_ent_at {st : TypeId} (hS : Tryz.prog.underlying st = some (.slice 45)) (w : World) (base : Nat) (ty : TypeId) (A : Option Addr) (c : Nat) (l : List Em) (hown : EW w base A c l) (x : Em) (hx : EO w base x) (hbd : ∀ o ∈ x.d, -9223372036854775808 ≤ o.n ∧ o.n ≤ 9223372036854775807) (hl : l.length ≤ 1000000000000) (hbase : base ≤ w.heap.size) :
    ∃ A' c' w', (Builtin.append_ #[st, st] ty #[.slice A l.length c, .slice (some ⟨w.heap.size, 0, none⟩) 1 1]).run Tryz.prog (w.alloc (.cells (emC x) 45)) = .ok (.slice A' (l ++ [x]).length c') w' ∧ EW w' base A' c' (l ++ [x]) ∧
      (w.alloc (.cells (emC x) 45)).grownBy w' (blk A) ∧ (∀ B a, B ≤ base → Below B a w → Below B a w') ∧ (blk A' = blk A ∨ blk A' = some (w.heap.size + 1)) := by
  obtain ⟨i0, hi, hz0, hz1, hz2⟩ := info_parts entInfo
  rw [← emCells_one]
  have hc : ∀ j u, (emCells [x])[j]? = some u → (w.alloc (.cells (emCells [x]).toArray 45)).cell? ((⟨w.heap.size, 0, none⟩ : Addr).add j) = some u := by
    intro j u hu
    rw [Addr.add_lit]
    simp only [World.cell?]
    rw [heap_alloc_new]
    simp [hu]
  have hal := (Below.refl w.heap.size w).alloc (Nat.le_refl _) (.cells (emCells [x]).toArray 45)
  have hown' : (w.alloc (.cells (emCells [x]).toArray 45)).ownsRow base 45 4 (.slice A l.length c) l.length (emCells l) := World.ownsRow.alloc hown.row _
  obtain ⟨v', w', hrun, h2, h3, _, h5⟩ := run_append_own_at (P := Tryz.prog) (w.alloc (.cells (emCells [x]).toArray 45)) base st ty 45 i0 _ 4 80 hS hi hz0 hz1 hz2 rfl (by decide) _ l.length (emCells l) hown' ⟨w.heap.size, 0, none⟩ 1 1 (emCells [x]) (by simp [emCells]) hc
    (by intro u hu; simp [emCells] at hu; rcases hu with rfl | rfl | rfl | rfl <;> rfl) (by unfold maxLen; omega) (by omega) (by simp; omega)
  rw [← emCells_append, show l.length + 1 = (l ++ [x]).length by simp] at h2
  obtain ⟨A', c', rfl⟩ : ∃ A' c', v' = .slice A' (l ++ [x]).length c' := by
    rcases h2.2 with ⟨rfl, h0⟩ | ⟨g, cap, cur, rfl, _⟩
    · exact ⟨none, 0, by rw [h0]⟩
    · exact ⟨_, _, rfl⟩
  rw [ownBlock_slice, ownBlock_slice] at h5
  have hty : ∀ k, (Value.slice A l.length c).ownBlock = some k → Ty (w.alloc (.cells (emCells [x]).toArray 45)) k 45 := fun k hk => own_ty hown' hk
  refine ⟨A', c', w', hrun, ⟨h2, fun y hy => ?_, fun y hy => ?_⟩, by rw [ownBlock_slice] at h3; exact h3, fun B a hB hb => ?_, by simpa using h5⟩
  · rcases List.mem_append.1 hy with hy | hy
    · exact ((hown.eo y hy).below hal).grown h3 hty
    · simp at hy; subst hy; exact (hx.below hal).grown h3 hty
  · rcases List.mem_append.1 hy with hy | hy
    · exact hown.bd y hy
    · simp at hy; subst hy; exact hbd
  · have hb' := hb.alloc (Nat.le_trans hB hbase) (.cells (emCells [x]).toArray 45)
    exact hb'.grown h3 (by simp; omega) fun k hk => Nat.le_trans hB (World.ownsRow.lt hown' k hk).1
theorem app_ent (w : World) (base : Nat) (ty : TypeId) (A : Option Addr) (c : Nat) (l : List Em) (hown : EW w base A c l) (x : Em) (hx : EO w base x) (hbd : ∀ o ∈ x.d, -9223372036854775808 ≤ o.n ∧ o.n ≤ 9223372036854775807) (hl : l.length ≤ 1000000000000) (hbase : base ≤ w.heap.size) :
    ∃ A' c' w', (Builtin.append_ #[49, 49] ty #[.slice A l.length c, .slice (some ⟨w.heap.size, 0, none⟩) 1 1]).run Tryz.prog (w.alloc (.cells (emC x) 45)) = .ok (.slice A' (l ++ [x]).length c') w' ∧ EW w' base A' c' (l ++ [x]) ∧
      (w.alloc (.cells (emC x) 45)).grownBy w' (blk A) ∧ (∀ B a, B ≤ base → Below B a w → Below B a w') ∧ (blk A' = blk A ∨ blk A' = some (w.heap.size + 1)) :=
  app_ent_at Tryz.underlying49 w base ty A c l hown x hx hbd hl hbase
end Go.Proofs.YtmepmiokpcddbabGreatDoor
