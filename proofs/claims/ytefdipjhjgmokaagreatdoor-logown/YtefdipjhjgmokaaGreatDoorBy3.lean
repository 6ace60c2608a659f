/-
  Rows of entries in memory (no body of the program in it).
  Rows of one-cell values that are written (no body of the program in it).
  Merging, plainly (no program in it).
  What only a set of blocks, and new ones, change (no body of the program in it).
-/
import Derived.Test.YtefdipjhjgmokaaGreatDoorBy2
import Derived.Test.YtefdipjhjgmokaaGreatDoorBy1
set_option linter.unusedVariables false
set_option linter.unusedSimpArgs false
namespace Go.Proofs.YtefdipjhjgmokaaGreatDoor
open Go.RowKit

/-- the cells of a list of entries -/
def emCells : List Em → List Value
  | [] => []
  | x :: r => .slice x.D x.d.length x.c :: .bool x.isM :: .slice x.m.A x.m.cs.length x.m.ca :: .slice x.m.O x.m.os.length x.m.co :: emCells r
theorem emCells_length (l : List Em) : (emCells l).length = l.length * 4 := by
  induction l with
  | nil => rfl
  | cons p r ih => simp [emCells, ih]; omega
theorem emCells_append (l m : List Em) : emCells (l ++ m) = emCells l ++ emCells m := by
  induction l with
  | nil => rfl
  | cons p r ih => simp [emCells, ih]
theorem emCells_one (x : Em) : (emCells [x]).toArray = emC x := rfl
theorem emCells_get (l : List Em) (i : Nat) (x : Em) (h : l[i]? = some x) : (emCells l)[i * 4]? = some (.slice x.D x.d.length x.c) ∧ (emCells l)[i * 4 + 1]? = some (.bool x.isM) ∧ (emCells l)[i * 4 + 2]? = some (.slice x.m.A x.m.cs.length x.m.ca) ∧ (emCells l)[i * 4 + 3]? = some (.slice x.m.O x.m.os.length x.m.co) := by
  induction l generalizing i with
  | nil => simp at h
  | cons q r ih =>
    cases i with
    | zero => simp at h; subst h; simp [emCells]
    | succ i => simp at h; have := ih i h; rw [show (i + 1) * 4 = i * 4 + 1 + 1 + 1 + 1 by omega]; simpa [emCells] using this
theorem entInfo : (Tryz.prog.info? 42).map (fun i => (i.zero, i.size, i.bytes)) = some (some (.agg #[.slice none 0 0, .bool false, .slice none 0 0, .slice none 0 0]), 4, 80) := by kernel_rfl
/-- a slice of entries: as it reads -/
structure EL (w : World) (A : Option Addr) (l : List Em) : Prop where
  cells : ∀ i x, l[i]? = some x → ∃ b o, A = some ⟨b, o, none⟩ ∧ b < w.heap.size ∧ w.cell? ⟨b, o + i * 4, none⟩ = some (.slice x.D x.d.length x.c) ∧ w.cell? ⟨b, o + i * 4 + 1, none⟩ = some (.bool x.isM) ∧
    w.cell? ⟨b, o + i * 4 + 2, none⟩ = some (.slice x.m.A x.m.cs.length x.m.ca) ∧ w.cell? ⟨b, o + i * 4 + 3, none⟩ = some (.slice x.m.O x.m.os.length x.m.co)
  es : ∀ x ∈ l, ES w x
theorem EL.below {w w' : World} {A : Option Addr} {l : List Em} (h : EL w A l) (hb : Below w.heap.size w w') : EL w' A l :=
  ⟨fun i p hp => by
    obtain ⟨b, o, e, hlt, h1, h2, h3, h4⟩ := h.cells i p hp
    exact ⟨b, o, e, Nat.lt_of_lt_of_le hlt hb.size, (hb.cell hlt).trans h1, (hb.cell hlt).trans h2, (hb.cell hlt).trans h3, (hb.cell hlt).trans h4⟩, fun x hx => (h.es x hx).below hb⟩
theorem EL.nil {w : World} {A : Option Addr} : EL w A [] := ⟨fun i p hp => by simp at hp, fun x hx => by simp at hx⟩
theorem EL.take_ {w : World} {A : Option Addr} {l : List Em} (h : EL w A l) (q : Nat) : EL w A (l.take q) := by
  refine ⟨fun i p hp => ?_, fun x hx => h.es x (List.mem_of_mem_take hx)⟩
  rw [List.getElem?_take] at hp
  split at hp
  · exact h.cells i p hp
  · cases hp
/-- a slice of entries that the call itself has made, and all in them -/
structure EW (w : World) (B : Nat) (A : Option Addr) (c : Nat) (l : List Em) : Prop where
  row : w.ownsRow B 42 4 (.slice A l.length c) l.length (emCells l)
  eo : ∀ x ∈ l, EO w B x
  bd : ∀ x ∈ l, ∀ o ∈ x.d, -9223372036854775808 ≤ o.n ∧ o.n ≤ 9223372036854775807
section
variable {w w' : World} {B B' : Nat} {A : Option Addr} {c : Nat} {l : List Em}
theorem EO.es {x : Em} (h : EO w B x) (hb : ∀ o ∈ x.d, -9223372036854775808 ≤ o.n ∧ o.n ≤ 9223372036854775807) : ES w x := ⟨h.ops.os, h.map.ms, hb⟩
theorem EW.nil (w : World) (B : Nat) : EW w B none 0 [] := ⟨World.ownsRow_nil w _ _ _, by simp, by simp⟩
theorem EW.mono (h : EW w B A c l) (hB : B' ≤ B) : EW w B' A c l := ⟨own_mono h.row hB, fun x hx => (h.eo x hx).mono hB, h.bd⟩
theorem EW.below (h : EW w B A c l) (hb : Below w.heap.size w w') : EW w' B A c l := ⟨own_below h.row hb, fun x hx => (h.eo x hx).below hb, h.bd⟩
theorem EW.el (h : EW w B A c l) : EL w A l := by
  refine ⟨?_, fun x hx => (h.eo x hx).es (h.bd x hx)⟩
  rcases Nat.eq_zero_or_pos l.length with h0 | h0
  · rw [List.length_eq_zero_iff.1 h0]; exact EL.nil (w := w) (A := A) |>.cells
  · obtain ⟨g, cap, hv, _, hlt⟩ := World.ownsRow.form h.row h0
    injection hv with a b e
    subst a; subst e
    have hc := h.row.cells (g := g) rfl
    intro i p hp
    obtain ⟨g1, g2, g3, g4⟩ := emCells_get l i p hp
    have h1 := hc _ _ g1
    have h2 := hc _ _ g2
    have h3 := hc _ _ g3
    have h4 := hc _ _ g4
    rw [Addr.add_lit] at h1 h2 h3 h4
    refine ⟨g, 0, rfl, hlt, h1, ?_, ?_, ?_⟩
    · rw [Nat.add_assoc]; exact h2
    · rw [Nat.add_assoc]; exact h3
    · rw [Nat.add_assoc]; exact h4
theorem EW.caps (h : EW w B A c l) : l.length ≤ c ∧ c ≤ maxLen ∧ (A = none → c = 0) ∧ (∀ a, A = some a → ∃ g, a = ⟨g, 0, none⟩ ∧ B ≤ g ∧ g < w.heap.size) := by
  rcases h.row.2 with ⟨hv, h0⟩ | ⟨g, cap, cur, hv, h2, h3, h4, h5, _⟩
  · injection hv with a b d
    subst a; subst d
    exact ⟨by omega, Nat.zero_le _, (fun _ => rfl), (fun a e => by cases e)⟩
  · injection hv with a b d
    subst a; subst d
    exact ⟨h4, h5, (fun e => by cases e), (fun a e => by injection e with e; exact ⟨g, e.symm, h2, (Array.getElem?_eq_some_iff.1 h3).1⟩)⟩
end
theorem own_keep {w w' : World} {B : Nat} {r : Option Nat} {t : TypeId} {s : Nat} {v : Value} {n : Nat} {xs : List Value} (h : w.ownsRow B t s v n xs) (hg : w.grownBy w' r) (hr : ∀ k, r = some k → ∃ u, Ty w k u ∧ t ≠ u) : w'.ownsRow B t s v n xs := by
  refine World.ownsRow.kept h hg ?_
  cases r with
  | none => cases Value.ownBlock v <;> simp
  | some k =>
    obtain ⟨u, h1, h2⟩ := hr k rfl
    exact own_ne h h1 h2
theorem EO.grown {w w' : World} {B : Nat} {x : Em} {r : Option Nat} (h : EO w B x) (hg : w.grownBy w' r) (hr : ∀ k, r = some k → Ty w k 42) : EO w' B x := by
  have key : ∀ {t : TypeId} {s : Nat} {v : Value} {n : Nat} {xs : List Value}, w.ownsRow B t s v n xs → t ≠ 42 → w'.ownsRow B t s v n xs := fun h hne => by
    refine World.ownsRow.kept h hg ?_
    cases r with
    | none => cases ob : Value.ownBlock _ <;> simp
    | some k => exact own_ne h (hr k rfl) hne
  exact ⟨key h.ops (by decide), ⟨key h.map.cuts (by decide), key h.map.own (by decide)⟩⟩
/-- append of one entry onto such a row -/
theorem app_ent_at {st : TypeId} (hS : Tryz.prog.underlying st = some (.slice 42)) (w : World) (base : Nat) (ty : TypeId) (A : Option Addr) (c : Nat) (l : List Em) (hown : EW w base A c l) (x : Em) (hx : EO w base x) (hbd : ∀ o ∈ x.d, -9223372036854775808 ≤ o.n ∧ o.n ≤ 9223372036854775807) (hl : l.length ≤ 1000000000000) (hbase : base ≤ w.heap.size) :
    ∃ A' c' w', (Builtin.append_ #[st, st] ty #[.slice A l.length c, .slice (some ⟨w.heap.size, 0, none⟩) 1 1]).run Tryz.prog (w.alloc (.cells (emC x) 42)) = .ok (.slice A' (l ++ [x]).length c') w' ∧ EW w' base A' c' (l ++ [x]) ∧
      (w.alloc (.cells (emC x) 42)).grownBy w' (blk A) ∧ (∀ B a, B ≤ base → Below B a w → Below B a w') ∧ (blk A' = blk A ∨ blk A' = some (w.heap.size + 1)) := by
  obtain ⟨i0, hi, hz0, hz1, hz2⟩ := info_parts entInfo
  rw [← emCells_one]
  have hc : ∀ j u, (emCells [x])[j]? = some u → (w.alloc (.cells (emCells [x]).toArray 42)).cell? ((⟨w.heap.size, 0, none⟩ : Addr).add j) = some u := by
    intro j u hu
    rw [Addr.add_lit]
    simp only [World.cell?]
    rw [heap_alloc_new]
    simp [hu]
  have hal := (Below.refl w.heap.size w).alloc (Nat.le_refl _) (.cells (emCells [x]).toArray 42)
  have hown' : (w.alloc (.cells (emCells [x]).toArray 42)).ownsRow base 42 4 (.slice A l.length c) l.length (emCells l) := World.ownsRow.alloc hown.row _
  obtain ⟨v', w', hrun, h2, h3, _, h5⟩ := run_append_own_at (P := Tryz.prog) (w.alloc (.cells (emCells [x]).toArray 42)) base st ty 42 i0 _ 4 80 hS hi hz0 hz1 hz2 rfl (by decide) _ l.length (emCells l) hown' ⟨w.heap.size, 0, none⟩ 1 1 (emCells [x]) (by simp [emCells]) hc
    (by intro u hu; simp [emCells] at hu; rcases hu with rfl | rfl | rfl | rfl <;> rfl) (by unfold maxLen; omega) (by omega) (by simp; omega)
  rw [← emCells_append, show l.length + 1 = (l ++ [x]).length by simp] at h2
  obtain ⟨A', c', rfl⟩ : ∃ A' c', v' = .slice A' (l ++ [x]).length c' := by
    rcases h2.2 with ⟨rfl, h0⟩ | ⟨g, cap, cur, rfl, _⟩
    · exact ⟨none, 0, by rw [h0]⟩
    · exact ⟨_, _, rfl⟩
  rw [ownBlock_slice, ownBlock_slice] at h5
  have hty : ∀ k, (Value.slice A l.length c).ownBlock = some k → Ty (w.alloc (.cells (emCells [x]).toArray 42)) k 42 := fun k hk => own_ty hown' hk
  refine ⟨A', c', w', hrun, ⟨h2, fun y hy => ?_, fun y hy => ?_⟩, by rw [ownBlock_slice] at h3; exact h3, fun B a hB hb => ?_, by simpa using h5⟩
  · rcases List.mem_append.1 hy with hy | hy
    · exact ((hown.eo y hy).below hal).grown h3 hty
    · simp at hy; subst hy; exact (hx.below hal).grown h3 hty
  · rcases List.mem_append.1 hy with hy | hy
    · exact hown.bd y hy
    · simp at hy; subst hy; exact hbd
  · have hb' := hb.alloc (Nat.le_trans hB hbase) (.cells (emCells [x]).toArray 42)
    exact hb'.grown h3 (by simp; omega) fun k hk => Nat.le_trans hB (World.ownsRow.lt hown' k hk).1
theorem app_ent (w : World) (base : Nat) (ty : TypeId) (A : Option Addr) (c : Nat) (l : List Em) (hown : EW w base A c l) (x : Em) (hx : EO w base x) (hbd : ∀ o ∈ x.d, -9223372036854775808 ≤ o.n ∧ o.n ≤ 9223372036854775807) (hl : l.length ≤ 1000000000000) (hbase : base ≤ w.heap.size) :
    ∃ A' c' w', (Builtin.append_ #[26, 26] ty #[.slice A l.length c, .slice (some ⟨w.heap.size, 0, none⟩) 1 1]).run Tryz.prog (w.alloc (.cells (emC x) 42)) = .ok (.slice A' (l ++ [x]).length c') w' ∧ EW w' base A' c' (l ++ [x]) ∧
      (w.alloc (.cells (emC x) 42)).grownBy w' (blk A) ∧ (∀ B a, B ≤ base → Below B a w → Below B a w') ∧ (blk A' = blk A ∨ blk A' = some (w.heap.size + 1)) :=
  app_ent_at Tryz.underlying26 w base ty A c l hown x hx hbd hl hbase
end Go.Proofs.YtefdipjhjgmokaaGreatDoor

set_option linter.unusedVariables false
set_option linter.unusedSimpArgs false
namespace Go.Proofs.YtefdipjhjgmokaaGreatDoor
open Go.RowKit

/-- a place of a row of one-cell values of one's own is written -/
theorem OR.set_ {w : World} {B : Nat} {t : TypeId} {g c : Nat} {xs : List Value} (h : OR w B t (some ⟨g, 0, none⟩) c xs) {k : Nat} (hk : k < xs.length) (v : Value) : OR (w.setCell ⟨g, k, none⟩ v) B t (some ⟨g, 0, none⟩) c (xs.set k v) := by
  rcases h.2 with ⟨hv, _⟩ | ⟨g', cap', cur, hv, h1, hb, h3, h4, h5, h6⟩
  · cases hv
  · injection hv with e1 _ e3
    injection e1 with e1
    injection e1 with e1 _ _
    subst e1; subst e3
    have hbx : Box w g t cur := hb
    unfold OR
    rw [List.length_set]
    refine ⟨by rw [List.length_set]; omega, .inr ⟨g, c, cur.setIfInBounds k v, rfl, h1, hbx.set k v, h3, h4, by simp [h5], ?_⟩⟩
    rw [Array.toList_setIfInBounds, List.take_set, h6]
theorem OR.frozen_ {w : World} {B : Nat} {t : TypeId} {g c : Nat} {xs : List Value} (h : OR w B t (some ⟨g, 0, none⟩) c xs) (k : Nat) : w.frozen? ⟨g, k, none⟩ = false := by
  rcases h.2 with ⟨hv, _⟩ | ⟨g', cap', cur, hv, h1, hb, _⟩
  · cases hv
  · injection hv with e1 _ e3
    injection e1 with e1
    injection e1 with e1 _ _
    subst e1
    exact Box.frozen (show Box w g t cur from hb) k
end Go.Proofs.YtefdipjhjgmokaaGreatDoor

set_option linter.unusedVariables false
set_option linter.unusedSimpArgs false
namespace Go.Proofs.YtefdipjhjgmokaaGreatDoor

section
variable {α : Type}
/-- how many batches each input has closed -/
def cloL (ins : List (List (List α))) : List Nat := ins.map (fun b => b.length - 1)
/-- complete rounds -/
def rndM (ins : List (List (List α))) : Nat := (cloL ins).foldl min 60
/-- one round -/
def roundL (ins : List (List (List α))) (r : Nat) : List α := (ins.map fun b => (b[r]?).getD []).flatten
/-- the first rounds -/
def logUp (ins : List (List (List α))) (R : Nat) : List α := ((List.range R).map (roundL ins)).flatten
/-- the log -/
def logM (ins : List (List (List α))) : List α := logUp ins (rndM ins)
/-- the inputs that are waited for -/
def waitM (ins : List (List (List α))) : List Nat := (List.range ins.length).filter fun i => decide ((cloL ins)[i]? = some (rndM ins))
/-- an entry comes in at the open batch of an input -/
def addM (ins : List (List (List α))) (i : Nat) (x : α) : List (List (List α)) := ins.modify i fun b => b.modify (b.length - 1) (· ++ [x])
/-- an input's batch is closed -/
def closeM (ins : List (List (List α))) (i : Nat) : List (List (List α)) := ins.modify i (· ++ [[]])
theorem fold_le (l : List Nat) : ∀ n, l.foldl min n ≤ n ∧ ∀ c ∈ l, l.foldl min n ≤ c := by
  induction l with
  | nil => intro n; exact ⟨Nat.le_refl _, by simp⟩
  | cons a l ih =>
    intro n
    obtain ⟨h1, h2⟩ := ih (min n a)
    refine ⟨by rw [List.foldl_cons]; omega, fun c hc => ?_⟩
    rw [List.foldl_cons]
    rcases List.mem_cons.1 hc with rfl | hc
    · omega
    · exact h2 c hc
theorem fold_ge (l : List Nat) : ∀ n m, m ≤ n → (∀ c ∈ l, m ≤ c) → m ≤ l.foldl min n := by
  induction l with
  | nil => intro n m h _; exact h
  | cons a l ih =>
    intro n m h h2
    rw [List.foldl_cons]
    exact ih _ _ (by have := h2 a (by simp); omega) (fun c hc => h2 c (by simp [hc]))
theorem fold_hit (l : List Nat) : ∀ n, l.foldl min n = n ∨ l.foldl min n ∈ l := by
  induction l with
  | nil => intro n; exact .inl rfl
  | cons a l ih =>
    intro n
    rw [List.foldl_cons]
    rcases ih (min n a) with h | h
    · rcases Nat.le_total n a with h2 | h2
      · left; rw [h]; omega
      · right; rw [h, Nat.min_eq_right h2]; simp
    · right; simp [h]
theorem rnd_le (ins : List (List (List α))) {b : List (List α)} (h : b ∈ ins) : rndM ins ≤ b.length - 1 := (fold_le _ 60).2 _ (List.mem_map_of_mem h)
theorem rnd_60 (ins : List (List (List α))) : rndM ins ≤ 60 := (fold_le _ 60).1
theorem rnd_ge (ins : List (List (List α))) {m : Nat} (h0 : m ≤ 60) (h : ∀ b ∈ ins, m ≤ b.length - 1) : m ≤ rndM ins := fold_ge _ _ _ h0 fun c hc => by
  obtain ⟨b, hb, rfl⟩ := List.mem_map.1 hc
  exact h b hb
theorem rnd_hit (ins : List (List (List α))) (hne : ins ≠ []) (h : ∀ b ∈ ins, b.length - 1 ≤ 60) : ∃ b ∈ ins, rndM ins = b.length - 1 := by
  rcases fold_hit (cloL ins) 60 with e | e
  · cases ins with
    | nil => exact absurd rfl hne
    | cons b r =>
      refine ⟨b, by simp, ?_⟩
      have h1 := h b (by simp)
      have h2 := rnd_le (b :: r) (b := b) (by simp)
      have e' : rndM (b :: r) = 60 := e
      omega
  · obtain ⟨b, hb, e2⟩ := List.mem_map.1 e
    exact ⟨b, hb, e2.symm⟩
theorem modify_map {β γ : Type} (f : β → γ) (g : β → β) (l : List β) (i : Nat) (h : ∀ a, l[i]? = some a → f (g a) = f a) : (l.modify i g).map f = l.map f := by
  refine List.ext_getElem? fun j => ?_
  rw [List.getElem?_map, List.getElem?_map, List.getElem?_modify]
  cases e : l[j]? with
  | none => rfl
  | some a =>
    by_cases hij : i = j
    · subst hij; simp [h a e]
    · simp [hij]
theorem clo_add (ins : List (List (List α))) (i : Nat) (x : α) : cloL (addM ins i x) = cloL ins := modify_map _ _ _ _ fun a _ => by simp
theorem rnd_add (ins : List (List (List α))) (i : Nat) (x : α) : rndM (addM ins i x) = rndM ins := by unfold rndM; rw [clo_add]
theorem wait_add (ins : List (List (List α))) (i : Nat) (x : α) : waitM (addM ins i x) = waitM ins := by
  unfold waitM; rw [rnd_add, clo_add, show (addM ins i x).length = ins.length by simp [addM]]
theorem round_add (ins : List (List (List α))) (i : Nat) (x : α) {r : Nat} (h : r < rndM ins) : roundL (addM ins i x) r = roundL ins r := by
  unfold roundL
  rw [show (addM ins i x).map (fun b => (b[r]?).getD []) = ins.map (fun b => (b[r]?).getD []) from modify_map _ _ _ _ fun a ha => by
    have := rnd_le ins (List.mem_of_getElem? ha)
    rw [List.getElem?_modify]
    have hne : ¬ a.length - 1 = r := by omega
    simp only [hne, if_false]
    cases a[r]? <;> rfl]
theorem logUp_congr {ins ins' : List (List (List α))} {R : Nat} (h : ∀ r, r < R → roundL ins r = roundL ins' r) : logUp ins R = logUp ins' R := by
  unfold logUp
  rw [List.map_congr_left fun r hr => h r (List.mem_range.1 hr)]
theorem log_add (ins : List (List (List α))) (i : Nat) (x : α) : logM (addM ins i x) = logM ins := by
  unfold logM
  rw [rnd_add]
  exact logUp_congr fun r hr => round_add ins i x hr
theorem logUp_succ (ins : List (List (List α))) (R : Nat) : logUp ins (R + 1) = logUp ins R ++ roundL ins R := by
  unfold logUp; rw [List.range_succ]; simp
theorem logUp_add (ins : List (List (List α))) (R k : Nat) : ∃ m, logUp ins (R + k) = logUp ins R ++ m := by
  induction k with
  | zero => exact ⟨[], by simp⟩
  | succ k ih =>
    obtain ⟨m, h⟩ := ih
    exact ⟨m ++ roundL ins (R + k), by rw [← Nat.add_assoc, logUp_succ, h, List.append_assoc]⟩
theorem logUp_le (ins : List (List (List α))) {R R' : Nat} (h : R ≤ R') : ∃ m, logUp ins R' = logUp ins R ++ m := by
  obtain ⟨k, rfl⟩ := Nat.le.dest h
  exact logUp_add ins R k
theorem round_close (ins : List (List (List α))) (i : Nat) {r : Nat} (h : r < rndM ins) : roundL (closeM ins i) r = roundL ins r := by
  unfold roundL
  rw [show (closeM ins i).map (fun b => (b[r]?).getD []) = ins.map (fun b => (b[r]?).getD []) from modify_map _ _ _ _ fun a ha => by
    have := rnd_le ins (List.mem_of_getElem? ha)
    rw [List.getElem?_append_left (by omega)]]
theorem mem_modify {β : Type} {g : β → β} {l : List β} {i : Nat} {b : β} (h : b ∈ l.modify i g) : b ∈ l ∨ ∃ a, l[i]? = some a ∧ b = g a := by
  obtain ⟨j, hj⟩ := List.mem_iff_getElem?.1 h
  rw [List.getElem?_modify] at hj
  cases e : l[j]? with
  | none => rw [e] at hj; simp at hj
  | some a =>
    rw [e] at hj
    by_cases hij : i = j
    · subst hij; simp at hj; exact .inr ⟨a, e, hj.symm⟩
    · simp [hij] at hj; subst hj; exact .inl (List.mem_of_getElem? e)
theorem rnd_close (ins : List (List (List α))) (i : Nat) : rndM ins ≤ rndM (closeM ins i) := rnd_ge _ (rnd_60 _) fun b hb => by
  rcases mem_modify hb with h | ⟨a, ha, rfl⟩
  · exact rnd_le ins h
  · have := rnd_le ins (List.mem_of_getElem? ha); simp; omega
/-- the log grows -/
theorem log_close (ins : List (List (List α))) (i : Nat) : ∃ m, logM (closeM ins i) = logM ins ++ m ∧ (rndM (closeM ins i) = rndM ins → m = []) := by
  obtain ⟨m, h⟩ := logUp_le (closeM ins i) (rnd_close ins i)
  have e : logUp (closeM ins i) (rndM ins) = logUp ins (rndM ins) := logUp_congr fun r hr => round_close ins i hr
  refine ⟨m, by unfold logM; rw [h, e], fun hr => ?_⟩
  rw [hr] at h
  have := congrArg List.length h
  rw [List.length_append] at this
  exact List.length_eq_zero_iff.1 (by omega)
end
section
variable {α β : Type}
/-- every entry turned -/
def mapM3 (f : α → β) (ins : List (List (List α))) : List (List (List β)) := ins.map fun b => b.map fun l => l.map f
theorem clo_map (f : α → β) (ins : List (List (List α))) : cloL (mapM3 f ins) = cloL ins := by simp [cloL, mapM3]
theorem rnd_map (f : α → β) (ins : List (List (List α))) : rndM (mapM3 f ins) = rndM ins := by unfold rndM; rw [clo_map]
theorem wait_map (f : α → β) (ins : List (List (List α))) : waitM (mapM3 f ins) = waitM ins := by
  unfold waitM; rw [clo_map, rnd_map]; simp [mapM3]
theorem round_map (f : α → β) (ins : List (List (List α))) (r : Nat) : roundL (mapM3 f ins) r = (roundL ins r).map f := by
  unfold roundL mapM3
  rw [List.map_map, List.map_flatten, List.map_map]
  congr 1
  refine List.map_congr_left fun b _ => ?_
  simp only [Function.comp_apply, List.getElem?_map]
  cases b[r]? <;> rfl
theorem logUp_map (f : α → β) (ins : List (List (List α))) (R : Nat) : logUp (mapM3 f ins) R = (logUp ins R).map f := by
  unfold logUp
  rw [List.map_flatten, List.map_map]
  congr 1
  exact List.map_congr_left fun r _ => round_map f ins r
theorem log_map (f : α → β) (ins : List (List (List α))) : logM (mapM3 f ins) = (logM ins).map f := by
  unfold logM; rw [rnd_map, logUp_map]
end
end Go.Proofs.YtefdipjhjgmokaaGreatDoor

set_option linter.unusedVariables false
set_option linter.unusedSimpArgs false
namespace Go.Proofs.YtefdipjhjgmokaaGreatDoor
open Go.RowKit

/-- only blocks of a set, and new ones, have changed -/
structure Fr (F : Nat → Prop) (w w' : World) : Prop where
  os : w'.os = w.os
  tape : w'.tape = w.tape
  output : w'.output = w.output
  size : w.heap.size ≤ w'.heap.size
  block : ∀ k, k < w.heap.size → ¬ F k → w'.heap[k]? = w.heap[k]?
section
variable {F F' : Nat → Prop} {w w1 w' a : World} {B : Nat}
theorem Fr.refl (F : Nat → Prop) (w : World) : Fr F w w := ⟨rfl, rfl, rfl, Nat.le_refl _, fun _ _ _ => rfl⟩
theorem Fr.of_below (h : Below w.heap.size w w') : Fr F w w' := ⟨h.os, h.tape, h.output, h.size, fun k hk _ => h.block k hk⟩
theorem Fr.of_grown {r : Option Nat} (h : w.grownBy w' r) (hr : ∀ k, r = some k → F k) : Fr F w w' := ⟨h.os, h.tape, h.output, h.size, fun k hk hF => h.block k hk fun e => hF (hr k e.symm)⟩
theorem Fr.of_set (g i : Nat) (v : Value) (hF : F g) : Fr F w (w.setCell ⟨g, i, none⟩ v) := Fr.of_grown (grown_set w g i v) fun k e => by injection e with e; subst e; exact hF
theorem Fr.trans (h : Fr F w w1) (h2 : Fr F' w1 w') (hF : ∀ k, F' k → F k ∨ w.heap.size ≤ k) : Fr F w w' :=
  ⟨h2.os.trans h.os, h2.tape.trans h.tape, h2.output.trans h.output, Nat.le_trans h.size h2.size, fun k hk hn => (h2.block k (Nat.lt_of_lt_of_le hk h.size) fun e => (hF k e).elim hn fun e2 => absurd hk (Nat.not_lt.2 e2)).trans (h.block k hk hn)⟩
theorem Fr.comp (h : Fr F w w1) (h2 : Fr F w1 w') : Fr F w w' := h.trans h2 fun _ e => .inl e
theorem Fr.below (h : Fr F w w') (hF : ∀ k, F k → B ≤ k) (hB : B ≤ w.heap.size) (hb : Below B a w) : Below B a w' :=
  ⟨h.os.trans hb.os, h.tape.trans hb.tape, h.output.trans hb.output, Nat.le_trans hb.size h.size, fun k hk => (h.block k (Nat.lt_of_lt_of_le hk hB) fun e => absurd hk (Nat.not_lt.2 (hF k e))).trans (hb.block k hk)⟩
theorem Fr.own {t : TypeId} {s : Nat} {v : Value} {n : Nat} {xs : List Value} (hf : Fr F w w') (h : w.ownsRow B t s v n xs) (hn : ∀ k, v.ownBlock = some k → ¬ F k) : w'.ownsRow B t s v n xs :=
  ⟨h.1, h.2.imp id fun ⟨g, cap, cur, h1, h2, h3, h4⟩ => ⟨g, cap, cur, h1, h2, (hf.block g (Array.getElem?_eq_some_iff.1 h3).1 (hn g (by rw [h1]; rfl))).trans h3, h4⟩⟩
/-- no block of the set is of a type -/
def Off (F : Nat → Prop) (w : World) (t : TypeId) : Prop := ∀ k, F k → k < w.heap.size → ∃ u, Ty w k u ∧ t ≠ u
theorem Fr.own_ty {t : TypeId} {s : Nat} {v : Value} {n : Nat} {xs : List Value} (hf : Fr F w w') (h : w.ownsRow B t s v n xs) (ho : Off F w t) : w'.ownsRow B t s v n xs :=
  hf.own h fun k hk hF => by
    obtain ⟨u, h1, h2⟩ := ho k hF (World.ownsRow.lt h k hk).2
    exact h2 ((Go.Proofs.YtefdipjhjgmokaaGreatDoor.own_ty h hk).inj h1)
theorem Fr.box {g : Nat} {t : TypeId} {cs : Array Value} (hf : Fr F w w') (h : Box w g t cs) (hn : ¬ F g) : Box w' g t cs := h.keep (hf.block g h.lt hn)
theorem Fr.box_ty {g : Nat} {t : TypeId} {cs : Array Value} (hf : Fr F w w') (h : Box w g t cs) (ho : Off F w t) : Box w' g t cs := hf.box h fun hF => by
  obtain ⟨u, h1, h2⟩ := ho g hF h.lt
  exact h2 (h.ty.inj h1)
end
end Go.Proofs.YtefdipjhjgmokaaGreatDoor
