/-
  Conflicts of transactions, plainly (no program in it).
  The lock table, plainly: entries, the queues of keys, who waits (no program in it).
  The lock table in memory: rows of claims and of entries, the map of queues (no body of the program in it).
-/
import Derived.Test.YtefdipjhjgmokaaGreatBv27
import Derived.Test.YtefdipjhjgmokaaGreatBv2
import Derived.Test.YtefdipjhjgmokaaGreatBv38
import Derived.Laws.CopyRow
set_option linter.unusedVariables false
set_option linter.unusedSimpArgs false
namespace Go.Proofs.YtefdipjhjgmokaaGreat

/-- have two lists a common key? -/
def comB (xs ys : List ByteArray) : Bool := xs.any fun k => inB k ys
theorem comB_keysOf (xs ys : List ByteArray) : comB (keysOf xs) (keysOf ys) = comB xs ys := by
  rw [Bool.eq_iff_iff]; simp [comB, keysOf_mem, inB_iff]
theorem comB_iff {xs ys : List ByteArray} : comB xs ys = true ↔ ∃ k, k ∈ xs ∧ k ∈ ys := by simp [comB, inB_iff]
/-- what Clash answers of valid transactions -/
def clB (a b : List Opr) : Bool := comB (wrL a) (wrL b) || comB (wrL a) (rdL b) || comB (rdL a) (wrL b)
end Go.Proofs.YtefdipjhjgmokaaGreat

set_option linter.unusedVariables false
set_option linter.unusedSimpArgs false
namespace Go.Proofs.YtefdipjhjgmokaaGreat

/-- the keys that a transaction uses -/
def uK (d : List Opr) : List ByteArray := keysOf (keysOf (rdL d) ++ keysOf (wrL d))
theorem uK_mem {d : List Opr} {k : ByteArray} : k ∈ uK d ↔ k ∈ rdL d ∨ k ∈ wrL d := by
  unfold uK; rw [keysOf_mem, List.mem_append, keysOf_mem, keysOf_mem]
theorem uK_len (d : List Opr) : (uK d).length ≤ 4 * d.length := by
  have h1 := keysOf_len (keysOf (rdL d) ++ keysOf (wrL d))
  have h2 := keysOf_len (rdL d)
  have h3 := keysOf_len (wrL d)
  have h4 := rdL_len d
  have h5 := wrL_len d
  rw [List.length_append] at h1
  unfold uK
  omega
theorem ltB_irrefl' (a : ByteArray) : ltB a a ≠ true := by intro h; have := ltB_irrefl a; rw [h] at this; cases this
theorem uK_nodup (d : List Opr) : (uK d).Nodup := (keysOf_sorted _).imp fun h e => by subst e; exact ltB_irrefl' _ h

/-- an entry of the table: its number, where its keys lie, the transaction -/
structure En where
  seq : Nat
  A : Option Addr
  c : Nat
  d : List Opr
/-- what an entry claims of a key -/
def cmOf (k : ByteArray) (e : En) : Nat × Bool := (e.seq, inB k (wrL e.d))
/-- the queue of a key -/
def qOf (left : List En) (k : ByteArray) : List (Nat × Bool) := (left.filter fun e => inB k (uK e.d)).map (cmOf k)
theorem qOf_nil (k : ByteArray) : qOf [] k = [] := rfl
theorem qOf_append (l m : List En) (k : ByteArray) : qOf (l ++ m) k = qOf l k ++ qOf m k := by simp [qOf]
theorem qOf_mem {left : List En} {k : ByteArray} {c : Nat × Bool} : c ∈ qOf left k ↔ ∃ e ∈ left, k ∈ uK e.d ∧ cmOf k e = c := by
  simp [qOf, inB_iff, and_assoc]
theorem qOf_len (left : List En) (k : ByteArray) : (qOf left k).length ≤ left.length := by
  unfold qOf; rw [List.length_map]; exact List.length_filter_le _ _
/-- does a number wait in a queue? -/
def waB (q : List (Nat × Bool)) (s : Nat) : Bool := q.any fun c => decide (c.1 < s) && (c.2 || q.contains (s, true))
/-- may an entry go on? -/
def ruB (left : List En) (e : En) : Bool := !(uK e.d).any fun k => waB (qOf left k) e.seq
/-- entries in their order -/
def Asc (left : List En) : Prop := left.Pairwise fun a b => a.seq < b.seq
theorem Asc.inj {left : List En} (h : Asc left) {a b : En} (ha : a ∈ left) (hb : b ∈ left) (e : a.seq = b.seq) : a = b := by
  induction left with
  | nil => cases ha
  | cons x r ih =>
    obtain ⟨h1, h2⟩ := List.pairwise_cons.1 h
    rcases List.mem_cons.1 ha with ea | ha' <;> rcases List.mem_cons.1 hb with eb | hb'
    · rw [ea, eb]
    · have := h1 b hb'; rw [ea] at e; omega
    · have := h1 a ha'; rw [eb] at e; omega
    · exact ih h2 ha' hb'
theorem waB_iff {left : List En} (h : Asc left) {e : En} (he : e ∈ left) {k : ByteArray} (hk : k ∈ uK e.d) : waB (qOf left k) e.seq = true ↔ ∃ x ∈ left, x.seq < e.seq ∧ k ∈ uK x.d ∧ (k ∈ wrL x.d ∨ k ∈ wrL e.d) := by
  have hw : (qOf left k).contains (e.seq, true) = true ↔ k ∈ wrL e.d := by
    rw [List.contains_iff_mem, qOf_mem]
    constructor
    · rintro ⟨x, hx, _, hc⟩
      unfold cmOf at hc
      injection hc with h1 h2
      obtain rfl := h.inj hx he h1
      exact inB_iff.1 h2
    · exact fun hw => ⟨e, he, hk, by unfold cmOf; rw [inB_iff.2 hw]⟩
  unfold waB
  rw [List.any_eq_true]
  constructor
  · rintro ⟨c, hc, hh⟩
    obtain ⟨x, hx, hkx, rfl⟩ := qOf_mem.1 hc
    rw [Bool.and_eq_true, Bool.or_eq_true] at hh
    refine ⟨x, hx, of_decide_eq_true hh.1, hkx, ?_⟩
    rcases hh.2 with h2 | h2
    · exact .inl (inB_iff.1 h2)
    · exact .inr (hw.1 h2)
  · rintro ⟨x, hx, hlt, hkx, hor⟩
    refine ⟨cmOf k x, qOf_mem.2 ⟨x, hx, hkx, rfl⟩, ?_⟩
    rw [Bool.and_eq_true, Bool.or_eq_true]
    refine ⟨decide_eq_true hlt, ?_⟩
    rcases hor with h2 | h2
    · exact .inl (inB_iff.2 h2)
    · exact .inr (hw.2 h2)
theorem clB_iff {a b : List Opr} : clB a b = true ↔ ∃ k, k ∈ uK a ∧ k ∈ uK b ∧ (k ∈ wrL a ∨ k ∈ wrL b) := by
  unfold clB
  rw [Bool.or_eq_true, Bool.or_eq_true, comB_iff, comB_iff, comB_iff]
  constructor
  · rintro ((⟨k, h1, h2⟩ | ⟨k, h1, h2⟩) | ⟨k, h1, h2⟩)
    · exact ⟨k, uK_mem.2 (.inr h1), uK_mem.2 (.inr h2), .inl h1⟩
    · exact ⟨k, uK_mem.2 (.inr h1), uK_mem.2 (.inl h2), .inl h1⟩
    · exact ⟨k, uK_mem.2 (.inl h1), uK_mem.2 (.inr h2), .inr h2⟩
  · rintro ⟨k, h1, h2, h3⟩
    rcases h3 with h3 | h3
    · rcases uK_mem.1 h2 with h2 | h2
      · exact .inl (.inr ⟨k, h3, h2⟩)
      · exact .inl (.inl ⟨k, h3, h2⟩)
    · rcases uK_mem.1 h1 with h1 | h1
      · exact .inr ⟨k, h1, h3⟩
      · exact .inl (.inl ⟨k, h1, h3⟩)
/-- the queues tell who clashes with no earlier one -/
theorem ruB_iff {left : List En} (h : Asc left) {e : En} (he : e ∈ left) : ruB left e = true ↔ ∀ x ∈ left, x.seq < e.seq → clB x.d e.d = false := by
  unfold ruB
  rw [Bool.not_eq_true', List.any_eq_false]
  constructor
  · intro hh x hx hlt
    rw [Bool.eq_false_iff]
    intro hc
    obtain ⟨k, h1, h2, h3⟩ := clB_iff.1 hc
    exact hh k h2 ((waB_iff h he h2).2 ⟨x, hx, hlt, h1, h3⟩)
  · intro hh k hk hw
    obtain ⟨x, hx, hlt, hkx, hor⟩ := (waB_iff h he hk).1 hw
    have := hh x hx hlt
    rw [clB_iff.2 ⟨k, hkx, hk, hor⟩] at this
    cases this
/-- without the entry at a place -/
theorem qOf_eraseIdx {left : List En} (h : Asc left) {i : Nat} (hi : i < left.length) (k : ByteArray) : qOf (left.eraseIdx i) k = if inB k (uK (left[i]).d) = true then (qOf left k).filter (fun c => !decide (c.1 = (left[i]).seq)) else qOf left k := by
  have hsplit : left = left.take i ++ left[i] :: left.drop (i + 1) := by rw [List.getElem_cons_drop]; exact (List.take_append_drop i left).symm
  have herase : left.eraseIdx i = left.take i ++ left.drop (i + 1) := List.eraseIdx_eq_take_drop_succ ..
  have hne : ∀ x ∈ left.take i ++ left.drop (i + 1), x.seq ≠ (left[i]).seq := by
    intro x hx
    have hp : (left.take i ++ left[i] :: left.drop (i + 1)).Pairwise fun a b => a.seq < b.seq := by rw [← hsplit]; exact h
    rw [List.pairwise_append] at hp
    obtain ⟨_, h2, h3⟩ := hp
    rcases List.mem_append.1 hx with hx | hx
    · have := h3 x hx left[i] List.mem_cons_self; omega
    · have := (List.pairwise_cons.1 h2).1 x hx; omega
  have hkeep : ∀ l : List En, (∀ x ∈ l, x.seq ≠ (left[i]).seq) → (qOf l k).filter (fun c => !decide (c.1 = (left[i]).seq)) = qOf l k := by
    intro l hl
    rw [List.filter_eq_self]
    intro c hc
    obtain ⟨x, hx, _, rfl⟩ := qOf_mem.1 hc
    exact by rw [show decide ((cmOf k x).1 = (left[i]).seq) = false from decide_eq_false (hl x hx)]; rfl
  rw [herase]
  have h1 := hkeep (left.take i) fun x hx => hne x (List.mem_append_left _ hx)
  have h2 := hkeep (left.drop (i + 1)) fun x hx => hne x (List.mem_append_right _ hx)
  have hq : qOf left k = qOf (left.take i) k ++ (qOf [left[i]] k ++ qOf (left.drop (i + 1)) k) := by
    rw [← qOf_append, ← qOf_append, List.singleton_append, ← hsplit]
  rw [qOf_append, hq]
  split
  · rename_i hm
    have : (qOf [left[i]] k).filter (fun c => !decide (c.1 = (left[i]).seq)) = [] := by
      simp [qOf, hm, cmOf]
    rw [List.filter_append, List.filter_append, h1, h2, this, List.nil_append]
  · rename_i hm
    have : qOf [left[i]] k = [] := by simp [qOf, hm]
    rw [this, List.nil_append]
end Go.Proofs.YtefdipjhjgmokaaGreat

set_option linter.unusedVariables false
set_option linter.unusedSimpArgs false
namespace Go.Proofs.YtefdipjhjgmokaaGreat
open Go.RowKit Go.WideMaps Go.Maps

/-- the cells of a queue -/
def cmCells : List (Nat × Bool) → List Value
  | [] => []
  | c :: r => .int .i64 (c.1 : Int) :: .bool c.2 :: cmCells r
theorem cmCells_length (l : List (Nat × Bool)) : (cmCells l).length = l.length * 2 := by
  induction l with
  | nil => rfl
  | cons p r ih => simp [cmCells, ih]; omega
theorem cmCells_append (l m : List (Nat × Bool)) : cmCells (l ++ m) = cmCells l ++ cmCells m := by
  induction l with
  | nil => rfl
  | cons p r ih => simp [cmCells, ih]
theorem cmCells_get (l : List (Nat × Bool)) (i : Nat) (p : Nat × Bool) (h : l[i]? = some p) : (cmCells l)[i * 2]? = some (.int .i64 (p.1 : Int)) ∧ (cmCells l)[i * 2 + 1]? = some (.bool p.2) := by
  induction l generalizing i with
  | nil => simp at h
  | cons q r ih =>
    cases i with
    | zero => simp at h; subst h; simp [cmCells]
    | succ i => simp at h; have := ih i h; rw [show (i + 1) * 2 = i * 2 + 1 + 1 by omega]; simpa [cmCells] using this
theorem cmCells_one (l : List (Nat × Bool)) : ∀ u ∈ cmCells l, u.oneCell' = true := by
  induction l with
  | nil => intro u hu; cases hu
  | cons p r ih =>
    intro u hu
    rcases List.mem_cons.1 hu with rfl | hu
    · rfl
    · rcases List.mem_cons.1 hu with rfl | hu
      · rfl
      · exact ih u hu
/-- the cells of a list of entries -/
def kV (e : En) : Value := .slice e.A (uK e.d).length e.c
def enCells : List En → List Value
  | [] => []
  | e :: r => .int .i64 (e.seq : Int) :: kV e :: enCells r
theorem enCells_length (l : List En) : (enCells l).length = l.length * 2 := by
  induction l with
  | nil => rfl
  | cons p r ih => simp [enCells, ih]; omega
theorem enCells_append (l m : List En) : enCells (l ++ m) = enCells l ++ enCells m := by
  induction l with
  | nil => rfl
  | cons p r ih => simp [enCells, ih]
theorem enCells_get (l : List En) (i : Nat) (p : En) (h : l[i]? = some p) : (enCells l)[i * 2]? = some (.int .i64 (p.seq : Int)) ∧ (enCells l)[i * 2 + 1]? = some (kV p) := by
  induction l generalizing i with
  | nil => simp at h
  | cons q r ih =>
    cases i with
    | zero => simp at h; subst h; simp [enCells]
    | succ i => simp at h; have := ih i h; rw [show (i + 1) * 2 = i * 2 + 1 + 1 by omega]; simpa [enCells] using this
theorem enCells_one (l : List En) : ∀ u ∈ enCells l, u.oneCell' = true := by
  induction l with
  | nil => intro u hu; cases hu
  | cons p r ih =>
    intro u hu
    rcases List.mem_cons.1 hu with rfl | hu
    · rfl
    · rcases List.mem_cons.1 hu with rfl | hu
      · rfl
      · exact ih u hu
theorem cmInfo : (Tryz.prog.info? 138).map (fun i => (i.zero, i.size, i.bytes)) = some (some (.agg #[.int .i64 0, .bool false]), 2, 16) := by kernel_rfl
theorem enInfo : (Tryz.prog.info? 132).map (fun i => (i.zero, i.size, i.bytes)) = some (some (.agg #[.int .i64 0, .slice none 0 0]), 2, 32) := by kernel_rfl

/-- a row of two-cell values of one's own, as a slice's parts -/
theorem own_parts {w : World} {B : Nat} {t : TypeId} {v : Value} {n : Nat} {xs : List Value} (h : w.ownsRow B t 2 v n xs) : ∃ A c, v = .slice A n c ∧ n ≤ c ∧ c ≤ maxLen := by
  rcases h.2 with ⟨rfl, h0⟩ | ⟨g, cap, cur, rfl, _, _, h1, h2, _⟩
  · exact ⟨none, 0, by rw [h0], by omega, Nat.zero_le _⟩
  · exact ⟨_, _, rfl, h1, h2⟩
/-- a place of such a row -/
theorem own_at {w : World} {B : Nat} {t : TypeId} {A : Option Addr} {c n : Nat} {xs : List Value} (h : w.ownsRow B t 2 (.slice A n c) n xs) {i : Nat} (hi : i < n) {x y : Value} (hx : xs[i * 2]? = some x) (hy : xs[i * 2 + 1]? = some y) :
    ∃ b, A = some ⟨b, 0, none⟩ ∧ b < w.heap.size ∧ w.cell? ⟨b, i * 2, none⟩ = some x ∧ w.cell? ⟨b, i * 2 + 1, none⟩ = some y := by
  obtain ⟨g, cap, hv, _, hlt⟩ := World.ownsRow.form h (by omega)
  injection hv with a b e
  subst a
  have hc := h.cells (g := g) rfl
  have h1 := hc _ _ hx
  have h2 := hc _ _ hy
  rw [Addr.add_lit, Nat.zero_add] at h1 h2
  exact ⟨g, rfl, hlt, h1, h2⟩

/-- what the element of a map is, as it stands -/
def rv (v : Value) : Option (DataW Value × List MemPlace) := some (.held v, [])
def nilV : Value := .slice none 0 0
/-- a map from strings to slices: what lies at a key (nil where there is none) -/
def MP (w : World) (b n : Nat) (f : ByteArray → Value) : Prop := ∃ D : DataW Value, w.ownsMap Tryz.prog 9 rv b n D ∧ IsMap D ∧ ∀ k, D.atKey (kl k) (.held nilV) = .held (f k)
def putF (f : ByteArray → Value) (k : ByteArray) (v : Value) : ByteArray → Value := fun j => if by8 j = by8 k then v else f j
theorem putF_same (f : ByteArray → Value) (k : ByteArray) (v : Value) : putF f k v k = v := by simp [putF]
theorem putF_other (f : ByteArray → Value) {k j : ByteArray} (h : j ≠ k) (v : Value) : putF f k v j = f j := by
  unfold putF; rw [if_neg fun e => h (by8_inj e)]
theorem zeroQ (w : World) : (zeroValue 140).run Tryz.prog w = .ok nilV w := by kernel_rfl
section
variable {w w' : World} {b n : Nat} {f : ByteArray → Value}
theorem MP.made (w : World) : MP (w.alloc (.map #[] 0)) w.heap.size 0 fun _ => nilV := ⟨.map [], World.ownsMap_made w _ _ _, isMap_empty, fun k => rfl⟩
theorem MP.lt (h : MP w b n f) : b < w.heap.size := by obtain ⟨D, h, _⟩ := h; exact h.lt
theorem MP.keep (h : MP w b n f) (hk : w'.heap[b]? = w.heap[b]?) : MP w' b n f := by
  obtain ⟨D, ⟨es, clock, hb, h1⟩, h2⟩ := h
  exact ⟨D, ⟨es, clock, hk.trans hb, h1⟩, h2⟩
theorem MP.isMap (h : MP w b n f) : ∃ es clock, w.heap[b]? = some (.map es clock) := by
  obtain ⟨D, ⟨es, clock, hb, h1⟩, h2⟩ := h
  exact ⟨es, clock, hb⟩
set_option maxRecDepth 100000 in
theorem MP.look (h : MP w b n f) (k : ByteArray) (hk : k.size ≤ maxLen) : (Instr.lookup 128 (.map (some b)) (.string k) false).run Tryz.prog w = .ok (f k) w := by
  obtain ⟨D, hown, _, hat⟩ := h
  obtain ⟨v, ps, hrun, hv⟩ := hown.lookup law9 Tryz.underlying128 (zeroQ w) (zd := .held nilV) (zp := []) rfl (keyOf_string_mk Tryz.underlying9 hk)
  rw [show Lit.string k.data.toList = kl k from rfl, hat k] at hv
  unfold rv at hv
  injection hv with hv
  injection hv with hv _
  injection hv with hv
  rw [← hv]; exact hrun
set_option maxRecDepth 100000 in
theorem MP.put (h : MP w b n f) (hn : n ≤ 1000000) (k : ByteArray) (hk : k.size ≤ maxLen) (v : Value) :
    ∃ w', (Instr.mapUpdate 128 (.map (some b)) (.string k) v).run Tryz.prog w = .ok () w' ∧ MP w' b (n + 1) (putF f k v) ∧ w.grownBy w' (some b) := by
  obtain ⟨D, hown, hM, hat⟩ := h
  obtain ⟨w', hrun, ho, hg⟩ := hown.update law9 Tryz.underlying128 (by unfold maxLen; omega) (keyOf_string_mk Tryz.underlying9 hk) (show rv v = some (.held v, []) from rfl)
  refine ⟨w', hrun, ⟨_, ho, hM.put _ _, fun j => ?_⟩, hg⟩
  by_cases e : j = k
  · subst e; rw [putF_same]; exact atKey_put_same hM (k := kl j) (show WideAt.IsKeyLit (kl j) from trivial) _ _
  · rw [putF_other _ e, ← hat j]; exact atKey_put_other (fun e2 => e (kl_inj e2)) _ _
set_option maxRecDepth 100000 in
theorem MP.del (h : MP w b n f) (k : ByteArray) (hk : k.size ≤ maxLen) (ty : TypeId) :
    ∃ w', (Builtin.delete_ #[128, 9] ty #[.map (some b), .string k]).run Tryz.prog w = .ok (.tuple #[]) w' ∧ MP w' b n (putF f k nilV) ∧ w.grownBy w' (some b) := by
  obtain ⟨D, hown, hM, hat⟩ := h
  obtain ⟨w', hrun, ho, hg⟩ := hown.drop law9 Tryz.underlying128 (keyOf_string_mk Tryz.underlying9 hk) ty
  refine ⟨w', hrun, ⟨_, ho, hM.del _, fun j => ?_⟩, ?_⟩
  · by_cases e : j = k
    · subst e; rw [putF_same]; exact atKey_del_same (k := kl j) _
    · rw [putF_other _ e, ← hat j]; exact atKey_del_other (fun e2 => e (kl_inj e2)) _
  · obtain ⟨es, clock, es', clock', hb, rfl⟩ := hg
    exact ⟨rfl, rfl, rfl, by simp [ChangeMaps.setBlock], fun i _ hi => ChangeMaps.heap_setBlock_other hb _ (fun e => hi (by rw [e]))⟩
end
/-- a map that may still be nil -/
def MPO (w : World) (m : Option Nat) (n : Nat) (f : ByteArray → Value) : Prop := match m with
  | none => f = fun _ => nilV
  | some b => MP w b n f

/-- the table at block g: how many were added, who is left -/
structure TBx (w : World) (B g added : Nat) (left : List En) (lA : Option Addr) (lc : Nat) (m : Option Nat) (n : Nat) (f : ByteArray → Value) : Prop where
  box : Box w g 130 #[.int .i64 (added : Int), .slice lA left.length lc, .map m]
  low : B ≤ g
  row : w.ownsRow B 132 2 (.slice lA left.length lc) left.length (enCells left)
  keys : ∀ e ∈ left, OR w B 9 e.A e.c ((uK e.d).map Value.string)
  map : MPO w m n f
  mlow : ∀ b, m = some b → B ≤ b
  num : n + 32 * left.length ≤ 64 * added
  most : added ≤ 60
  queue : ∀ k, w.ownsRow B 138 2 (f k) (qOf left k).length (cmCells (qOf left k))
  apart : ∀ j k, j ≠ k → (f j).ownBlock = none ∨ (f j).ownBlock ≠ (f k).ownBlock
  asc : Asc left
  good : ∀ e ∈ left, e.seq < added ∧ chkD e.d = 0
def TB (w : World) (B g added : Nat) (left : List En) : Prop := ∃ lA lc m n f, TBx w B g added left lA lc m n f

/-- what a change of the table keeps: what lies below B, and every block of another type -/
structure Kp (B : Nat) (w w' : World) : Prop where
  bel : Below B w w'
  oth : ∀ b t, Ty w b t → t ≠ 130 → t ≠ 132 → t ≠ 138 → w'.heap[b]? = w.heap[b]?
theorem Kp.refl (B : Nat) (w : World) : Kp B w w := ⟨Below.refl _ _, fun _ _ _ _ _ _ => rfl⟩
theorem Kp.trans {B : Nat} {a b c : World} (h : Kp B a b) (k : Kp B b c) : Kp B a c := ⟨h.bel.trans k.bel, fun i t hi h1 h2 h3 => by
  have e := h.oth i t hi h1 h2 h3
  obtain ⟨cs, fr, hc⟩ := hi
  exact (k.oth i t ⟨cs, fr, e.trans hc⟩ h1 h2 h3).trans e⟩
theorem Kp.of_below {B : Nat} {w w' : World} (h : Below w.heap.size w w') (hB : B ≤ w.heap.size) : Kp B w w' := ⟨h.mono hB, fun b t ⟨cs, fr, hc⟩ _ _ _ => h.block b (Array.getElem?_eq_some_iff.1 hc).1⟩
theorem Kp.of_grown {B : Nat} {w w' : World} {r : Option Nat} (h : w.grownBy w' r) (hB : B ≤ w.heap.size) (hr : ∀ b, r = some b → B ≤ b ∧ ((∃ es clock, w.heap[b]? = some (.map es clock)) ∨ Ty w b 130 ∨ Ty w b 132 ∨ Ty w b 138)) : Kp B w w' := by
  refine ⟨⟨h.os, h.tape, h.output, h.size, fun k hk => h.block k (Nat.lt_of_lt_of_le hk hB) fun e => ?_⟩, fun b t hb h1 h2 h3 => ?_⟩
  · have := (hr k e.symm).1; omega
  · refine h.block b (by obtain ⟨cs, fr, hc⟩ := hb; exact (Array.getElem?_eq_some_iff.1 hc).1) fun e => ?_
    rcases (hr b e.symm).2 with ⟨es, clock, hm⟩ | ht | ht | ht
    · obtain ⟨cs, fr, hc⟩ := hb; rw [hm] at hc; cases hc
    · exact h1 (hb.inj ht)
    · exact h2 (hb.inj ht)
    · exact h3 (hb.inj ht)
theorem OR.kp {B C : Nat} {w w' : World} {t : TypeId} {A : Option Addr} {c : Nat} {xs : List Value} (h : OR w C t A c xs) (k : Kp B w w') (h1 : t ≠ 130) (h2 : t ≠ 132) (h3 : t ≠ 138) : OR w' C t A c xs :=
  ⟨h.1, h.2.imp id fun ⟨g, cap, cur, e1, e2, e3, e4⟩ => ⟨g, cap, cur, e1, e2, (k.oth g t ⟨_, _, e3⟩ h1 h2 h3).trans e3, e4⟩⟩

/-- the table stays while other blocks are written and new ones are made -/
theorem TBx.grown {w w' : World} {B g added : Nat} {left : List En} {lA : Option Addr} {lc : Nat} {m : Option Nat} {n : Nat} {f : ByteArray → Value} (h : TBx w B g added left lA lc m n f) {r : Option Nat} (hg : w.grownBy w' r)
    (hr : ∀ b, r = some b → ∃ t, Ty w b t ∧ t ≠ 130 ∧ t ≠ 132 ∧ t ≠ 138 ∧ t ≠ 9) : TBx w' B g added left lA lc m n f := by
  have key : ∀ {C : Nat} {t : TypeId} {s : Nat} {v : Value} {q : Nat} {xs : List Value}, w.ownsRow C t s v q xs → (t = 132 ∨ t = 138 ∨ t = 9) → w'.ownsRow C t s v q xs := by
    intro C t s v q xs ho ht
    refine ho.kept hg ?_
    cases hb : r with
    | none => cases v.ownBlock <;> simp
    | some b =>
      obtain ⟨u, hu, h1, h2, h3, h4⟩ := hr b hb
      refine own_ne ho hu fun e => ?_
      subst e
      rcases ht with ht | ht | ht
      · exact h2 ht
      · exact h3 ht
      · exact h4 ht
  refine ⟨h.box.keep (hg.block g h.box.lt fun e => ?_), h.low, key h.row (.inl rfl), fun e he => key (h.keys e he) (.inr (.inr rfl)), ?_, h.mlow, h.num, h.most, fun k => key (h.queue k) (.inr (.inl rfl)), h.apart, h.asc, h.good⟩
  · obtain ⟨u, hu, h1, _⟩ := hr g e.symm
    exact h1 (hu.inj h.box.ty)
  · have hm := h.map
    cases m with
    | none => exact hm
    | some b =>
      refine MP.keep hm (hg.block b (MP.lt hm) fun e => ?_)
      obtain ⟨u, ⟨cs, fr, hu⟩, _⟩ := hr b e.symm
      obtain ⟨es, clock, hb⟩ := MP.isMap hm
      rw [hb] at hu; cases hu
theorem TBx.below {w w' : World} {B g added : Nat} {left : List En} {lA : Option Addr} {lc : Nat} {m : Option Nat} {n : Nat} {f : ByteArray → Value} (h : TBx w B g added left lA lc m n f) (hb : Below w.heap.size w w') : TBx w' B g added left lA lc m n f :=
  h.grown (r := none) ⟨hb.os, hb.tape, hb.output, hb.size, fun k hk _ => hb.block k hk⟩ fun b e => by cases e
theorem TB.grown {w w' : World} {B g added : Nat} {left : List En} (h : TB w B g added left) {r : Option Nat} (hg : w.grownBy w' r)
    (hr : ∀ b, r = some b → ∃ t, Ty w b t ∧ t ≠ 130 ∧ t ≠ 132 ∧ t ≠ 138 ∧ t ≠ 9) : TB w' B g added left := by
  obtain ⟨lA, lc, m, n, f, h⟩ := h; exact ⟨lA, lc, m, n, f, h.grown hg hr⟩
theorem TB.below {w w' : World} {B g added : Nat} {left : List En} (h : TB w B g added left) (hb : Below w.heap.size w w') : TB w' B g added left := by
  obtain ⟨lA, lc, m, n, f, h⟩ := h; exact ⟨lA, lc, m, n, f, h.below hb⟩
end Go.Proofs.YtefdipjhjgmokaaGreat
