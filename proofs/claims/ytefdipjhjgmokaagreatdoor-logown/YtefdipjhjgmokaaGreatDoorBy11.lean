/-
  What a transaction makes of the values of keys (no program in it).
  Replicas, plainly: what entries make of them (no program in it).
  Copies in memory (no body of the program in it).
-/
import Derived.Test.YtefdipjhjgmokaaGreatDoorBy10
import Derived.Test.YtefdipjhjgmokaaGreatDoorBy1
import Derived.Test.YtefdipjhjgmokaaGreatDoorBy6
import Derived.Test.YtefdipjhjgmokaaGreatDoorBy9
set_option linter.unusedVariables false
set_option linter.unusedSimpArgs false
namespace Go.Proofs.YtefdipjhjgmokaaGreatDoor
open Go.RowKit

/-- a key set to a value, if that is a valid one -/
def putV (v : VF) (k : ByteArray) (n : Int) : Option VF := if valB n = true then some (upd v k n) else none
/-- what Move makes -/
def moveV (v : VF) (o : Opr) : Option VF :=
  if v o.src < o.n then none else putV (upd v o.src (v o.src - o.n)) o.key (upd v o.src (v o.src - o.n) o.key + o.n)
/-- what an operation makes -/
def stepV (v : VF) (o : Opr) : Option VF :=
  if o.kind = 1 then putV v o.key o.n
  else if o.kind = 2 then putV v o.key (v o.key + o.n)
  else if o.kind = 3 then putV v o.key (v o.src)
  else if o.kind = 4 then (if o.n ≤ v o.key then some v else none)
  else moveV v o
/-- what operations make, one after another -/
def runV (v : VF) : List Opr → Option VF
  | [] => some v
  | o :: r => match stepV v o with
    | some u => runV u r
    | none => none
theorem runV_nil (v : VF) : runV v [] = some v := rfl
theorem runV_cons (v : VF) (o : Opr) (r : List Opr) : runV v (o :: r) = (stepV v o).bind fun u => runV u r := by
  simp only [runV]
  cases stepV v o <;> rfl
theorem runV_append (v : VF) (l m : List Opr) : runV v (l ++ m) = (runV v l).bind fun u => runV u m := by
  induction l generalizing v with
  | nil => rfl
  | cons o r ih =>
    rw [List.cons_append, runV_cons, runV_cons]
    cases stepV v o with
    | none => rfl
    | some u => exact ih u
theorem runV_take {v u : VF} {l : List Opr} {k : Nat} (h : k < l.length) (hu : runV v (l.take k) = some u) : runV v (l.take (k + 1)) = stepV u l[k] := by
  rw [List.take_succ_eq_append_getElem h, runV_append, hu]
  show runV u [l[k]] = _
  rw [runV_cons]
  cases stepV u l[k] <;> rfl
theorem runV_none {v : VF} {l : List Opr} {k : Nat} (h : runV v (l.take k) = none) : runV v l = none := by
  rw [← List.take_append_drop k l, runV_append, h]; rfl
/-- what a transaction leaves, and whether it was executed -/
def doneV (v : VF) (l : List Opr) : VF × Bool := match runV v l with
  | some u => (u, true)
  | none => (v, false)
theorem doneV_some {v u : VF} {l : List Opr} (h : runV v l = some u) : doneV v l = (u, true) := by unfold doneV; rw [h]
theorem doneV_none {v : VF} {l : List Opr} (h : runV v l = none) : doneV v l = (v, false) := by unfold doneV; rw [h]
/-- transactions one after another: the values, and whether each was executed -/
def serV (v : VF) : List (List Opr) → VF × List Bool
  | [] => (v, [])
  | d :: r => ((serV (doneV v d).1 r).1, (doneV v d).2 :: (serV (doneV v d).1 r).2)
theorem serV_append (v : VF) (a b : List (List Opr)) : serV v (a ++ b) = ((serV (serV v a).1 b).1, (serV v a).2 ++ (serV (serV v a).1 b).2) := by
  induction a generalizing v with
  | nil => rfl
  | cons d r ih => simp [serV, ih]
theorem serV_len (v : VF) (a : List (List Opr)) : (serV v a).2.length = a.length := by
  induction a generalizing v with
  | nil => rfl
  | cons d r ih => simp [serV, ih]
theorem serV_take {v : VF} {a : List (List Opr)} {k : Nat} (h : k < a.length) : serV v (a.take (k + 1)) = ((doneV (serV v (a.take k)).1 a[k]).1, (serV v (a.take k)).2 ++ [(doneV (serV v (a.take k)).1 a[k]).2]) := by
  rw [List.take_succ_eq_append_getElem h, serV_append]; rfl
end Go.Proofs.YtefdipjhjgmokaaGreatDoor

set_option linter.unusedVariables false
set_option linter.unusedSimpArgs false
namespace Go.Proofs.YtefdipjhjgmokaaGreatDoor

/-- a replica: its values, its map, what was told -/
structure Sr where
  v : VF
  cs : List ByteArray
  os : List Int
  bs : List Bool
/-- what an entry tells -/
def doneE (v : VF) (x : Ent) : Bool := if x.isM then true else (doneV v x.d).2
/-- an entry is executed -/
def stepR (r : Sr) (x : Ent) : Sr := if x.isM then ⟨r.v, x.cs, x.os, r.bs ++ [true]⟩ else ⟨(doneV r.v x.d).1, r.cs, r.os, r.bs ++ [(doneV r.v x.d).2]⟩
/-- entries are executed -/
def playR (r : Sr) (l : List Ent) : Sr := l.foldl stepR r
theorem stepR_bs (r : Sr) (x : Ent) : (stepR r x).bs = r.bs ++ [doneE r.v x] := by
  unfold stepR doneE
  cases x.isM <;> rfl
theorem playR_nil (r : Sr) : playR r [] = r := rfl
theorem playR_snoc (r : Sr) (l : List Ent) (x : Ent) : playR r (l ++ [x]) = stepR (playR r l) x := by simp [playR]
theorem playR_app (r : Sr) (l m : List Ent) : playR r (l ++ m) = playR (playR r l) m := by simp [playR]
theorem playR_len (l : List Ent) : ∀ r : Sr, (playR r l).bs.length = r.bs.length + l.length := by
  induction l with
  | nil => intro r; rfl
  | cons x l ih =>
    intro r
    have := ih (stepR r x)
    rw [stepR_bs] at this
    show (playR (stepR r x) l).bs.length = _
    rw [this]
    simp; omega
theorem playR_take (r : Sr) (l : List Ent) (k : Nat) (h : k < l.length) : playR r (l.take (k + 1)) = stepR (playR r (l.take k)) l[k] := by
  rw [List.take_succ_eq_append_getElem h, playR_snoc]
/-- Step: its error, what it tells, what it makes -/
def cpQ (log : List Ent) (st : List Sr) (i : Int) : Int := if 0 ≤ i ∧ i < (st.length : Int) then (match st[i.toNat]? with | some r => if r.bs.length < log.length then 0 else 6 | none => 4) else 4
def cpB (log : List Ent) (st : List Sr) (i : Int) : Bool := match st[i.toNat]? with
  | some r => match log[r.bs.length]? with
    | some x => decide (0 ≤ i) && doneE r.v x
    | none => false
  | none => false
def cpS (log : List Ent) (st : List Sr) (i : Int) : List Sr := if 0 ≤ i then (match st[i.toNat]? with
  | some r => match log[r.bs.length]? with
    | some x => st.set i.toNat (stepR r x)
    | none => st
  | none => st) else st
theorem cp_none {log : List Ent} {st : List Sr} {i : Int} (h : ¬ (0 ≤ i ∧ i < (st.length : Int))) : cpQ log st i = 4 ∧ cpB log st i = false ∧ cpS log st i = st := by
  refine ⟨by unfold cpQ; rw [if_neg h], ?_, ?_⟩
  · unfold cpB
    cases e : st[i.toNat]? with
    | none => rfl
    | some r =>
      have h2 := (List.getElem?_eq_some_iff.1 e).1
      have h3 : ¬ 0 ≤ i := fun h0 => h ⟨h0, by omega⟩
      cases e2 : log[r.bs.length]? with
      | none => simp only [e2]
      | some x => simp only [e2, h3, decide_false, Bool.false_and]
  · unfold cpS
    by_cases h0 : 0 ≤ i
    · rw [if_pos h0, List.getElem?_eq_none (by omega)]
    · rw [if_neg h0]
theorem cp_wait {log : List Ent} {st : List Sr} {i : Nat} {r : Sr} (hi : st[i]? = some r) (h : log.length ≤ r.bs.length) : cpQ log st (i : Int) = 6 ∧ cpB log st (i : Int) = false ∧ cpS log st (i : Int) = st := by
  have h2 := (List.getElem?_eq_some_iff.1 hi).1
  have e2 : log[r.bs.length]? = none := List.getElem?_eq_none h
  refine ⟨?_, ?_, ?_⟩
  · unfold cpQ; rw [if_pos (by omega), Int.toNat_natCast, hi]; simp only; rw [if_neg (by omega)]
  · unfold cpB; rw [Int.toNat_natCast, hi]; simp only [e2]
  · unfold cpS; rw [if_pos (by omega), Int.toNat_natCast, hi]; simp only [e2]
theorem cp_go {log : List Ent} {st : List Sr} {i : Nat} {r : Sr} {x : Ent} (hi : st[i]? = some r) (hx : log[r.bs.length]? = some x) : cpQ log st (i : Int) = 0 ∧ cpB log st (i : Int) = doneE r.v x ∧ cpS log st (i : Int) = st.set i (stepR r x) := by
  have h2 := (List.getElem?_eq_some_iff.1 hi).1
  have h3 := (List.getElem?_eq_some_iff.1 hx).1
  refine ⟨?_, ?_, ?_⟩
  · unfold cpQ; rw [if_pos (by omega), Int.toNat_natCast, hi]; simp only; rw [if_pos h3]
  · unfold cpB; rw [Int.toNat_natCast, hi]; simp only [hx]; simp
  · unfold cpS; rw [if_pos (by omega), Int.toNat_natCast, hi]; simp only [hx]
/-- Take: its error, what it makes -/
def ctQ (st : List Sr) (i k : Int) : Int := if (0 ≤ i ∧ i < (st.length : Int)) ∧ (0 ≤ k ∧ k < (st.length : Int)) then (match st[i.toNat]?, st[k.toNat]? with | some r, some q => if q.bs.length < r.bs.length then 6 else 0 | _, _ => 4) else 4
def ctS (st : List Sr) (i k : Int) : List Sr := if ctQ st i k = 0 then (match st[k.toNat]? with | some q => st.set i.toNat q | none => st) else st
theorem ct_none {st : List Sr} {i k : Int} (h : ¬ ((0 ≤ i ∧ i < (st.length : Int)) ∧ (0 ≤ k ∧ k < (st.length : Int)))) : ctQ st i k = 4 ∧ ctS st i k = st := by
  have e : ctQ st i k = 4 := by unfold ctQ; rw [if_neg h]
  exact ⟨e, by unfold ctS; rw [if_neg (by rw [e]; decide)]⟩
theorem ct_wait {st : List Sr} {i k : Nat} {r q : Sr} (hi : st[i]? = some r) (hk : st[k]? = some q) (h : q.bs.length < r.bs.length) : ctQ st (i : Int) (k : Int) = 6 ∧ ctS st (i : Int) (k : Int) = st := by
  have h2 := (List.getElem?_eq_some_iff.1 hi).1
  have h3 := (List.getElem?_eq_some_iff.1 hk).1
  have e : ctQ st (i : Int) (k : Int) = 6 := by unfold ctQ; rw [if_pos (by omega), Int.toNat_natCast, Int.toNat_natCast, hi, hk]; simp only; rw [if_pos h]
  exact ⟨e, by unfold ctS; rw [if_neg (by rw [e]; decide)]⟩
theorem ct_go {st : List Sr} {i k : Nat} {r q : Sr} (hi : st[i]? = some r) (hk : st[k]? = some q) (h : r.bs.length ≤ q.bs.length) : ctQ st (i : Int) (k : Int) = 0 ∧ ctS st (i : Int) (k : Int) = st.set i q := by
  have h2 := (List.getElem?_eq_some_iff.1 hi).1
  have h3 := (List.getElem?_eq_some_iff.1 hk).1
  have e : ctQ st (i : Int) (k : Int) = 0 := by unfold ctQ; rw [if_pos (by omega), Int.toNat_natCast, Int.toNat_natCast, hi, hk]; simp only; rw [if_neg (by omega)]
  exact ⟨e, by unfold ctS; rw [if_pos e, Int.toNat_natCast, Int.toNat_natCast, hk]⟩
theorem cpS_len (log : List Ent) (st : List Sr) (i : Int) : (cpS log st i).length = st.length := by
  unfold cpS
  split
  · split
    · split <;> simp
    · rfl
  · rfl
theorem ctS_len (st : List Sr) (i k : Int) : (ctS st i k).length = st.length := by
  unfold ctS
  split
  · split <;> simp
  · rfl
end Go.Proofs.YtefdipjhjgmokaaGreatDoor

set_option linter.unusedVariables false
set_option linter.unusedSimpArgs false
namespace Go.Proofs.YtefdipjhjgmokaaGreatDoor
open Go.RowKit

/-- a cell of a row of one's own is written -/
theorem own_set {w : World} {B : Nat} {t : TypeId} {s g c n : Nat} {xs : List Value} (h : w.ownsRow B t s (.slice (some ⟨g, 0, none⟩) n c) n xs) (k : Nat) (hk : k < xs.length) (v : Value) : (w.setCell ⟨g, k, none⟩ v).ownsRow B t s (.slice (some ⟨g, 0, none⟩) n c) n (xs.set k v) := by
  rcases h.2 with ⟨hv, _⟩ | ⟨g', cap', cur, hv, h1, hb, h3, h4, h5, h6⟩
  · cases hv
  · injection hv with e1 _ e3
    injection e1 with e1
    injection e1 with e1 _ _
    subst e1; subst e3
    have hbx : Box w g t cur := hb
    refine ⟨by rw [List.length_set]; exact h.1, .inr ⟨g, c, cur.setIfInBounds k v, rfl, h1, hbx.set k v, h3, h4, by simp [h5], ?_⟩⟩
    rw [Array.toList_setIfInBounds, List.take_set, h6]
theorem own_frozen {w : World} {B : Nat} {t : TypeId} {s g c n : Nat} {xs : List Value} (h : w.ownsRow B t s (.slice (some ⟨g, 0, none⟩) n c) n xs) (k : Nat) : w.frozen? ⟨g, k, none⟩ = false := by
  rcases h.2 with ⟨hv, _⟩ | ⟨g', cap', cur, hv, h1, hb, _⟩
  · cases hv
  · injection hv with e1 _ e3
    injection e1 with e1
    injection e1 with e1 _ _
    subst e1
    exact Box.frozen (show Box w g t cur from hb) k
/-- a replica: where its store and its results lie -/
structure Rp where
  g : Nat
  m : Mp
  l : List Pr
  q : Dv
  A : Option Addr
  c : Nat
  bs : List Bool
def Rp.st (r : Rp) : Sr := ⟨valOf r.l, r.m.cs, r.m.os, r.bs⟩
def rpV (r : Rp) : Value := .agg #[.pointer (some ⟨r.g, 0, none⟩), .slice r.A r.bs.length r.c]
def rpCells : List Rp → List Value
  | [] => []
  | r :: l => .pointer (some ⟨r.g, 0, none⟩) :: .slice r.A r.bs.length r.c :: rpCells l
theorem rpCells_length (l : List Rp) : (rpCells l).length = l.length * 2 := by
  induction l with
  | nil => rfl
  | cons p r ih => simp [rpCells, ih]; omega
theorem rpCells_append (l m : List Rp) : rpCells (l ++ m) = rpCells l ++ rpCells m := by
  induction l with
  | nil => rfl
  | cons p r ih => simp [rpCells, ih]
theorem rpCells_get (l : List Rp) (i : Nat) (r : Rp) (h : l[i]? = some r) : (rpCells l)[i * 2]? = some (.pointer (some ⟨r.g, 0, none⟩)) ∧ (rpCells l)[i * 2 + 1]? = some (.slice r.A r.bs.length r.c) := by
  induction l generalizing i with
  | nil => simp at h
  | cons q l ih =>
    cases i with
    | zero => simp at h; subst h; simp [rpCells]
    | succ i => simp at h; have := ih i h; rw [show (i + 1) * 2 = i * 2 + 1 + 1 by omega]; simpa [rpCells] using this
theorem rpCells_set (l : List Rp) (i : Nat) (r : Rp) : rpCells (l.set i r) = ((rpCells l).set (i * 2) (.pointer (some ⟨r.g, 0, none⟩))).set (i * 2 + 1) (.slice r.A r.bs.length r.c) := by
  induction l generalizing i with
  | nil => simp [rpCells]
  | cons q l ih =>
    cases i with
    | zero => simp [rpCells]
    | succ i => rw [show (i + 1) * 2 = i * 2 + 1 + 1 by omega]; simp [rpCells, ih i]
theorem repInfo : (Tryz.prog.info? 141).map (fun i => (i.zero, i.size, i.bytes)) = some (some (.agg #[.pointer none, .slice none 0 0]), 2, 32) := by kernel_rfl
/-- a replica in memory -/
structure RO (w : World) (B : Nat) (r : Rp) : Prop where
  pb : PB w B r.g r.m r.l r.q
  ob : OR w B 4 r.A r.c (r.bs.map Value.bool)
section
variable {w w' : World} {B B' : Nat} {r : Rp}
theorem RO.below (h : RO w B r) (hb : Below w.heap.size w w') : RO w' B r := ⟨h.pb.below hb, h.ob.below hb⟩
theorem RO.mono (h : RO w B r) (hB : B' ≤ B) : RO w B' r := ⟨h.pb.mono hB, h.ob.mono hB⟩
theorem PB.fr {F : Nat → Prop} {g : Nat} {m : Mp} {l : List Pr} {q : Dv} (h : PB w B g m l q) (hf : Fr F w w') (hg : ¬ F g) (o1 : Off F w 9) (o2 : Off F w 3) (o3 : Off F w 63) : PB w' B g m l q :=
  ⟨hf.box h.box hg, ⟨hf.own_ty h.mo.cuts o1, hf.own_ty h.mo.own o2⟩, fun j hj => hf.own_ty (h.own j hj) o3, h.okm, h.ok, h.low⟩
theorem RO.fr {F : Nat → Prop} (h : RO w B r) (hf : Fr F w w') (hg : ¬ F r.g) (hA : ∀ k, blk r.A = some k → ¬ F k) (o1 : Off F w 9) (o2 : Off F w 3) (o3 : Off F w 63) : RO w' B r :=
  ⟨h.pb.fr hf hg o1 o2 o3, hf.own h.ob fun k hk => hA k (Go.Proofs.YtefdipjhjgmokaaGreatDoor.ob hk)⟩
end
/-- the box of Copies: a Merge, and the replicas -/
def cTx (A : Option Addr) (n c : Nat) : Tx := ⟨51, [.slice A n c], .inr rfl⟩
/-- Copies: where they lie -/
structure Cs where
  s : Ms
  AR : Option Addr
  cR : Nat
  rs : List Rp
def Cs.F (c : Cs) (k : Nat) : Prop := c.s.F k ∨ blk c.AR = some k ∨ ∃ (i : Nat) (r : Rp), c.rs[i]? = some r ∧ (k = r.g ∨ blk r.A = some k)
def Cs.st (c : Cs) : List Sr := c.rs.map Rp.st
/-- the blocks of operations, cuts and owners -/
def Cs.O (c : Cs) (k : Nat) : Prop := c.s.O k ∨ ∃ (i : Nat) (r : Rp), c.rs[i]? = some r ∧ (blk r.m.O = some k ∨ blk r.m.A = some k)
structure Cs.Ok (c : Cs) (w : World) (B : Nat) : Prop where
  ms : c.s.Ok w B
  x : c.s.x = cTx c.AR c.rs.length c.cR
  row : w.ownsRow B 141 2 (.slice c.AR c.rs.length c.cR) c.rs.length (rpCells c.rs)
  ro : ∀ (i : Nat) (r : Rp), c.rs[i]? = some r → RO w B r
  apg : ∀ (i j : Nat) (r q : Rp), c.rs[i]? = some r → c.rs[j]? = some q → r.g = q.g → i = j
  apb : ∀ (i j : Nat) (r q : Rp), c.rs[i]? = some r → c.rs[j]? = some q → blk r.A ≠ none → blk r.A = blk q.A → i = j
  few : c.rs.length ≤ 4
  le : ∀ (i : Nat) (r : Rp), c.rs[i]? = some r → r.bs.length ≤ (logM c.s.ct).length
/-- a step of Copies -/
structure Cs.To (c : Cs) (w : World) (B : Nat) (c' : Cs) (w' : World) (ct' : List (List (List Ent))) (st' : List Sr) : Prop where
  g : c'.s.g = c.s.g
  ok : c'.Ok w' B
  ct : c'.s.ct = ct'
  st : c'.st = st'
  fr : Fr c.F w w'
  F : ∀ k, c'.F k → c.F k ∨ w.heap.size ≤ k
  O : ∀ k, c'.O k → c.O k ∨ w.heap.size ≤ k
section
variable {c c' cx : Cs} {w w1 w' : World} {B B' : Nat} {ct' ct2 : List (List (List Ent))} {st' st2 : List Sr}
theorem Cs.Ok.below (h : c.Ok w B) (hb : Below w.heap.size w w') : c.Ok w' B := ⟨h.ms.below hb, h.x, own_below h.row hb, fun i r hi => (h.ro i r hi).below hb, h.apg, h.apb, h.few, h.le⟩
theorem Cs.Ok.mono (h : c.Ok w B) (hB : B' ≤ B) : c.Ok w B' := ⟨h.ms.mono hB, h.x, own_mono h.row hB, fun i r hi => (h.ro i r hi).mono hB, h.apg, h.apb, h.few, h.le⟩
theorem Cs.Ok.size (h : c.Ok w B) : B ≤ w.heap.size := h.ms.size
/-- the types of the blocks of Copies -/
theorem Cs.Ok.ty (h : c.Ok w B) {k : Nat} (hk : c.F k) : ∃ u, Ty w k u ∧ (u = 51 ∨ u = 146 ∨ u = 144 ∨ u = 42 ∨ u = 141 ∨ u = 197 ∨ u = 4) := by
  rcases hk with hk | hk | ⟨i, r, hi, rfl | hk⟩
  · rcases (h.ms.mg.cf_ty hk).1 with e | e | e | e
    · rw [h.x] at e; exact ⟨_, e, .inl rfl⟩
    · exact ⟨_, e, .inr (.inl rfl)⟩
    · exact ⟨_, e, .inr (.inr (.inl rfl))⟩
    · exact ⟨_, e, .inr (.inr (.inr (.inl rfl)))⟩
  · exact ⟨_, own_ty h.row (bo _ _ hk), .inr (.inr (.inr (.inr (.inl rfl))))⟩
  · exact ⟨_, (h.ro i r hi).pb.box.ty, .inr (.inr (.inr (.inr (.inr (.inl rfl)))))⟩
  · exact ⟨_, own_ty (h.ro i r hi).ob (bo _ _ hk), .inr (.inr (.inr (.inr (.inr (.inr rfl)))))⟩
theorem Cs.Ok.lo (h : c.Ok w B) {k : Nat} (hk : c.F k) : B ≤ k ∧ k < w.heap.size := by
  rcases hk with hk | hk | ⟨i, r, hi, rfl | hk⟩
  · exact h.ms.lo hk
  · exact World.ownsRow.lt h.row k (bo _ _ hk)
  · exact ⟨(h.ro i r hi).pb.low, (h.ro i r hi).pb.box.lt⟩
  · exact World.ownsRow.lt (h.ro i r hi).ob k (bo _ _ hk)
theorem Cs.Ok.off (h : c.Ok w B) {t : TypeId} (h1 : t ≠ 51) (h2 : t ≠ 146) (h3 : t ≠ 144) (h4 : t ≠ 42) (h5 : t ≠ 141) (h6 : t ≠ 197) (h7 : t ≠ 4) : Off c.F w t := fun k hk _ => by
  obtain ⟨u, hu, e⟩ := h.ty hk
  exact ⟨u, hu, by rcases e with rfl | rfl | rfl | rfl | rfl | rfl | rfl <;> assumption⟩
theorem Cs.Ok.offO (h : c.Ok w B) : Off c.F w 71 := h.off (by decide) (by decide) (by decide) (by decide) (by decide) (by decide) (by decide)
theorem Cs.Ok.offS (h : c.Ok w B) : Off c.F w 9 := h.off (by decide) (by decide) (by decide) (by decide) (by decide) (by decide) (by decide)
theorem Cs.Ok.offI (h : c.Ok w B) : Off c.F w 3 := h.off (by decide) (by decide) (by decide) (by decide) (by decide) (by decide) (by decide)
theorem Cs.Ok.offP (h : c.Ok w B) : Off c.F w 63 := h.off (by decide) (by decide) (by decide) (by decide) (by decide) (by decide) (by decide)
/-- other blocks change -/
theorem Cs.Ok.fr {F : Nat → Prop} (h : c.Ok w B) (hf : Fr F w w') (hd : ∀ q, c.F q → ¬ F q) (o0 : Off F w 71) (o1 : Off F w 9) (o2 : Off F w 3) (o3 : Off F w 63) : c.Ok w' B :=
  ⟨h.ms.fr hf (fun q hq => hd q (.inl hq)) o0 o1 o2, h.x, hf.own h.row fun k hk => hd k (.inr (.inl (ob hk))),
    fun i r hi => (h.ro i r hi).fr hf (hd _ (.inr (.inr ⟨i, r, hi, .inl rfl⟩))) (fun k hk => hd k (.inr (.inr ⟨i, r, hi, .inr hk⟩))) o1 o2 o3, h.apg, h.apb, h.few, h.le⟩
/-- blocks change that lie below it -/
theorem Fr.own_lo {F : Nat → Prop} {w w' : World} {B : Nat} {t : TypeId} {s : Nat} {v : Value} {n : Nat} {xs : List Value} (hf : Fr F w w') (h : w.ownsRow B t s v n xs) (hF : ∀ k, F k → k < B) : w'.ownsRow B t s v n xs :=
  hf.own h fun k hk e => by have := hF k e; have := (World.ownsRow.lt h k hk).1; omega
theorem Cs.Ok.lo_fr {F : Nat → Prop} (h : c.Ok w B) (hf : Fr F w w') (hF : ∀ k, F k → k < B) : c.Ok w' B := by
  have hg : ∀ {g : Nat}, B ≤ g → ¬ F g := fun hg e => by have := hF _ e; omega
  have m := h.ms.mg
  exact ⟨⟨⟨hf.box m.box (hg m.low), m.low, hf.own_lo m.row hF, fun i x hx => hf.own_lo (m.inp i x hx) hF, m.ne, fun i x k b hx hk => ⟨hf.own_lo (m.bat i x k b hx hk).row hF, fun e he => ⟨hf.own_lo ((m.bat i x k b hx hk).eo e he).ops hF, ⟨hf.own_lo ((m.bat i x k b hx hk).eo e he).map.cuts hF, hf.own_lo ((m.bat i x k b hx hk).eo e he).map.own hF⟩⟩, (m.bat i x k b hx hk).bd⟩, m.apI, m.apB, m.good⟩, h.ms.gm⟩, h.x, hf.own_lo h.row hF,
    fun i r hi => ⟨⟨hf.box (h.ro i r hi).pb.box (hg (h.ro i r hi).pb.low), ⟨hf.own_lo (h.ro i r hi).pb.mo.cuts hF, hf.own_lo (h.ro i r hi).pb.mo.own hF⟩, fun j hj => hf.own_lo ((h.ro i r hi).pb.own j hj) hF, (h.ro i r hi).pb.okm, (h.ro i r hi).pb.ok, (h.ro i r hi).pb.low⟩, hf.own_lo (h.ro i r hi).ob hF⟩, h.apg, h.apb, h.few, h.le⟩
theorem Cs.To.mono (h : c.To w B c' w' ct' st') (hB : B' ≤ B) : c.To w B' c' w' ct' st' := ⟨h.g, h.ok.mono hB, h.ct, h.st, h.fr, h.F, h.O⟩
theorem Cs.To.same (h : c.Ok w B) (hb : Below w.heap.size w w') : c.To w B c w' c.s.ct c.st := ⟨rfl, h.below hb, rfl, rfl, .of_below hb, fun _ => .inl, fun _ => .inl⟩
theorem Cs.To.pre (h : c.To w1 B c' w' ct' st') (hb : Below w.heap.size w w1) : c.To w B c' w' ct' st' := ⟨h.g, h.ok, h.ct, h.st, (Fr.of_below hb).comp h.fr, fun k hk => (h.F k hk).imp id fun e => Nat.le_trans hb.size e, fun k hk => (h.O k hk).imp id fun e => Nat.le_trans hb.size e⟩
theorem Cs.To.post (h : c.To w B c' w1 ct' st') (hb : Below w1.heap.size w1 w') : c.To w B c' w' ct' st' := ⟨h.g, h.ok.below hb, h.ct, h.st, h.fr.comp (.of_below hb), h.F, h.O⟩
theorem Cs.To.trans (h : c.To w B c' w1 ct' st') (h2 : c'.To w1 B cx w' ct2 st2) : c.To w B cx w' ct2 st2 :=
  ⟨h2.g.trans h.g, h2.ok, h2.ct, h2.st, h.fr.trans h2.fr h.F, fun k hk => (h2.F k hk).elim (h.F k) fun e => .inr (Nat.le_trans h.fr.size e), fun k hk => (h2.O k hk).elim (h.O k) fun e => .inr (Nat.le_trans h.fr.size e)⟩
/-- below Copies nothing changes -/
theorem Cs.To.below_ {a : World} {B0 : Nat} (h : c.To w B c' w' ct' st') (ho : c.Ok w B) (hB : B0 ≤ B) (hb : Below B0 a w) : Below B0 a w' := h.fr.below (fun k hk => Nat.le_trans hB (ho.lo hk).1) (Nat.le_trans hB ho.size) hb
/-- the cell of the replicas -/
theorem Cs.Ok.c2 (h : c.Ok w B) : w.cell? ⟨c.s.g, 2, none⟩ = some (.slice c.AR c.rs.length c.cR) := h.ms.mg.box.cell 2 (by rw [h.x]; rfl)
theorem Cs.Ok.at_ (h : c.Ok w B) {i : Nat} {r : Rp} (hi : c.rs[i]? = some r) : ∃ gr, c.AR = some ⟨gr, 0, none⟩ ∧ gr < w.heap.size ∧ w.cell? ⟨gr, i * 2, none⟩ = some (.pointer (some ⟨r.g, 0, none⟩)) ∧ w.cell? ⟨gr, i * 2 + 1, none⟩ = some (.slice r.A r.bs.length r.c) := by
  have hl := (List.getElem?_eq_some_iff.1 hi).1
  obtain ⟨g, cap, hv, hB, hlt⟩ := World.ownsRow.form h.row (by omega)
  injection hv with a b e
  have hr := h.row
  rw [a] at hr
  have hc := hr.cells (g := g) rfl
  obtain ⟨g1, g2⟩ := rpCells_get c.rs i r hi
  have h1 := hc _ _ g1
  have h2 := hc _ _ g2
  rw [Addr.add_lit, Nat.zero_add] at h1 h2
  exact ⟨g, a, hlt, h1, h2⟩
/-- the Merge of Copies makes a step -/
theorem Cs.Ok.merge {s' : Ms} (h : c.Ok w B) (ht : c.s.To w B s' w' ct') (hle : (logM c.s.ct).length ≤ (logM ct').length) : c.To w B ⟨s', c.AR, c.cR, c.rs⟩ w' ct' c.st := by
  have of : ∀ {t : TypeId}, t ≠ 51 → t ≠ 48 → t ≠ 146 → t ≠ 144 → t ≠ 42 → Off c.s.F w t := fun h0 h1 h2 h3 h4 => h.ms.off h0 h1 h2 h3 h4
  have nf : ∀ {k : Nat} {t : TypeId}, Ty w k t → Off c.s.F w t → k < w.heap.size → ¬ c.s.F k := fun hk ho hl hF => by
    obtain ⟨u, h1, h2⟩ := ho _ hF hl
    exact h2 (hk.inj h1)
  refine ⟨ht.g, ⟨ht.ok, ht.x.trans h.x, ht.fr.own_ty h.row (of (by decide) (by decide) (by decide) (by decide) (by decide)), fun i r hi => ?_, h.apg, h.apb, h.few, fun i r hi => ?_⟩, ht.ct, rfl, ?_, ?_, ?_⟩
  · have hr := h.ro i r hi
    exact hr.fr ht.fr (nf hr.pb.box.ty (of (by decide) (by decide) (by decide) (by decide) (by decide)) hr.pb.box.lt)
      (fun k hk => nf (own_ty hr.ob (bo _ _ hk)) (of (by decide) (by decide) (by decide) (by decide) (by decide)) (World.ownsRow.lt hr.ob k (bo _ _ hk)).2)
      (of (by decide) (by decide) (by decide) (by decide) (by decide)) (of (by decide) (by decide) (by decide) (by decide) (by decide)) (of (by decide) (by decide) (by decide) (by decide) (by decide))
  · have := h.le i r hi
    simp only [ht.ct]
    omega
  · exact ⟨ht.fr.os, ht.fr.tape, ht.fr.output, ht.fr.size, fun k hk hF => ht.fr.block k hk fun e => hF (.inl e)⟩
  · rintro k (hk | hk)
    · exact (ht.F k hk).imp .inl id
    · exact .inl (.inr hk)
  · rintro k (hk | hk)
    · exact (ht.O k hk).imp .inl id
    · exact .inl (.inr hk)
/-- one replica is another one now -/
theorem Cs.Ok.set_ {i : Nat} {r r' : Rp} (h : c.Ok w B) (hi : c.rs[i]? = some r) (hms : c.s.Ok w' B) (hrow : w'.ownsRow B 141 2 (.slice c.AR c.rs.length c.cR) c.rs.length (rpCells (c.rs.set i r'))) (hr : RO w' B r')
    (hoth : ∀ (j : Nat) (q : Rp), j ≠ i → c.rs[j]? = some q → RO w' B q) (hg : r'.g = r.g ∨ w.heap.size ≤ r'.g) (hA : blk r'.A = blk r.A ∨ ∀ k, blk r'.A = some k → w.heap.size ≤ k) (hO : (blk r'.m.O = blk r.m.O ∧ blk r'.m.A = blk r.m.A) ∨ ∀ k, blk r'.m.O = some k ∨ blk r'.m.A = some k → w.heap.size ≤ k) (hle : r'.bs.length ≤ (logM c.s.ct).length) (hf : Fr c.F w w') :
    c.To w B ⟨c.s, c.AR, c.cR, c.rs.set i r'⟩ w' c.s.ct (c.st.set i r'.st) := by
  have hil := (List.getElem?_eq_some_iff.1 hi).1
  have hset : ∀ (j : Nat) (z : Rp), (c.rs.set i r')[j]? = some z → (j = i ∧ z = r') ∨ (j ≠ i ∧ c.rs[j]? = some z) := by
    intro j z hz
    rw [List.getElem?_set] at hz
    by_cases e : i = j
    · subst e
      rw [if_pos rfl, if_pos hil] at hz
      injection hz with hz
      exact .inl ⟨rfl, hz.symm⟩
    · rw [if_neg e] at hz; exact .inr ⟨fun e2 => e e2.symm, hz⟩
  have hgne : ∀ (j : Nat) (q : Rp), j ≠ i → c.rs[j]? = some q → r'.g ≠ q.g := fun j q hne hq e => by
    rcases hg with hg | hg
    · exact hne (h.apg j i q r hq hi (by rw [← e, hg]))
    · have := (h.ro j q hq).pb.box.lt; omega
  have hAne : ∀ (j : Nat) (q : Rp), j ≠ i → c.rs[j]? = some q → blk q.A ≠ none → blk q.A ≠ blk r'.A := fun j q hne hq hn e => by
    rcases hA with hA | hA
    · exact hne (h.apb j i q r hq hi hn (e.trans hA))
    · cases e2 : blk q.A with
      | none => exact hn e2
      | some k =>
        have h1 := hA k (by rw [← e, e2])
        have h2 := (World.ownsRow.lt (h.ro j q hq).ob k (bo _ _ e2)).2
        omega
  refine ⟨rfl, ⟨hms, by rw [List.length_set]; exact h.x, by rw [List.length_set]; exact hrow, fun j z hz => ?_, fun j k z y hz hy e => ?_, fun j k z y hz hy hn e => ?_, by rw [List.length_set]; exact h.few, fun j z hz => ?_⟩, rfl, by simp [Cs.st, List.map_set], hf, ?_, ?_⟩
  · rcases hset j z hz with ⟨_, rfl⟩ | ⟨hne, hz⟩
    · exact hr
    · exact hoth j z hne hz
  · rcases hset j z hz with ⟨e1, e2⟩ | ⟨hne, hz⟩
    · rcases hset k y hy with ⟨e3, e4⟩ | ⟨hne', hy⟩
      · rw [e1, e3]
      · rw [e2] at e; exact absurd e (hgne k y hne' hy)
    · rcases hset k y hy with ⟨e3, e4⟩ | ⟨hne', hy⟩
      · rw [e4] at e; exact absurd e.symm (hgne j z hne hz)
      · exact h.apg j k z y hz hy e
  · rcases hset j z hz with ⟨e1, e2⟩ | ⟨hne, hz⟩
    · rcases hset k y hy with ⟨e3, e4⟩ | ⟨hne', hy⟩
      · rw [e1, e3]
      · rw [e2] at e hn; exact absurd e.symm (hAne k y hne' hy (by rw [← e]; exact hn))
    · rcases hset k y hy with ⟨e3, e4⟩ | ⟨hne', hy⟩
      · rw [e4] at e; exact absurd e (hAne j z hne hz hn)
      · exact h.apb j k z y hz hy hn e
  · rcases hset j z hz with ⟨_, rfl⟩ | ⟨hne, hz⟩
    · exact hle
    · exact h.le j z hz
  · rintro k (hk | hk | ⟨j, z, hz, hk⟩)
    · exact .inl (.inl hk)
    · exact .inl (.inr (.inl hk))
    · rcases hset j z hz with ⟨_, rfl⟩ | ⟨hne, hz⟩
      · rcases hk with rfl | hk
        · rcases hg with hg | hg
          · exact .inl (.inr (.inr ⟨i, r, hi, .inl hg⟩))
          · exact .inr hg
        · rcases hA with hA | hA
          · exact .inl (.inr (.inr ⟨i, r, hi, .inr (by rw [← hA]; exact hk)⟩))
          · exact .inr (hA k hk)
      · exact .inl (.inr (.inr ⟨j, z, hz, hk⟩))
  · rintro k (hk | ⟨j, z, hz, hk⟩)
    · exact .inl (.inl hk)
    · rcases hset j z hz with ⟨_, rfl⟩ | ⟨hne, hz⟩
      · rcases hO with hO | hO
        · exact .inl (.inr ⟨i, r, hi, by rw [← hO.1, ← hO.2]; exact hk⟩)
        · exact .inr (hO k hk)
      · exact .inl (.inr ⟨j, z, hz, hk⟩)
end
end Go.Proofs.YtefdipjhjgmokaaGreatDoor
