/-
  A Merge in memory (no body of the program in it).
-/
import Derived.Test.YtefdipjhjgmokaaGreatDoorBy3
set_option linter.unusedVariables false
set_option linter.unusedSimpArgs false
namespace Go.Proofs.YtefdipjhjgmokaaGreatDoor
open Go.RowKit

/-- a batch: where its entries lie -/
structure Bt where
  A : Option Addr
  c : Nat
  es : List Em
def btV (b : Bt) : Value := .slice b.A b.es.length b.c
/-- an input: where its batches lie -/
structure In where
  A : Option Addr
  c : Nat
  bs : List Bt
def inV (x : In) : Value := .slice x.A x.bs.length x.c
/-- no batch -/
def bt0 : Bt := ⟨none, 0, []⟩
/-- what the batches hold -/
def ctI (x : In) : List (List Ent) := x.bs.map fun b => b.es.map entOf
def ctM (ins : List In) : List (List (List Ent)) := ins.map ctI
section
variable {w w' : World} {B : Nat} {r : Option Nat}
/-- a block of a type that entries do not lie in -/
def Aloof (w : World) (r : Option Nat) : Prop := ∀ k, r = some k → ∃ t, Ty w k t ∧ 71 ≠ t ∧ 9 ≠ t ∧ 3 ≠ t
theorem EO.kept_ {x : Em} (h : EO w B x) (hg : w.grownBy w' r) (hr : Aloof w r) : EO w' B x :=
  ⟨own_keep h.ops hg fun k hk => (hr k hk).imp fun _ h => ⟨h.1, h.2.1⟩, ⟨own_keep h.map.cuts hg fun k hk => (hr k hk).imp fun _ h => ⟨h.1, h.2.2.1⟩, own_keep h.map.own hg fun k hk => (hr k hk).imp fun _ h => ⟨h.1, h.2.2.2⟩⟩⟩
theorem EW.kept_ {A : Option Addr} {c : Nat} {l : List Em} (h : EW w B A c l) (hg : w.grownBy w' r) (hr : Aloof w r) (hn : blk A = none ∨ blk A ≠ r) : EW w' B A c l :=
  ⟨World.ownsRow.kept h.row hg (by rw [ownBlock_slice]; exact hn), fun x hx => (h.eo x hx).kept_ hg hr, h.bd⟩
end
/-- what a Merge's box is: its type, the cells behind the two of the Merge -/
structure Tx where
  T : TypeId
  X : List Value
  ok : T = 48 ∨ T = 51
def Tx.cs (x : Tx) (a b : Value) : Array Value := ⟨a :: b :: x.X⟩
section
variable (x : Tx) (a b v : Value)
theorem Tx.cs0 : (x.cs a b)[0]? = some a := by simp [Tx.cs]
theorem Tx.cs1 : (x.cs a b)[1]? = some b := by simp [Tx.cs]
theorem Tx.set1 : (x.cs a b).setIfInBounds 1 v = x.cs a v := by simp [Tx.cs]
theorem Tx.nI : x.T ≠ 146 := by rcases x.ok with e | e <;> rw [e] <;> decide
theorem Tx.nB : x.T ≠ 144 := by rcases x.ok with e | e <;> rw [e] <;> decide
theorem Tx.nE : x.T ≠ 42 := by rcases x.ok with e | e <;> rw [e] <;> decide
theorem Tx.nO : x.T ≠ 71 := by rcases x.ok with e | e <;> rw [e] <;> decide
theorem Tx.nS : x.T ≠ 9 := by rcases x.ok with e | e <;> rw [e] <;> decide
theorem Tx.nN : x.T ≠ 3 := by rcases x.ok with e | e <;> rw [e] <;> decide
end
/-- a Merge by itself -/
def mTx : Tx := ⟨48, [], .inl rfl⟩
/-- a Merge in memory -/
structure MG (w : World) (B g : Nat) (tx : Tx) (AI : Option Addr) (cI : Nat) (ins : List In) (added : Nat) : Prop where
  box : Box w g tx.T (tx.cs (.slice AI ins.length cI) (.int .i64 (added : Int)))
  low : B ≤ g
  row : OR w B 146 AI cI (ins.map inV)
  inp : ∀ (i : Nat) (x : In), ins[i]? = some x → OR w B 144 x.A x.c (x.bs.map btV)
  ne : ∀ (i : Nat) (x : In), ins[i]? = some x → x.bs ≠ []
  bat : ∀ (i : Nat) (x : In) (k : Nat) (b : Bt), ins[i]? = some x → x.bs[k]? = some b → EW w B b.A b.c b.es
  apI : ∀ (i j : Nat) (x y : In), ins[i]? = some x → ins[j]? = some y → blk x.A = blk y.A → i = j
  apB : ∀ (i j k l : Nat) (x y : In) (a b : Bt), ins[i]? = some x → ins[j]? = some y → x.bs[k]? = some a → y.bs[l]? = some b → blk a.A ≠ none → blk a.A = blk b.A → i = j ∧ k = l
  good : ∀ (i : Nat) (x : In) (k : Nat) (b : Bt), ins[i]? = some x → x.bs[k]? = some b → ∀ e ∈ b.es, chkE (entOf e) = 0 ∧ dropE (entOf e) = entOf e
/-- the blocks of a Merge that change -/
def CF (g : Nat) (AI : Option Addr) (ins : List In) (k : Nat) : Prop := k = g ∨ blk AI = some k ∨ ∃ (i : Nat) (x : In), ins[i]? = some x ∧ (blk x.A = some k ∨ ∃ (l : Nat) (b : Bt), x.bs[l]? = some b ∧ blk b.A = some k)
section
variable {w w' : World} {B B' g : Nat} {tx : Tx} {AI : Option Addr} {cI : Nat} {ins : List In} {added : Nat}
theorem MG.below (h : MG w B g tx AI cI ins added) (hb : Below w.heap.size w w') : MG w' B g tx AI cI ins added :=
  ⟨h.box.below hb, h.low, h.row.below hb, fun i x hx => (h.inp i x hx).below hb, h.ne, fun i x k b hx hk => (h.bat i x k b hx hk).below hb, h.apI, h.apB, h.good⟩
theorem MG.mono (h : MG w B g tx AI cI ins added) (hB : B' ≤ B) : MG w B' g tx AI cI ins added :=
  ⟨h.box, Nat.le_trans hB h.low, h.row.mono hB, fun i x hx => (h.inp i x hx).mono hB, h.ne, fun i x k b hx hk => (h.bat i x k b hx hk).mono hB, h.apI, h.apB, h.good⟩
/-- where an input's batches lie -/
theorem MG.at_ (h : MG w B g tx AI cI ins added) {i : Nat} {x : In} (hi : ins[i]? = some x) : ∃ gx, x.A = some ⟨gx, 0, none⟩ ∧ B ≤ gx ∧ gx < w.heap.size := by
  obtain ⟨gx, cap, hv, hB, hlt⟩ := World.ownsRow.form (h.inp i x hi) (by rw [List.length_map]; exact List.length_pos_iff.2 (h.ne i x hi))
  injection hv with a _ _
  exact ⟨gx, a, hB, hlt⟩
theorem MG.row_ (h : MG w B g tx AI cI ins added) (hn : ins ≠ []) : ∃ gi, AI = some ⟨gi, 0, none⟩ ∧ B ≤ gi ∧ gi < w.heap.size := by
  obtain ⟨gx, cap, hv, hB, hlt⟩ := World.ownsRow.form h.row (by rw [List.length_map]; exact List.length_pos_iff.2 hn)
  injection hv with a _ _
  exact ⟨gx, a, hB, hlt⟩
/-- an entry's row grew -/
theorem MG.grow {w1 w2 : World} (h : MG w1 B g tx AI cI ins added) {i k : Nat} {x : In} {b : Bt} (hi : ins[i]? = some x) (hk : x.bs[k]? = some b) (hg : w1.grownBy w2 (blk b.A)) :
    Box w2 g tx.T (tx.cs (.slice AI ins.length cI) (.int .i64 (added : Int))) ∧ OR w2 B 146 AI cI (ins.map inV) ∧ (∀ (i : Nat) (x : In), ins[i]? = some x → OR w2 B 144 x.A x.c (x.bs.map btV)) ∧
      (∀ (j : Nat) (y : In) (l : Nat) (a : Bt), ins[j]? = some y → y.bs[l]? = some a → ¬ (j = i ∧ l = k) → EW w2 B a.A a.c a.es) := by
  have hty : ∀ q, blk b.A = some q → Ty w1 q 42 := fun q hq => own_ty (h.bat i x k b hi hk).row (by rw [ownBlock_slice]; exact hq)
  refine ⟨h.box.grown hg (fun e => ?_), own_keep h.row hg fun q hq => ⟨_, hty q hq, by decide⟩, fun j y hy => own_keep (h.inp j y hy) hg fun q hq => ⟨_, hty q hq, by decide⟩, fun j y l a hj hl hne => ?_⟩
  · exact absurd (h.box.ty.inj (hty g e.symm)) tx.nE
  · refine (h.bat j y l a hj hl).kept_ hg (fun q hq => ⟨_, hty q hq, by decide, by decide, by decide⟩) ?_
    by_cases e : blk a.A = none
    · exact .inl e
    · exact .inr fun e2 => hne (h.apB j i l k y x a b hj hi hl hk e e2)
set_option maxRecDepth 100000 in
/-- an entry comes in -/
theorem MG.add (h : MG w B g tx AI cI ins added) {i k : Nat} {x : In} {b : Bt} (hi : ins[i]? = some x) (hk : x.bs[k]? = some b) (hB : B ≤ w.heap.size) (hl : b.es.length ≤ 100) (y : Em) (hy : EO w B y)
    (hbd : ∀ o ∈ y.d, -9223372036854775808 ≤ o.n ∧ o.n ≤ 9223372036854775807) (hgood : chkE (entOf y) = 0 ∧ dropE (entOf y) = entOf y) (ty : TypeId) :
    ∃ A' c' w2 gx, (Builtin.append_ #[144, 144] ty #[btV b, .slice (some ⟨w.heap.size, 0, none⟩) 1 1]).run Tryz.prog (w.alloc (.cells (emC y) 42)) = .ok (.slice A' (b.es ++ [y]).length c') w2 ∧ x.A = some ⟨gx, 0, none⟩ ∧
      w2.cell? ⟨gx, k, none⟩ = some (btV b) ∧ w2.frozen? ⟨gx, k, none⟩ = false ∧
      (w2.setCell ⟨gx, k, none⟩ (.slice A' (b.es ++ [y]).length c')).cell? ⟨g, 1, none⟩ = some (.int .i64 (added : Int)) ∧ (w2.setCell ⟨gx, k, none⟩ (.slice A' (b.es ++ [y]).length c')).frozen? ⟨g, 1, none⟩ = false ∧
      MG ((w2.setCell ⟨gx, k, none⟩ (.slice A' (b.es ++ [y]).length c')).setCell ⟨g, 1, none⟩ (.int .i64 ((added + 1 : Nat) : Int))) B g tx AI cI (ins.set i ⟨x.A, x.c, x.bs.set k ⟨A', c', b.es ++ [y]⟩⟩) (added + 1) ∧
      Fr (CF g AI ins) w ((w2.setCell ⟨gx, k, none⟩ (.slice A' (b.es ++ [y]).length c')).setCell ⟨g, 1, none⟩ (.int .i64 ((added + 1 : Nat) : Int))) ∧
      (∀ q, CF g AI (ins.set i ⟨x.A, x.c, x.bs.set k ⟨A', c', b.es ++ [y]⟩⟩) q → CF g AI ins q ∨ w.heap.size ≤ q) := by
  obtain ⟨gx, hxA, hBx, hltx⟩ := h.at_ hi
  obtain ⟨A', c', w2, hrun, hEW, hgr, hbel, h5⟩ := app_ent_at Tryz.underlying144 w B ty b.A b.c b.es (h.bat i x k b hi hk) y hy hbd (by omega) hB
  have hal := (Below.refl w.heap.size w).alloc (Nat.le_refl _) (.cells (emC y) 42)
  have h1 := h.below hal
  obtain ⟨g1, g2, g3, g4⟩ := h1.grow hi hk hgr
  obtain ⟨A0, c0, bs0⟩ := x
  simp only at hxA hk
  subst hxA
  have hbt : OR w2 B 144 (some ⟨gx, 0, none⟩) c0 (bs0.map btV) := g3 i _ hi
  have hkl : k < bs0.length := (List.getElem?_eq_some_iff.1 hk).1
  have tx0 : Ty w2 gx 144 := own_ty hbt rfl
  have hs := hbt.set_ (k := k) (by rw [List.length_map]; exact hkl) (.slice A' (b.es ++ [y]).length c')
  obtain ⟨v, hv⟩ : ∃ v, Value.slice A' (b.es ++ [y]).length c' = v := ⟨_, rfl⟩
  rw [hv] at hs
  have gs := grown_set w2 gx k v
  have gne : g ≠ gx := fun e => absurd (g1.ty.inj (e ▸ tx0)) tx.nB
  have bx3 := g1.grown gs (fun e => gne (by injection e))
  have tg3 : Ty (w2.setCell ⟨gx, k, none⟩ v) g tx.T := bx3.ty
  have gs4 := grown_set (w2.setCell ⟨gx, k, none⟩ v) g 1 (.int .i64 ((added + 1 : Nat) : Int))
  have c1 : w2.cell? ⟨gx, k, none⟩ = some (btV b) := by
    have hvs := hbt.vs k (btV b) (by rw [List.getElem?_map, hk]; rfl)
    obtain ⟨b', o', e, _, hc⟩ := hvs
    injection e with e
    injection e with e1 e2 _
    subst e1; subst e2
    rw [Nat.zero_add] at hc; exact hc
  have ltA : ∀ {t : TypeId} {s : Nat} {u : Value} {n : Nat} {xs : List Value} {q : Nat}, w.ownsRow B t s u n xs → u.ownBlock = some q → q < w.heap.size := fun hh hq => (World.ownsRow.lt hh _ hq).2
  -- apart in the new batch
  have hap' : ∀ (j : Nat) (y' : In) (l : Nat) (a : Bt), ins[j]? = some y' → y'.bs[l]? = some a → ¬ (j = i ∧ l = k) → blk a.A ≠ none → blk a.A ≠ blk A' := by
    intro j y' l a hj hl' hne hnn e
    rcases h5 with e5 | e5
    · exact hne (h.apB j i l k y' _ a b hj hi hl' hk hnn (e.trans e5))
    · have := ltA (h.bat j y' l a hj hl').row (q := w.heap.size + 1) (by rw [ownBlock_slice, e, e5])
      omega
  subst hv
  refine ⟨A', c', w2, gx, hrun, rfl, c1, hbt.frozen_ k, bx3.cell 1 (tx.cs1 _ _), bx3.frozen 1, ?_, ?_, ?_⟩
  · have hset : ∀ (j : Nat) (z : In), (ins.set i ⟨some ⟨gx, 0, none⟩, c0, bs0.set k ⟨A', c', b.es ++ [y]⟩⟩)[j]? = some z → (j = i ∧ z = ⟨some ⟨gx, 0, none⟩, c0, bs0.set k ⟨A', c', b.es ++ [y]⟩⟩) ∨ (j ≠ i ∧ ins[j]? = some z) := by
      intro j z hz
      rw [List.getElem?_set] at hz
      by_cases e : i = j
      · subst e
        rw [if_pos rfl, if_pos (List.getElem?_eq_some_iff.1 hi).1] at hz
        injection hz with hz
        exact .inl ⟨rfl, hz.symm⟩
      · rw [if_neg e] at hz; exact .inr ⟨fun e2 => e e2.symm, hz⟩
    have hbs : ∀ (l : Nat) (a : Bt), (bs0.set k ⟨A', c', b.es ++ [y]⟩)[l]? = some a → (l = k ∧ a = ⟨A', c', b.es ++ [y]⟩) ∨ (l ≠ k ∧ bs0[l]? = some a) := by
      intro l a ha
      rw [List.getElem?_set] at ha
      by_cases e : k = l
      · subst e
        rw [if_pos rfl, if_pos hkl] at ha
        injection ha with ha
        exact .inl ⟨rfl, ha.symm⟩
      · rw [if_neg e] at ha; exact .inr ⟨fun e2 => e e2.symm, ha⟩
    -- every batch, by its old place
    have hall : ∀ (j : Nat) (z : In) (l : Nat) (a : Bt), (ins.set i ⟨some ⟨gx, 0, none⟩, c0, bs0.set k ⟨A', c', b.es ++ [y]⟩⟩)[j]? = some z → z.bs[l]? = some a → (j = i ∧ l = k ∧ a = ⟨A', c', b.es ++ [y]⟩) ∨ (¬ (j = i ∧ l = k) ∧ ∃ y', ins[j]? = some y' ∧ y'.bs[l]? = some a) := by
      intro j z l a hz hl'
      rcases hset j z hz with ⟨rfl, rfl⟩ | ⟨hne, hz⟩
      · rcases hbs l a hl' with ⟨rfl, rfl⟩ | ⟨hne, ha⟩
        · exact .inl ⟨rfl, rfl, rfl⟩
        · exact .inr ⟨fun e => hne e.2, _, hi, ha⟩
      · exact .inr ⟨fun e => hne e.1, z, hz, hl'⟩
    have al3 : Aloof w2 (some gx) := fun q hq => by injection hq with hq; subst hq; exact ⟨_, tx0, by decide, by decide, by decide⟩
    have al4 : Aloof (w2.setCell ⟨gx, k, none⟩ (.slice A' (b.es ++ [y]).length c')) (some g) := fun q hq => by injection hq with hq; subst hq; exact ⟨_, tg3, tx.nO.symm, tx.nS.symm, tx.nN.symm⟩
    have kEW : ∀ {A : Option Addr} {c : Nat} {l : List Em}, EW w2 B A c l → EW ((w2.setCell ⟨gx, k, none⟩ (.slice A' (b.es ++ [y]).length c')).setCell ⟨g, 1, none⟩ (.int .i64 ((added + 1 : Nat) : Int))) B A c l := fun {A c l} hh => by
      have n1 : blk A = none ∨ blk A ≠ some gx := by have := own_ne hh.row tx0 (by decide); rw [ownBlock_slice] at this; exact this
      have s1 := hh.kept_ gs al3 n1
      have n2 : blk A = none ∨ blk A ≠ some g := by have := own_ne s1.row tg3 tx.nE.symm; rw [ownBlock_slice] at this; exact this
      exact s1.kept_ gs4 al4 n2
    refine ⟨?_, h.low, ?_, ?_, ?_, ?_, ?_, ?_, ?_⟩
    · have := bx3.set 1 (.int .i64 ((added + 1 : Nat) : Int))
      rw [tx.set1] at this
      rw [List.length_set]; exact this
    · have e : (ins.set i ⟨some ⟨gx, 0, none⟩, c0, bs0.set k ⟨A', c', b.es ++ [y]⟩⟩).map inV = ins.map inV := by
        rw [List.map_set]
        refine List.ext_getElem? fun j => ?_
        rw [List.getElem?_set]
        split
        · next e =>
          subst e
          rw [List.getElem?_map, hi]
          rw [if_pos (by rw [List.length_map]; exact (List.getElem?_eq_some_iff.1 hi).1)]
          simp [inV]
        · rfl
      rw [e]
      have s1 : OR (w2.setCell ⟨gx, k, none⟩ (.slice A' (b.es ++ [y]).length c')) B 146 AI cI (ins.map inV) := own_keep g2 gs fun q hq => by injection hq with hq; subst hq; exact ⟨_, tx0, by decide⟩
      exact own_keep s1 gs4 fun q hq => by injection hq with hq; subst hq; exact ⟨_, tg3, by first | exact tx.nI.symm | exact tx.nB.symm⟩
    · intro j z hz
      rcases hset j z hz with ⟨rfl, rfl⟩ | ⟨hne, hz⟩
      · have e : (bs0.set k ⟨A', c', b.es ++ [y]⟩).map btV = (bs0.map btV).set k (.slice A' (b.es ++ [y]).length c') := by rw [List.map_set]; rfl
        simp only
        rw [e]
        exact own_keep hs gs4 fun q hq => by injection hq with hq; subst hq; exact ⟨_, tg3, by first | exact tx.nI.symm | exact tx.nB.symm⟩
      · have hz2 := g3 j z hz
        have hne2 : blk z.A ≠ some gx := fun e => hne (h.apI j i z _ hz hi e)
        have s1 : OR (w2.setCell ⟨gx, k, none⟩ (.slice A' (b.es ++ [y]).length c')) B 144 z.A z.c (z.bs.map btV) := World.ownsRow.kept hz2 gs (.inr (by rw [ownBlock_slice]; exact hne2))
        exact own_keep s1 gs4 fun q hq => by injection hq with hq; subst hq; exact ⟨_, tg3, by first | exact tx.nI.symm | exact tx.nB.symm⟩
    · intro j z hz
      rcases hset j z hz with ⟨rfl, rfl⟩ | ⟨hne, hz⟩
      · have := h.ne j _ hi
        intro e
        have e2 := congrArg List.length e
        simp at e2
        exact this e2
      · exact h.ne j z hz
    · intro j z l a hz hl'
      rcases hall j z l a hz hl' with ⟨rfl, rfl, rfl⟩ | ⟨hne, y', hy', ha⟩
      · exact kEW hEW
      · exact kEW (g4 j y' l a hy' ha hne)
    · intro j j' z z' hz hz' e
      rcases hset j z hz with ⟨e1, e2⟩ | ⟨hne, hz2⟩
      · rcases hset j' z' hz' with ⟨e3, e4⟩ | ⟨hne', hz2'⟩
        · rw [e1, e3]
        · rw [e2] at e; rw [e1]; exact h.apI i j' _ z' hi hz2' e
      · rcases hset j' z' hz' with ⟨e3, e4⟩ | ⟨hne', hz2'⟩
        · rw [e4] at e; rw [e3]; exact h.apI j i z _ hz2 hi e
        · exact h.apI j j' z z' hz2 hz2' e
    · intro j j' l l' z z' a a' hz hz' ha ha' hnn e
      rcases hall j z l a hz ha with ⟨rfl, rfl, rfl⟩ | ⟨hne, y1, hy1, ha1⟩
      · rcases hall j' z' l' a' hz' ha' with ⟨rfl, rfl, rfl⟩ | ⟨hne', y2, hy2, ha2⟩
        · exact ⟨rfl, rfl⟩
        · exact absurd e.symm (hap' j' y2 l' a' hy2 ha2 hne' (by rw [← e]; exact hnn))
      · rcases hall j' z' l' a' hz' ha' with ⟨rfl, rfl, rfl⟩ | ⟨hne', y2, hy2, ha2⟩
        · exact absurd e (hap' j y1 l a hy1 ha1 hne hnn)
        · exact h.apB j j' l l' y1 y2 a a' hy1 hy2 ha1 ha2 hnn e
    · intro j z l a hz hl'
      rcases hall j z l a hz hl' with ⟨rfl, rfl, rfl⟩ | ⟨hne, y', hy', ha⟩
      · intro e he
        rcases List.mem_append.1 he with he | he
        · exact h.good j _ l b hi hk e he
        · simp at he; subst he; exact hgood
      · exact h.good j y' l a hy' ha
  · have f1 : Fr (CF g AI ins) w w2 := (Fr.of_below hal).comp (Fr.of_grown hgr fun q hq => .inr (.inr ⟨i, _, hi, .inr ⟨k, b, hk, hq⟩⟩))
    exact (f1.comp (Fr.of_set gx k _ (.inr (.inr ⟨i, _, hi, .inl rfl⟩)))).comp (Fr.of_set g 1 _ (.inl rfl))
  · intro q hq
    rcases hq with rfl | hq | ⟨j, z, hz, hq⟩
    · exact .inl (.inl rfl)
    · exact .inl (.inr (.inl hq))
    · rcases hq with hq | ⟨l, a, ha, hq⟩
      · have hz' : ∃ z', ins[j]? = some z' ∧ z'.A = z.A := by
          rw [List.getElem?_set] at hz
          by_cases e : i = j
          · subst e
            rw [if_pos rfl, if_pos (List.getElem?_eq_some_iff.1 hi).1] at hz
            injection hz with hz
            subst hz
            exact ⟨_, hi, rfl⟩
          · rw [if_neg e] at hz; exact ⟨z, hz, rfl⟩
        obtain ⟨z', hz', e⟩ := hz'
        exact .inl (.inr (.inr ⟨j, z', hz', .inl (by rw [e]; exact hq)⟩))
      · have hcase : (∃ z' a', ins[j]? = some z' ∧ z'.bs[l]? = some a' ∧ a'.A = a.A) ∨ a.A = A' := by
          rw [List.getElem?_set] at hz
          by_cases e : i = j
          · subst e
            rw [if_pos rfl, if_pos (List.getElem?_eq_some_iff.1 hi).1] at hz
            injection hz with hz
            subst hz
            simp only at ha
            rw [List.getElem?_set] at ha
            by_cases e2 : k = l
            · subst e2
              rw [if_pos rfl, if_pos hkl] at ha
              injection ha with ha
              subst ha
              exact .inr rfl
            · rw [if_neg e2] at ha; exact .inl ⟨_, a, hi, ha, rfl⟩
          · rw [if_neg e] at hz; exact .inl ⟨z, a, hz, ha, rfl⟩
        rcases hcase with ⟨z', a', h1, h2, e⟩ | e
        · exact .inl (.inr (.inr ⟨j, z', h1, .inr ⟨l, a', h2, by rw [e]; exact hq⟩⟩))
        · rw [e] at hq
          rcases h5 with e5 | e5
          · exact .inl (.inr (.inr ⟨i, _, hi, .inr ⟨k, b, hk, by rw [← e5]; exact hq⟩⟩))
          · rw [e5] at hq; injection hq with hq; exact .inr (by omega)
end
end Go.Proofs.YtefdipjhjgmokaaGreatDoor
