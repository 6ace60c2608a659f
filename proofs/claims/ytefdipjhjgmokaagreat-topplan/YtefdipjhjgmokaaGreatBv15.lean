/-
  Copies in memory (no body of the program in it).
-/
import Derived.Test.YtefdipjhjgmokaaGreatBv8
import Derived.Test.YtefdipjhjgmokaaGreatBv11
import Derived.Test.YtefdipjhjgmokaaGreatBv14
set_option linter.unusedVariables false
set_option linter.unusedSimpArgs false
namespace Go.Proofs.YtefdipjhjgmokaaGreat
open Go.RowKit

/-- a cell of a row of one's own is written -/
theorem own_set {w : World} {B : Nat} {t : TypeId} {s g c n : Nat} {xs : List Value} (h : w.ownsRow B t s (.slice (some ⟨g, 0, none⟩) n c) n xs) (k : Nat) (hk : k < xs.length) (v : Value) : (w.setCell ⟨g, k, none⟩ v).ownsRow B t s (.slice (some ⟨g, 0, none⟩) n c) n (xs.set k v) := by
  rcases h.2 with ⟨hv, _⟩ | ⟨g', cap', cur, hv, h1, hb, h3, h4, h5, h6⟩
  · cases hv
  · injection hv with e1 _ e3
    injection e1 with e1
    injection e1 with e1 _ _
    subst e1; subst e3
    have hbx : Box w g t cur := hb
    refine ⟨by rw [List.length_set]; exact h.1, .inr ⟨g, c, cur.setIfInBounds k v, rfl, h1, hbx.set k v, h3, h4, by simp [h5], ?_⟩⟩
    rw [Array.toList_setIfInBounds, List.take_set, h6]
theorem own_frozen {w : World} {B : Nat} {t : TypeId} {s g c n : Nat} {xs : List Value} (h : w.ownsRow B t s (.slice (some ⟨g, 0, none⟩) n c) n xs) (k : Nat) : w.frozen? ⟨g, k, none⟩ = false := by
  rcases h.2 with ⟨hv, _⟩ | ⟨g', cap', cur, hv, h1, hb, _⟩
  · cases hv
  · injection hv with e1 _ e3
    injection e1 with e1
    injection e1 with e1 _ _
    subst e1
    exact Box.frozen (show Box w g t cur from hb) k
/-- a replica: where its store and its results lie -/
structure Rp where
  g : Nat
  m : Mp
  l : List Pr
  q : Dv
  A : Option Addr
  c : Nat
  bs : List Bool
def Rp.st (r : Rp) : Sr := ⟨valOf r.l, r.m.cs, r.m.os, r.bs⟩
def rpV (r : Rp) : Value := .agg #[.pointer (some ⟨r.g, 0, none⟩), .slice r.A r.bs.length r.c]
def rpCells : List Rp → List Value
  | [] => []
  | r :: l => .pointer (some ⟨r.g, 0, none⟩) :: .slice r.A r.bs.length r.c :: rpCells l
theorem rpCells_length (l : List Rp) : (rpCells l).length = l.length * 2 := by
  induction l with
  | nil => rfl
  | cons p r ih => simp [rpCells, ih]; omega
theorem rpCells_append (l m : List Rp) : rpCells (l ++ m) = rpCells l ++ rpCells m := by
  induction l with
  | nil => rfl
  | cons p r ih => simp [rpCells, ih]
theorem rpCells_get (l : List Rp) (i : Nat) (r : Rp) (h : l[i]? = some r) : (rpCells l)[i * 2]? = some (.pointer (some ⟨r.g, 0, none⟩)) ∧ (rpCells l)[i * 2 + 1]? = some (.slice r.A r.bs.length r.c) := by
  induction l generalizing i with
  | nil => simp at h
  | cons q l ih =>
    cases i with
    | zero => simp at h; subst h; simp [rpCells]
    | succ i => simp at h; have := ih i h; rw [show (i + 1) * 2 = i * 2 + 1 + 1 by omega]; simpa [rpCells] using this
theorem rpCells_set (l : List Rp) (i : Nat) (r : Rp) : rpCells (l.set i r) = ((rpCells l).set (i * 2) (.pointer (some ⟨r.g, 0, none⟩))).set (i * 2 + 1) (.slice r.A r.bs.length r.c) := by
  induction l generalizing i with
  | nil => simp [rpCells]
  | cons q l ih =>
    cases i with
    | zero => simp [rpCells]
    | succ i => rw [show (i + 1) * 2 = i * 2 + 1 + 1 by omega]; simp [rpCells, ih i]
theorem repInfo : (Tryz.prog.info? 76).map (fun i => (i.zero, i.size, i.bytes)) = some (some (.agg #[.pointer none, .slice none 0 0]), 2, 32) := by kernel_rfl
/-- a replica in memory -/
structure RO (w : World) (B : Nat) (r : Rp) : Prop where
  pb : PB w B r.g r.m r.l r.q
  ob : OR w B 4 r.A r.c (r.bs.map Value.bool)
section
variable {w w' : World} {B B' : Nat} {r : Rp}
theorem RO.below (h : RO w B r) (hb : Below w.heap.size w w') : RO w' B r := ⟨h.pb.below hb, h.ob.below hb⟩
theorem RO.mono (h : RO w B r) (hB : B' ≤ B) : RO w B' r := ⟨h.pb.mono hB, h.ob.mono hB⟩
theorem PB.fr {F : Nat → Prop} {g : Nat} {m : Mp} {l : List Pr} {q : Dv} (h : PB w B g m l q) (hf : Fr F w w') (hg : ¬ F g) (o1 : Off F w 9) (o2 : Off F w 3) (o3 : Off F w 53) : PB w' B g m l q :=
  ⟨hf.box h.box hg, ⟨hf.own_ty h.mo.cuts o1, hf.own_ty h.mo.own o2⟩, fun j hj => hf.own_ty (h.own j hj) o3, h.okm, h.ok, h.low⟩
theorem RO.fr {F : Nat → Prop} (h : RO w B r) (hf : Fr F w w') (hg : ¬ F r.g) (hA : ∀ k, blk r.A = some k → ¬ F k) (o1 : Off F w 9) (o2 : Off F w 3) (o3 : Off F w 53) : RO w' B r :=
  ⟨h.pb.fr hf hg o1 o2 o3, hf.own h.ob fun k hk => hA k (Go.Proofs.YtefdipjhjgmokaaGreat.ob hk)⟩
end
/-- the box of Copies: a Merge, and the replicas -/
def cTx (A : Option Addr) (n c : Nat) : Tx := ⟨67, [.slice A n c], .inr rfl⟩
/-- Copies: where they lie -/
structure Cs where
  s : Ms
  AR : Option Addr
  cR : Nat
  rs : List Rp
def Cs.F (c : Cs) (k : Nat) : Prop := c.s.F k ∨ blk c.AR = some k ∨ ∃ (i : Nat) (r : Rp), c.rs[i]? = some r ∧ (k = r.g ∨ blk r.A = some k)
def Cs.st (c : Cs) : List Sr := c.rs.map Rp.st
structure Cs.Ok (c : Cs) (w : World) (B : Nat) : Prop where
  ms : c.s.Ok w B
  x : c.s.x = cTx c.AR c.rs.length c.cR
  row : w.ownsRow B 76 2 (.slice c.AR c.rs.length c.cR) c.rs.length (rpCells c.rs)
  ro : ∀ (i : Nat) (r : Rp), c.rs[i]? = some r → RO w B r
  apg : ∀ (i j : Nat) (r q : Rp), c.rs[i]? = some r → c.rs[j]? = some q → r.g = q.g → i = j
  apb : ∀ (i j : Nat) (r q : Rp), c.rs[i]? = some r → c.rs[j]? = some q → blk r.A ≠ none → blk r.A = blk q.A → i = j
  few : c.rs.length ≤ 4
  le : ∀ (i : Nat) (r : Rp), c.rs[i]? = some r → r.bs.length ≤ (logM c.s.ct).length
/-- a step of Copies -/
structure Cs.To (c : Cs) (w : World) (B : Nat) (c' : Cs) (w' : World) (ct' : List (List (List Ent))) (st' : List Sr) : Prop where
  g : c'.s.g = c.s.g
  ok : c'.Ok w' B
  ct : c'.s.ct = ct'
  st : c'.st = st'
  fr : Fr c.F w w'
  F : ∀ k, c'.F k → c.F k ∨ w.heap.size ≤ k
section
variable {c c' cx : Cs} {w w1 w' : World} {B B' : Nat} {ct' ct2 : List (List (List Ent))} {st' st2 : List Sr}
theorem Cs.Ok.below (h : c.Ok w B) (hb : Below w.heap.size w w') : c.Ok w' B := ⟨h.ms.below hb, h.x, own_below h.row hb, fun i r hi => (h.ro i r hi).below hb, h.apg, h.apb, h.few, h.le⟩
theorem Cs.Ok.mono (h : c.Ok w B) (hB : B' ≤ B) : c.Ok w B' := ⟨h.ms.mono hB, h.x, own_mono h.row hB, fun i r hi => (h.ro i r hi).mono hB, h.apg, h.apb, h.few, h.le⟩
theorem Cs.Ok.size (h : c.Ok w B) : B ≤ w.heap.size := h.ms.size
/-- the types of the blocks of Copies -/
theorem Cs.Ok.ty (h : c.Ok w B) {k : Nat} (hk : c.F k) : ∃ u, Ty w k u ∧ (u = 67 ∨ u = 111 ∨ u = 109 ∨ u = 37 ∨ u = 76 ∨ u = 120 ∨ u = 4) := by
  rcases hk with hk | hk | ⟨i, r, hi, rfl | hk⟩
  · rcases (h.ms.mg.cf_ty hk).1 with e | e | e | e
    · rw [h.x] at e; exact ⟨_, e, .inl rfl⟩
    · exact ⟨_, e, .inr (.inl rfl)⟩
    · exact ⟨_, e, .inr (.inr (.inl rfl))⟩
    · exact ⟨_, e, .inr (.inr (.inr (.inl rfl)))⟩
  · exact ⟨_, own_ty h.row (bo _ _ hk), .inr (.inr (.inr (.inr (.inl rfl))))⟩
  · exact ⟨_, (h.ro i r hi).pb.box.ty, .inr (.inr (.inr (.inr (.inr (.inl rfl)))))⟩
  · exact ⟨_, own_ty (h.ro i r hi).ob (bo _ _ hk), .inr (.inr (.inr (.inr (.inr (.inr rfl)))))⟩
theorem Cs.Ok.lo (h : c.Ok w B) {k : Nat} (hk : c.F k) : B ≤ k ∧ k < w.heap.size := by
  rcases hk with hk | hk | ⟨i, r, hi, rfl | hk⟩
  · exact h.ms.lo hk
  · exact World.ownsRow.lt h.row k (bo _ _ hk)
  · exact ⟨(h.ro i r hi).pb.low, (h.ro i r hi).pb.box.lt⟩
  · exact World.ownsRow.lt (h.ro i r hi).ob k (bo _ _ hk)
theorem Cs.Ok.off (h : c.Ok w B) {t : TypeId} (h1 : t ≠ 67) (h2 : t ≠ 111) (h3 : t ≠ 109) (h4 : t ≠ 37) (h5 : t ≠ 76) (h6 : t ≠ 120) (h7 : t ≠ 4) : Off c.F w t := fun k hk _ => by
  obtain ⟨u, hu, e⟩ := h.ty hk
  exact ⟨u, hu, by rcases e with rfl | rfl | rfl | rfl | rfl | rfl | rfl <;> assumption⟩
theorem Cs.Ok.offO (h : c.Ok w B) : Off c.F w 106 := h.off (by decide) (by decide) (by decide) (by decide) (by decide) (by decide) (by decide)
theorem Cs.Ok.offS (h : c.Ok w B) : Off c.F w 9 := h.off (by decide) (by decide) (by decide) (by decide) (by decide) (by decide) (by decide)
theorem Cs.Ok.offI (h : c.Ok w B) : Off c.F w 3 := h.off (by decide) (by decide) (by decide) (by decide) (by decide) (by decide) (by decide)
theorem Cs.Ok.offP (h : c.Ok w B) : Off c.F w 53 := h.off (by decide) (by decide) (by decide) (by decide) (by decide) (by decide) (by decide)
/-- other blocks change -/
theorem Cs.Ok.fr {F : Nat → Prop} (h : c.Ok w B) (hf : Fr F w w') (hd : ∀ q, c.F q → ¬ F q) (o0 : Off F w 106) (o1 : Off F w 9) (o2 : Off F w 3) (o3 : Off F w 53) : c.Ok w' B :=
  ⟨h.ms.fr hf (fun q hq => hd q (.inl hq)) o0 o1 o2, h.x, hf.own h.row fun k hk => hd k (.inr (.inl (ob hk))),
    fun i r hi => (h.ro i r hi).fr hf (hd _ (.inr (.inr ⟨i, r, hi, .inl rfl⟩))) (fun k hk => hd k (.inr (.inr ⟨i, r, hi, .inr hk⟩))) o1 o2 o3, h.apg, h.apb, h.few, h.le⟩
/-- blocks change that lie below it -/
theorem Fr.own_lo {F : Nat → Prop} {w w' : World} {B : Nat} {t : TypeId} {s : Nat} {v : Value} {n : Nat} {xs : List Value} (hf : Fr F w w') (h : w.ownsRow B t s v n xs) (hF : ∀ k, F k → k < B) : w'.ownsRow B t s v n xs :=
  hf.own h fun k hk e => by have := hF k e; have := (World.ownsRow.lt h k hk).1; omega
theorem Cs.Ok.lo_fr {F : Nat → Prop} (h : c.Ok w B) (hf : Fr F w w') (hF : ∀ k, F k → k < B) : c.Ok w' B := by
  have hg : ∀ {g : Nat}, B ≤ g → ¬ F g := fun hg e => by have := hF _ e; omega
  have m := h.ms.mg
  exact ⟨⟨⟨hf.box m.box (hg m.low), m.low, hf.own_lo m.row hF, fun i x hx => hf.own_lo (m.inp i x hx) hF, m.ne, fun i x k b hx hk => ⟨hf.own_lo (m.bat i x k b hx hk).row hF, fun e he => ⟨hf.own_lo ((m.bat i x k b hx hk).eo e he).ops hF, ⟨hf.own_lo ((m.bat i x k b hx hk).eo e he).map.cuts hF, hf.own_lo ((m.bat i x k b hx hk).eo e he).map.own hF⟩⟩, (m.bat i x k b hx hk).bd⟩, m.apI, m.apB, m.good⟩, h.ms.gm⟩, h.x, hf.own_lo h.row hF,
    fun i r hi => ⟨⟨hf.box (h.ro i r hi).pb.box (hg (h.ro i r hi).pb.low), ⟨hf.own_lo (h.ro i r hi).pb.mo.cuts hF, hf.own_lo (h.ro i r hi).pb.mo.own hF⟩, fun j hj => hf.own_lo ((h.ro i r hi).pb.own j hj) hF, (h.ro i r hi).pb.okm, (h.ro i r hi).pb.ok, (h.ro i r hi).pb.low⟩, hf.own_lo (h.ro i r hi).ob hF⟩, h.apg, h.apb, h.few, h.le⟩
theorem Cs.To.mono (h : c.To w B c' w' ct' st') (hB : B' ≤ B) : c.To w B' c' w' ct' st' := ⟨h.g, h.ok.mono hB, h.ct, h.st, h.fr, h.F⟩
theorem Cs.To.same (h : c.Ok w B) (hb : Below w.heap.size w w') : c.To w B c w' c.s.ct c.st := ⟨rfl, h.below hb, rfl, rfl, .of_below hb, fun _ => .inl⟩
theorem Cs.To.pre (h : c.To w1 B c' w' ct' st') (hb : Below w.heap.size w w1) : c.To w B c' w' ct' st' := ⟨h.g, h.ok, h.ct, h.st, (Fr.of_below hb).comp h.fr, fun k hk => (h.F k hk).imp id fun e => Nat.le_trans hb.size e⟩
theorem Cs.To.post (h : c.To w B c' w1 ct' st') (hb : Below w1.heap.size w1 w') : c.To w B c' w' ct' st' := ⟨h.g, h.ok.below hb, h.ct, h.st, h.fr.comp (.of_below hb), h.F⟩
theorem Cs.To.trans (h : c.To w B c' w1 ct' st') (h2 : c'.To w1 B cx w' ct2 st2) : c.To w B cx w' ct2 st2 :=
  ⟨h2.g.trans h.g, h2.ok, h2.ct, h2.st, h.fr.trans h2.fr h.F, fun k hk => (h2.F k hk).elim (h.F k) fun e => .inr (Nat.le_trans h.fr.size e)⟩
/-- below Copies nothing changes -/
theorem Cs.To.below_ {a : World} {B0 : Nat} (h : c.To w B c' w' ct' st') (ho : c.Ok w B) (hB : B0 ≤ B) (hb : Below B0 a w) : Below B0 a w' := h.fr.below (fun k hk => Nat.le_trans hB (ho.lo hk).1) (Nat.le_trans hB ho.size) hb
/-- the cell of the replicas -/
theorem Cs.Ok.c2 (h : c.Ok w B) : w.cell? ⟨c.s.g, 2, none⟩ = some (.slice c.AR c.rs.length c.cR) := h.ms.mg.box.cell 2 (by rw [h.x]; rfl)
theorem Cs.Ok.at_ (h : c.Ok w B) {i : Nat} {r : Rp} (hi : c.rs[i]? = some r) : ∃ gr, c.AR = some ⟨gr, 0, none⟩ ∧ gr < w.heap.size ∧ w.cell? ⟨gr, i * 2, none⟩ = some (.pointer (some ⟨r.g, 0, none⟩)) ∧ w.cell? ⟨gr, i * 2 + 1, none⟩ = some (.slice r.A r.bs.length r.c) := by
  have hl := (List.getElem?_eq_some_iff.1 hi).1
  obtain ⟨g, cap, hv, hB, hlt⟩ := World.ownsRow.form h.row (by omega)
  injection hv with a b e
  have hr := h.row
  rw [a] at hr
  have hc := hr.cells (g := g) rfl
  obtain ⟨g1, g2⟩ := rpCells_get c.rs i r hi
  have h1 := hc _ _ g1
  have h2 := hc _ _ g2
  rw [Addr.add_lit, Nat.zero_add] at h1 h2
  exact ⟨g, a, hlt, h1, h2⟩
/-- the Merge of Copies makes a step -/
theorem Cs.Ok.merge {s' : Ms} (h : c.Ok w B) (ht : c.s.To w B s' w' ct') (hle : (logM c.s.ct).length ≤ (logM ct').length) : c.To w B ⟨s', c.AR, c.cR, c.rs⟩ w' ct' c.st := by
  have of : ∀ {t : TypeId}, t ≠ 67 → t ≠ 64 → t ≠ 111 → t ≠ 109 → t ≠ 37 → Off c.s.F w t := fun h0 h1 h2 h3 h4 => h.ms.off h0 h1 h2 h3 h4
  have nf : ∀ {k : Nat} {t : TypeId}, Ty w k t → Off c.s.F w t → k < w.heap.size → ¬ c.s.F k := fun hk ho hl hF => by
    obtain ⟨u, h1, h2⟩ := ho _ hF hl
    exact h2 (hk.inj h1)
  refine ⟨ht.g, ⟨ht.ok, ht.x.trans h.x, ht.fr.own_ty h.row (of (by decide) (by decide) (by decide) (by decide) (by decide)), fun i r hi => ?_, h.apg, h.apb, h.few, fun i r hi => ?_⟩, ht.ct, rfl, ?_, ?_⟩
  · have hr := h.ro i r hi
    exact hr.fr ht.fr (nf hr.pb.box.ty (of (by decide) (by decide) (by decide) (by decide) (by decide)) hr.pb.box.lt)
      (fun k hk => nf (own_ty hr.ob (bo _ _ hk)) (of (by decide) (by decide) (by decide) (by decide) (by decide)) (World.ownsRow.lt hr.ob k (bo _ _ hk)).2)
      (of (by decide) (by decide) (by decide) (by decide) (by decide)) (of (by decide) (by decide) (by decide) (by decide) (by decide)) (of (by decide) (by decide) (by decide) (by decide) (by decide))
  · have := h.le i r hi
    simp only [ht.ct]
    omega
  · exact ⟨ht.fr.os, ht.fr.tape, ht.fr.output, ht.fr.size, fun k hk hF => ht.fr.block k hk fun e => hF (.inl e)⟩
  · rintro k (hk | hk)
    · exact (ht.F k hk).imp .inl id
    · exact .inl (.inr hk)
/-- one replica is another one now -/
theorem Cs.Ok.set_ {i : Nat} {r r' : Rp} (h : c.Ok w B) (hi : c.rs[i]? = some r) (hms : c.s.Ok w' B) (hrow : w'.ownsRow B 76 2 (.slice c.AR c.rs.length c.cR) c.rs.length (rpCells (c.rs.set i r'))) (hr : RO w' B r')
    (hoth : ∀ (j : Nat) (q : Rp), j ≠ i → c.rs[j]? = some q → RO w' B q) (hg : r'.g = r.g ∨ w.heap.size ≤ r'.g) (hA : blk r'.A = blk r.A ∨ ∀ k, blk r'.A = some k → w.heap.size ≤ k) (hle : r'.bs.length ≤ (logM c.s.ct).length) (hf : Fr c.F w w') :
    c.To w B ⟨c.s, c.AR, c.cR, c.rs.set i r'⟩ w' c.s.ct (c.st.set i r'.st) := by
  have hil := (List.getElem?_eq_some_iff.1 hi).1
  have hset : ∀ (j : Nat) (z : Rp), (c.rs.set i r')[j]? = some z → (j = i ∧ z = r') ∨ (j ≠ i ∧ c.rs[j]? = some z) := by
    intro j z hz
    rw [List.getElem?_set] at hz
    by_cases e : i = j
    · subst e
      rw [if_pos rfl, if_pos hil] at hz
      injection hz with hz
      exact .inl ⟨rfl, hz.symm⟩
    · rw [if_neg e] at hz; exact .inr ⟨fun e2 => e e2.symm, hz⟩
  have hgne : ∀ (j : Nat) (q : Rp), j ≠ i → c.rs[j]? = some q → r'.g ≠ q.g := fun j q hne hq e => by
    rcases hg with hg | hg
    · exact hne (h.apg j i q r hq hi (by rw [← e, hg]))
    · have := (h.ro j q hq).pb.box.lt; omega
  have hAne : ∀ (j : Nat) (q : Rp), j ≠ i → c.rs[j]? = some q → blk q.A ≠ none → blk q.A ≠ blk r'.A := fun j q hne hq hn e => by
    rcases hA with hA | hA
    · exact hne (h.apb j i q r hq hi hn (e.trans hA))
    · cases e2 : blk q.A with
      | none => exact hn e2
      | some k =>
        have h1 := hA k (by rw [← e, e2])
        have h2 := (World.ownsRow.lt (h.ro j q hq).ob k (bo _ _ e2)).2
        omega
  refine ⟨rfl, ⟨hms, by rw [List.length_set]; exact h.x, by rw [List.length_set]; exact hrow, fun j z hz => ?_, fun j k z y hz hy e => ?_, fun j k z y hz hy hn e => ?_, by rw [List.length_set]; exact h.few, fun j z hz => ?_⟩, rfl, by simp [Cs.st, List.map_set], hf, ?_⟩
  · rcases hset j z hz with ⟨_, rfl⟩ | ⟨hne, hz⟩
    · exact hr
    · exact hoth j z hne hz
  · rcases hset j z hz with ⟨e1, e2⟩ | ⟨hne, hz⟩
    · rcases hset k y hy with ⟨e3, e4⟩ | ⟨hne', hy⟩
      · rw [e1, e3]
      · rw [e2] at e; exact absurd e (hgne k y hne' hy)
    · rcases hset k y hy with ⟨e3, e4⟩ | ⟨hne', hy⟩
      · rw [e4] at e; exact absurd e.symm (hgne j z hne hz)
      · exact h.apg j k z y hz hy e
  · rcases hset j z hz with ⟨e1, e2⟩ | ⟨hne, hz⟩
    · rcases hset k y hy with ⟨e3, e4⟩ | ⟨hne', hy⟩
      · rw [e1, e3]
      · rw [e2] at e hn; exact absurd e.symm (hAne k y hne' hy (by rw [← e]; exact hn))
    · rcases hset k y hy with ⟨e3, e4⟩ | ⟨hne', hy⟩
      · rw [e4] at e; exact absurd e (hAne j z hne hz hn)
      · exact h.apb j k z y hz hy hn e
  · rcases hset j z hz with ⟨_, rfl⟩ | ⟨hne, hz⟩
    · exact hle
    · exact h.le j z hz
  · rintro k (hk | hk | ⟨j, z, hz, hk⟩)
    · exact .inl (.inl hk)
    · exact .inl (.inr (.inl hk))
    · rcases hset j z hz with ⟨_, rfl⟩ | ⟨hne, hz⟩
      · rcases hk with rfl | hk
        · rcases hg with hg | hg
          · exact .inl (.inr (.inr ⟨i, r, hi, .inl hg⟩))
          · exact .inr hg
        · rcases hA with hA | hA
          · exact .inl (.inr (.inr ⟨i, r, hi, .inr (by rw [← hA]; exact hk)⟩))
          · exact .inr (hA k hk)
      · exact .inl (.inr (.inr ⟨j, z, hz, hk⟩))
end
end Go.Proofs.YtefdipjhjgmokaaGreat
