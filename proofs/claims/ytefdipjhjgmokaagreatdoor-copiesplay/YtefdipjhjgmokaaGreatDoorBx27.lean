/-
  The document's Merge in memory (no body of the program in it).
  The contract of sort.Slice that the library holds, laid at this dump.
-/
import Derived.Test.YtefdipjhjgmokaaGreatDoorBx5
import Derived.Test.YtefdipjhjgmokaaGreatDoorBx6
import Derived.Shelf.Strings.SlTrimAscii
import Derived.Ground.NamesProg
import Derived.Shelf.SlSortFuncK.WholeK
import Derived.Ground.GgsProg
import Derived.Test.YtefdipjhjgmokaaGreatDoorProg
set_option linter.unusedVariables false
set_option linter.unusedSimpArgs false
namespace Go.Proofs.YtefdipjhjgmokaaGreatDoor
open Go.RowKit

theorem enrInfo : (Tryz.prog.info? 26).map (fun i => (i.zero, i.size, i.bytes)) = some (some (.slice none 0 0), 1, 24) := by kernel_rfl
/-- a row of entries of the call's own, the entries lie elsewhere -/
structure ER (w0 w : World) (B : Nat) (A : Option Addr) (c : Nat) (l : List Em) : Prop where
  row : w.ownsRow B 42 4 (.slice A l.length c) l.length (emCells l)
  es : ∀ x ∈ l, ES w0 x
section
variable {w0 w w' : World} {B B' : Nat} {A : Option Addr} {c : Nat} {l : List Em} {r : Option Nat}
theorem ER.nil (w0 w : World) (B : Nat) : ER w0 w B none 0 [] := ⟨World.ownsRow_nil w _ _ _, by simp⟩
theorem ER.below (h : ER w0 w B A c l) (hb : Below w.heap.size w w') : ER w0 w' B A c l := ⟨own_below h.row hb, h.es⟩
theorem ER.mono (h : ER w0 w B A c l) (hB : B' ≤ B) : ER w0 w B' A c l := ⟨own_mono h.row hB, h.es⟩
theorem ER.kept_ (h : ER w0 w B A c l) (hg : w.grownBy w' r) (hn : blk A = none ∨ blk A ≠ r) : ER w0 w' B A c l := ⟨World.ownsRow.kept h.row hg (by rw [ownBlock_slice]; exact hn), h.es⟩
theorem ER.el (h : ER w0 w B A c l) (be : Below w0.heap.size w0 w) : EL w A l := by
  refine ⟨?_, fun x hx => (h.es x hx).below be⟩
  rcases Nat.eq_zero_or_pos l.length with h0 | h0
  · rw [List.length_eq_zero_iff.1 h0]; exact EL.nil (w := w) (A := A) |>.cells
  · obtain ⟨g, cap, hv, _, hlt⟩ := World.ownsRow.form h.row h0
    injection hv with a b e
    subst a; subst e
    have hc := h.row.cells (g := g) rfl
    intro i p hp
    obtain ⟨g1, g2, g3, g4⟩ := emCells_get l i p hp
    have h1 := hc _ _ g1
    have h2 := hc _ _ g2
    have h3 := hc _ _ g3
    have h4 := hc _ _ g4
    rw [Addr.add_lit] at h1 h2 h3 h4
    refine ⟨g, 0, rfl, hlt, h1, ?_, ?_, ?_⟩
    · rw [Nat.add_assoc]; exact h2
    · rw [Nat.add_assoc]; exact h3
    · rw [Nat.add_assoc]; exact h4
theorem ER.caps (h : ER w0 w B A c l) : l.length ≤ c ∧ c ≤ maxLen ∧ (A = none → c = 0) := by
  rcases h.row.2 with ⟨hv, h0⟩ | ⟨g, cap, cur, hv, h2, h3, h4, h5, _⟩
  · injection hv with a b d
    subst a; subst d
    exact ⟨by omega, Nat.zero_le _, (fun _ => rfl)⟩
  · injection hv with a b d
    subst a; subst d
    exact ⟨h4, h5, (fun e => by cases e)⟩
end
/-- the document's Merge in memory; its entries are as they came in, at w0 -/
structure RG (w0 w : World) (B g : Nat) (AI : Option Addr) (cI : Nat) (ins : List In) : Prop where
  box : Box w g 169 #[.slice AI ins.length cI]
  low : B ≤ g
  row : OR w B 170 AI cI (ins.map inV)
  inp : ∀ (i : Nat) (x : In), ins[i]? = some x → OR w B 26 x.A x.c (x.bs.map btV)
  ne : ∀ (i : Nat) (x : In), ins[i]? = some x → x.bs ≠ []
  bat : ∀ (i : Nat) (x : In) (k : Nat) (b : Bt), ins[i]? = some x → x.bs[k]? = some b → ER w0 w B b.A b.c b.es
  apI : ∀ (i j : Nat) (x y : In), ins[i]? = some x → ins[j]? = some y → blk x.A = blk y.A → i = j
section
variable {w0 w w' : World} {B B' g : Nat} {AI : Option Addr} {cI : Nat} {ins : List In}
theorem RG.below (h : RG w0 w B g AI cI ins) (hb : Below w.heap.size w w') : RG w0 w' B g AI cI ins :=
  ⟨h.box.below hb, h.low, h.row.below hb, fun i x hx => (h.inp i x hx).below hb, h.ne, fun i x k b hx hk => (h.bat i x k b hx hk).below hb, h.apI⟩
theorem RG.at_ (h : RG w0 w B g AI cI ins) {i : Nat} {x : In} (hi : ins[i]? = some x) : ∃ gx, x.A = some ⟨gx, 0, none⟩ ∧ B ≤ gx ∧ gx < w.heap.size := by
  obtain ⟨gx, cap, hv, hB, hlt⟩ := World.ownsRow.form (h.inp i x hi) (by rw [List.length_map]; exact List.length_pos_iff.2 (h.ne i x hi))
  injection hv with a _ _
  exact ⟨gx, a, hB, hlt⟩
theorem RG.row_ (h : RG w0 w B g AI cI ins) (hn : ins ≠ []) : ∃ gi, AI = some ⟨gi, 0, none⟩ ∧ B ≤ gi ∧ gi < w.heap.size := by
  obtain ⟨gx, cap, hv, hB, hlt⟩ := World.ownsRow.form h.row (by rw [List.length_map]; exact List.length_pos_iff.2 hn)
  injection hv with a _ _
  exact ⟨gx, a, hB, hlt⟩
theorem RG.cell_ (h : RG w0 w B g AI cI ins) {i : Nat} {x : In} (hi : ins[i]? = some x) : ∃ gi, AI = some ⟨gi, 0, none⟩ ∧ w.cell? ⟨gi, i, none⟩ = some (.slice x.A x.bs.length x.c) := by
  obtain ⟨gi, hAI, _, _⟩ := h.row_ (by intro e; rw [e] at hi; simp at hi)
  subst hAI
  obtain ⟨b', o', e, _, hc⟩ := h.row.vs i (inV x) (by rw [List.getElem?_map, hi]; rfl)
  injection e with e
  injection e with e1 e2 _
  subst e1; subst e2
  rw [Nat.zero_add] at hc
  exact ⟨gi, rfl, hc⟩
theorem RG.pos (h : RG w0 w B g AI cI ins) {i : Nat} {x : In} (hi : ins[i]? = some x) : ∃ k, x.bs.length = k + 1 := by
  cases e : x.bs with
  | nil => exact absurd e (h.ne i x hi)
  | cons b r => exact ⟨r.length, by simp⟩
theorem RG.bcell (h : RG w0 w B g AI cI ins) {i k : Nat} {x : In} {b : Bt} (hi : ins[i]? = some x) (hk : x.bs[k]? = some b) : ∃ gx, x.A = some ⟨gx, 0, none⟩ ∧ w.cell? ⟨gx, k, none⟩ = some (.slice b.A b.es.length b.c) := by
  obtain ⟨gx, hA, _, _⟩ := h.at_ hi
  have hr := h.inp i x hi
  rw [hA] at hr
  obtain ⟨b', o', e, _, hc⟩ := hr.vs k (btV b) (by rw [List.getElem?_map, hk]; rfl)
  injection e with e
  injection e with e1 e2 _
  subst e1; subst e2
  rw [Nat.zero_add] at hc
  exact ⟨gx, hA, hc⟩
/-- other blocks change -/
theorem RG.fr {F : Nat → Prop} (h : RG w0 w B g AI cI ins) (hf : Fr F w w') (hd : ∀ q, CF g AI ins q → ¬ F q) : RG w0 w' B g AI cI ins :=
  ⟨hf.box h.box (hd g (.inl rfl)), h.low, hf.own h.row fun k hk => hd k (.inr (.inl (ob hk))), fun i x hx => hf.own (h.inp i x hx) fun k hk => hd k (.inr (.inr ⟨i, x, hx, .inl (ob hk)⟩)), h.ne,
    fun i x k b hx hk => ⟨hf.own (h.bat i x k b hx hk).row fun q hq => hd q (.inr (.inr ⟨i, x, hx, .inr ⟨k, b, hk, ob hq⟩⟩)), (h.bat i x k b hx hk).es⟩, h.apI⟩
theorem RG.cf_ty (h : RG w0 w B g AI cI ins) {q : Nat} (hq : CF g AI ins q) : (Ty w q 169 ∨ Ty w q 170 ∨ Ty w q 26 ∨ Ty w q 42) ∧ B ≤ q ∧ q < w.heap.size := by
  rcases hq with rfl | hq | ⟨i, x, hx, hq | ⟨l, b, hl, hq⟩⟩
  · exact ⟨.inl h.box.ty, h.low, h.box.lt⟩
  · exact ⟨.inr (.inl (own_ty h.row (bo _ _ hq))), World.ownsRow.lt h.row q (bo _ _ hq)⟩
  · exact ⟨.inr (.inr (.inl (own_ty (h.inp i x hx) (bo _ _ hq)))), World.ownsRow.lt (h.inp i x hx) q (bo _ _ hq)⟩
  · exact ⟨.inr (.inr (.inr (own_ty (h.bat i x l b hx hl).row (bo _ _ hq)))), World.ownsRow.lt (h.bat i x l b hx hl).row q (bo _ _ hq)⟩
theorem RG.off (h : RG w0 w B g AI cI ins) {t : TypeId} (h1 : t ≠ 169) (h2 : t ≠ 170) (h3 : t ≠ 26) (h4 : t ≠ 42) : Off (CF g AI ins) w t := fun k hk _ => by
  rcases (h.cf_ty hk).1 with e | e | e | e
  · exact ⟨_, e, h1⟩
  · exact ⟨_, e, h2⟩
  · exact ⟨_, e, h3⟩
  · exact ⟨_, e, h4⟩
set_option maxRecDepth 100000 in
/-- a batch is closed -/
theorem RG.close (h : RG w0 w B g AI cI ins) {i : Nat} {x : In} (hi : ins[i]? = some x) (hB : B ≤ w.heap.size) (hl : x.bs.length ≤ 100) (ty : TypeId) :
    ∃ A' c' w2 gi, (Builtin.append_ #[170, 170] ty #[inV x, .slice (some ⟨w.heap.size, 0, none⟩) 1 1]).run Tryz.prog (w.alloc (.cells #[.slice none 0 0] 26)) = .ok (.slice A' (x.bs ++ [bt0]).length c') w2 ∧ AI = some ⟨gi, 0, none⟩ ∧
      w2.cell? ⟨gi, i, none⟩ = some (inV x) ∧ w2.frozen? ⟨gi, i, none⟩ = false ∧
      RG w0 (w2.setCell ⟨gi, i, none⟩ (.slice A' (x.bs ++ [bt0]).length c')) B g AI cI (ins.set i ⟨A', c', x.bs ++ [bt0]⟩) ∧
      Fr (CF g AI ins) w (w2.setCell ⟨gi, i, none⟩ (.slice A' (x.bs ++ [bt0]).length c')) ∧
      (∀ q, CF g AI (ins.set i ⟨A', c', x.bs ++ [bt0]⟩) q → CF g AI ins q ∨ w.heap.size ≤ q) := by
  have hil : i < ins.length := (List.getElem?_eq_some_iff.1 hi).1
  obtain ⟨gi, hAI, hBi, hlti⟩ := h.row_ (by intro e; rw [e] at hil; simp at hil)
  obtain ⟨A', c', w2, hrun, hOR, hbel, hgr, h5⟩ := app_row (P := Tryz.prog) Tryz.underlying170 enrInfo rfl w B ty x.A x.c _ (h.inp i x hi) [.slice none 0 0] (by simp [Value.oneCell']) (by simp; omega) (by decide) hB
  rw [show x.bs.map btV ++ [.slice none 0 0] = (x.bs ++ [bt0]).map btV by simp [btV, bt0]] at hrun hOR h5
  rw [List.length_map, List.length_map] at hrun
  rw [ownBlock_slice] at hgr
  rw [ownBlock_slice, ownBlock_slice] at h5
  have hal := (Below.refl w.heap.size w).alloc (Nat.le_refl _) (.cells #[.slice none 0 0] 26)
  have h1 := h.below hal
  subst hAI
  have hty : ∀ q, blk x.A = some q → Ty (w.alloc (.cells #[.slice none 0 0] 26)) q 26 := fun q hq => own_ty (h1.inp i x hi) (by rw [ownBlock_slice]; exact hq)
  have al2 : Aloof (w.alloc (.cells #[.slice none 0 0] 26)) (blk x.A) := fun q hq => ⟨_, hty q hq, by decide, by decide, by decide⟩
  have bx2 := h1.box.grown hgr (fun e => absurd (h1.box.ty.inj (hty g e.symm)) (by decide))
  have row2 : OR w2 B 170 (some ⟨gi, 0, none⟩) cI (ins.map inV) := own_keep h1.row hgr fun q hq => ⟨_, hty q hq, by decide⟩
  have ti : Ty w2 gi 170 := own_ty row2 rfl
  have hs := row2.set_ (k := i) (by rw [List.length_map]; exact hil) (.slice A' (x.bs ++ [bt0]).length c')
  obtain ⟨v, hv⟩ : ∃ v, Value.slice A' (x.bs ++ [bt0]).length c' = v := ⟨_, rfl⟩
  rw [hv] at hs
  have gs := grown_set w2 gi i v
  have gne : g ≠ gi := fun e => absurd (bx2.ty.inj (e ▸ ti)) (by decide)
  have bx3 := bx2.grown gs (fun e => gne (by injection e))
  have al3 : Aloof w2 (some gi) := fun q hq => by injection hq with hq; subst hq; exact ⟨_, ti, by decide, by decide, by decide⟩
  have c1 : w2.cell? ⟨gi, i, none⟩ = some (inV x) := by
    obtain ⟨b', o', e, _, hc⟩ := row2.vs i (inV x) (by rw [List.getElem?_map, hi]; rfl)
    injection e with e
    injection e with e1 e2 _
    subst e1; subst e2
    rw [Nat.zero_add] at hc; exact hc
  have kEW : ∀ {A : Option Addr} {c : Nat} {l : List Em}, ER w0 w B A c l → ER w0 (w2.setCell ⟨gi, i, none⟩ v) B A c l := fun {A c l} hh => by
    have h0 := hh.below hal
    have n0 : blk A = none ∨ blk A ≠ blk x.A := by
      cases e : blk A with
      | none => exact .inl rfl
      | some q =>
        refine .inr fun e2 => ?_
        have t1 := own_ty h0.row (b := q) (by rw [ownBlock_slice]; exact e)
        exact absurd (t1.inj (hty q e2.symm)) (by decide)
    have s0 := h0.kept_ hgr n0
    have n1 : blk A = none ∨ blk A ≠ some gi := by have := own_ne s0.row ti (by decide); rw [ownBlock_slice] at this; exact this
    exact s0.kept_ gs n1
  have hset : ∀ (j : Nat) (z : In), (ins.set i ⟨A', c', x.bs ++ [bt0]⟩)[j]? = some z → (j = i ∧ z = ⟨A', c', x.bs ++ [bt0]⟩) ∨ (j ≠ i ∧ ins[j]? = some z) := by
    intro j z hz
    rw [List.getElem?_set] at hz
    by_cases e : i = j
    · subst e
      rw [if_pos rfl, if_pos hil] at hz
      injection hz with hz
      exact .inl ⟨rfl, hz.symm⟩
    · rw [if_neg e] at hz; exact .inr ⟨fun e2 => e e2.symm, hz⟩
  have hbs : ∀ (l : Nat) (a : Bt), (x.bs ++ [bt0])[l]? = some a → (x.bs[l]? = some a) ∨ a = bt0 := by
    intro l a ha
    rcases Nat.lt_or_ge l x.bs.length with hl' | hl'
    · rw [List.getElem?_append_left hl'] at ha; exact .inl ha
    · rw [List.getElem?_append_right hl'] at ha
      have hm := List.mem_of_getElem? ha
      simp at hm
      exact .inr hm
  -- every batch is an old one, or none
  have hall : ∀ (j : Nat) (z : In) (l : Nat) (a : Bt), (ins.set i ⟨A', c', x.bs ++ [bt0]⟩)[j]? = some z → z.bs[l]? = some a → (∃ y', ins[j]? = some y' ∧ y'.bs[l]? = some a) ∨ a = bt0 := by
    intro j z l a hz hl'
    rcases hset j z hz with ⟨rfl, rfl⟩ | ⟨hne, hz⟩
    · rcases hbs l a hl' with ha | ha
      · exact .inl ⟨x, hi, ha⟩
      · exact .inr ha
    · exact .inl ⟨z, hz, hl'⟩
  have hap' : ∀ (j : Nat) (y' : In), ins[j]? = some y' → j ≠ i → blk y'.A ≠ blk A' := by
    intro j y' hj hne e
    rcases h5 with e5 | e5
    · exact hne (h.apI j i y' x hj hi (e.trans e5))
    · obtain ⟨gy, hy, _, hlt⟩ := h.at_ hj
      rw [e5, hy] at e
      simp [blk] at e
      omega
  subst hv
  refine ⟨A', c', w2, gi, hrun, rfl, c1, row2.frozen_ i, ⟨?_, h.low, ?_, ?_, ?_, ?_, ?_⟩, ?_, ?_⟩
  · rw [List.length_set]; exact bx3
  · rw [List.map_set]; exact hs
  · intro j z hz
    rcases hset j z hz with ⟨rfl, rfl⟩ | ⟨hne, hz⟩
    · exact own_keep hOR gs fun q hq => by injection hq with hq; subst hq; exact ⟨_, ti, by decide⟩
    · have hne2 : blk z.A ≠ blk x.A := fun e => hne (h.apI j i z x hz hi e)
      have s1 : OR w2 B 26 z.A z.c (z.bs.map btV) := World.ownsRow.kept (h1.inp j z hz) hgr (.inr (by rw [ownBlock_slice]; exact hne2))
      exact own_keep s1 gs fun q hq => by injection hq with hq; subst hq; exact ⟨_, ti, by decide⟩
  · intro j z hz
    rcases hset j z hz with ⟨rfl, rfl⟩ | ⟨hne, hz⟩
    · simp
    · exact h.ne j z hz
  · intro j z l a hz hl'
    rcases hall j z l a hz hl' with ⟨y', hy', ha⟩ | rfl
    · exact kEW (h.bat j y' l a hy' ha)
    · exact ER.nil _ _ _
  · intro j j' z z' hz hz' e
    rcases hset j z hz with ⟨e1, e2⟩ | ⟨hne, hz2⟩
    · rcases hset j' z' hz' with ⟨e3, e4⟩ | ⟨hne', hz2'⟩
      · rw [e1, e3]
      · rw [e2] at e; exact absurd e.symm (hap' j' z' hz2' hne')
    · rcases hset j' z' hz' with ⟨e3, e4⟩ | ⟨hne', hz2'⟩
      · rw [e4] at e; exact absurd e (hap' j z hz2 hne)
      · exact h.apI j j' z z' hz2 hz2' e
  · have f1 : Fr (CF g (some ⟨gi, 0, none⟩) ins) w w2 := (Fr.of_below hal).comp (Fr.of_grown hgr fun q hq => .inr (.inr ⟨i, _, hi, .inl hq⟩))
    exact f1.comp (Fr.of_set gi i _ (.inr (.inl rfl)))
  · intro q hq
    rcases hq with rfl | hq | ⟨j, z, hz, hq⟩
    · exact .inl (.inl rfl)
    · exact .inl (.inr (.inl hq))
    · rcases hset j z hz with ⟨e1, e2⟩ | ⟨hne, hz⟩
      · subst e2
        rcases hq with hq | ⟨l, a, ha, hq⟩
        · simp only at hq
          rcases h5 with e5 | e5
          · exact .inl (.inr (.inr ⟨i, _, hi, .inl (by rw [← e5]; exact hq)⟩))
          · rw [e5] at hq; injection hq with hq; exact .inr (by omega)
        · rcases hbs l a ha with ha | rfl
          · exact .inl (.inr (.inr ⟨i, _, hi, .inr ⟨l, a, ha, hq⟩⟩))
          · cases hq
      · exact .inl (.inr (.inr ⟨j, z, hz, hq⟩))
set_option maxRecDepth 100000 in
/-- an entry comes in: the batch's new row is written into its place -/
theorem RG.add (h : RG w0 w B g AI cI ins) {i k : Nat} {x : In} {b : Bt} (hi : ins[i]? = some x) (hk : x.bs[k]? = some b) (A' : Option Addr) (c' : Nat) (y : Em) (hnew : ER w0 w B A' c' (b.es ++ [y])) :
    ∃ gx, x.A = some ⟨gx, 0, none⟩ ∧ w.cell? ⟨gx, k, none⟩ = some (btV b) ∧ w.frozen? ⟨gx, k, none⟩ = false ∧
      RG w0 (w.setCell ⟨gx, k, none⟩ (.slice A' (b.es ++ [y]).length c')) B g AI cI (ins.set i ⟨x.A, x.c, x.bs.set k ⟨A', c', b.es ++ [y]⟩⟩) ∧
      Fr (CF g AI ins) w (w.setCell ⟨gx, k, none⟩ (.slice A' (b.es ++ [y]).length c')) ∧
      (∀ q, CF g AI (ins.set i ⟨x.A, x.c, x.bs.set k ⟨A', c', b.es ++ [y]⟩⟩) q → CF g AI ins q ∨ blk A' = some q) := by
  obtain ⟨gx, hxA, hBx, hltx⟩ := h.at_ hi
  have hil : i < ins.length := (List.getElem?_eq_some_iff.1 hi).1
  obtain ⟨A0, c0, bs0⟩ := x
  simp only at hxA hk
  subst hxA
  have hbt : OR w B 26 (some ⟨gx, 0, none⟩) c0 (bs0.map btV) := h.inp i _ hi
  have hkl : k < bs0.length := (List.getElem?_eq_some_iff.1 hk).1
  have tx : Ty w gx 26 := own_ty hbt rfl
  have hs := hbt.set_ (k := k) (by rw [List.length_map]; exact hkl) (.slice A' (b.es ++ [y]).length c')
  obtain ⟨v, hv⟩ : ∃ v, Value.slice A' (b.es ++ [y]).length c' = v := ⟨_, rfl⟩
  rw [hv] at hs
  have gs := grown_set w gx k v
  have gne : g ≠ gx := fun e => absurd (h.box.ty.inj (show Ty w g 26 by rw [e]; exact tx)) (by decide)
  have c1 : w.cell? ⟨gx, k, none⟩ = some (btV b) := by
    obtain ⟨b', o', e, _, hc⟩ := hbt.vs k (btV b) (by rw [List.getElem?_map, hk]; rfl)
    injection e with e
    injection e with e1 e2 _
    subst e1; subst e2
    rw [Nat.zero_add] at hc; exact hc
  have kER : ∀ {A : Option Addr} {c : Nat} {l : List Em}, ER w0 w B A c l → ER w0 (w.setCell ⟨gx, k, none⟩ v) B A c l := fun {A c l} hh =>
    hh.kept_ gs (by have := own_ne hh.row tx (by decide); rw [ownBlock_slice] at this; exact this)
  have hset : ∀ (j : Nat) (z : In), (ins.set i ⟨some ⟨gx, 0, none⟩, c0, bs0.set k ⟨A', c', b.es ++ [y]⟩⟩)[j]? = some z → (j = i ∧ z = ⟨some ⟨gx, 0, none⟩, c0, bs0.set k ⟨A', c', b.es ++ [y]⟩⟩) ∨ (j ≠ i ∧ ins[j]? = some z) := by
    intro j z hz
    rw [List.getElem?_set] at hz
    by_cases e : i = j
    · subst e
      rw [if_pos rfl, if_pos hil] at hz
      injection hz with hz
      exact .inl ⟨rfl, hz.symm⟩
    · rw [if_neg e] at hz; exact .inr ⟨fun e2 => e e2.symm, hz⟩
  have hbs : ∀ (l : Nat) (a : Bt), (bs0.set k ⟨A', c', b.es ++ [y]⟩)[l]? = some a → (l = k ∧ a = ⟨A', c', b.es ++ [y]⟩) ∨ (l ≠ k ∧ bs0[l]? = some a) := by
    intro l a ha
    rw [List.getElem?_set] at ha
    by_cases e : k = l
    · subst e
      rw [if_pos rfl, if_pos hkl] at ha
      injection ha with ha
      exact .inl ⟨rfl, ha.symm⟩
    · rw [if_neg e] at ha; exact .inr ⟨fun e2 => e e2.symm, ha⟩
  subst hv
  refine ⟨gx, rfl, c1, hbt.frozen_ k, ⟨?_, h.low, ?_, ?_, ?_, ?_, ?_⟩, Fr.of_set gx k _ (.inr (.inr ⟨i, _, hi, .inl rfl⟩)), ?_⟩
  · rw [List.length_set]; exact h.box.grown gs (fun e => gne (by injection e))
  · have e : (ins.set i ⟨some ⟨gx, 0, none⟩, c0, bs0.set k ⟨A', c', b.es ++ [y]⟩⟩).map inV = ins.map inV := by
      rw [List.map_set]
      refine List.ext_getElem? fun j => ?_
      rw [List.getElem?_set]
      split
      · next e =>
        subst e
        rw [List.getElem?_map, hi]
        rw [if_pos (by rw [List.length_map]; exact hil)]
        simp [inV]
      · rfl
    rw [e]
    exact own_keep h.row gs fun q hq => by injection hq with hq; subst hq; exact ⟨_, tx, by decide⟩
  · intro j z hz
    rcases hset j z hz with ⟨rfl, rfl⟩ | ⟨hne, hz⟩
    · have e : (bs0.set k ⟨A', c', b.es ++ [y]⟩).map btV = (bs0.map btV).set k (.slice A' (b.es ++ [y]).length c') := by rw [List.map_set]; rfl
      simp only
      rw [e]
      exact hs
    · have hne2 : blk z.A ≠ some gx := fun e => hne (h.apI j i z _ hz hi e)
      exact World.ownsRow.kept (h.inp j z hz) gs (.inr (by rw [ownBlock_slice]; exact hne2))
  · intro j z hz
    rcases hset j z hz with ⟨rfl, rfl⟩ | ⟨hne, hz⟩
    · have := h.ne j _ hi
      intro e
      have e2 := congrArg List.length e
      simp at e2
      exact this e2
    · exact h.ne j z hz
  · intro j z l a hz hl'
    rcases hset j z hz with ⟨rfl, rfl⟩ | ⟨hne, hz⟩
    · rcases hbs l a hl' with ⟨rfl, rfl⟩ | ⟨_, ha⟩
      · exact kER hnew
      · exact kER (h.bat j _ l a hi ha)
    · exact kER (h.bat j z l a hz hl')
  · intro j j' z z' hz hz' e
    rcases hset j z hz with ⟨e1, e2⟩ | ⟨hne, hz2⟩
    · rcases hset j' z' hz' with ⟨e3, e4⟩ | ⟨hne', hz2'⟩
      · rw [e1, e3]
      · rw [e2] at e; rw [e1]; exact h.apI i j' _ z' hi hz2' e
    · rcases hset j' z' hz' with ⟨e3, e4⟩ | ⟨hne', hz2'⟩
      · rw [e4] at e; rw [e3]; exact h.apI j i z _ hz2 hi e
      · exact h.apI j j' z z' hz2 hz2' e
  · intro q hq
    rcases hq with rfl | hq | ⟨j, z, hz, hq⟩
    · exact .inl (.inl rfl)
    · exact .inl (.inr (.inl hq))
    · rcases hset j z hz with ⟨e1, e2⟩ | ⟨hne, hz⟩
      · subst e2
        rcases hq with hq | ⟨l, a, ha, hq⟩
        · exact .inl (.inr (.inr ⟨i, _, hi, .inl hq⟩))
        · rcases hbs l a ha with ⟨_, rfl⟩ | ⟨_, ha⟩
          · exact .inr hq
          · exact .inl (.inr (.inr ⟨i, _, hi, .inr ⟨l, a, ha, hq⟩⟩))
      · exact .inl (.inr (.inr ⟨j, z, hz, hq⟩))
end
end Go.Proofs.YtefdipjhjgmokaaGreatDoor

namespace Go.Proofs
open Go.Shelf
def Tryz.sv6_ren : Go.Shelf.Ren := ⟨fun | 6 => 114 | 10 => 156 | 11 => 157 | 12 => 158 | 13 => 159 | 14 => 160 | 24 => 206 | 25 => 207 | 26 => 208 | 27 => 209 | 28 => 210 | 29 => 211 | 30 => 212 | 31 => 213 | 32 => 214 | 33 => 215 | 34 => 243 | 35 => 244 | 36 => 245 | 37 => 246 | 38 => 247 | 39 => 266 | n => n, fun | 20 => 20 | 26 => 177 | 35 => 222 | 0 => 0 | 37 => 224 | 3 => 3 | 41 => 171 | 44 => 229 | 49 => 250 | 51 => 147 | 4 => 4 | 54 => 270 | 53 => 269 | 58 => 154 | 5 => 5 | 9 => 9 | 60 => 295 | 64 => 299 | 66 => 314 | 67 => 315 | 17 => 17 | 32 => 219 | 33 => 220 | 82 => 338 | 12 => 12 | 75 => 332 | 76 => 333 | 77 => 334 | 78 => 275 | 79 => 335 | 80 => 336 | n => n, fun | n => n⟩
theorem Tryz.sv6 : Go.Proofs.LaysGg.n6 Tryz.prog Tryz.sv6_ren := {
  mixed := by kernel_rfl
  f6 := Tryz.func114.trans (congrArg some (by kernel_rfl))
  f10 := Tryz.func156.trans (congrArg some (by kernel_rfl))
  f11 := Tryz.func157.trans (congrArg some (by kernel_rfl))
  f12 := Tryz.func158.trans (congrArg some (by kernel_rfl))
  f13 := Tryz.func159.trans (congrArg some (by kernel_rfl))
  f14 := Tryz.func160.trans (congrArg some (by kernel_rfl))
  f24 := Tryz.func206.trans (congrArg some (by kernel_rfl))
  f25 := Tryz.func207.trans (congrArg some (by kernel_rfl))
  f26 := Tryz.func208.trans (congrArg some (by kernel_rfl))
  f27 := Tryz.func209.trans (congrArg some (by kernel_rfl))
  f28 := Tryz.func210.trans (congrArg some (by kernel_rfl))
  f29 := Tryz.func211.trans (congrArg some (by kernel_rfl))
  f30 := Tryz.func212.trans (congrArg some (by kernel_rfl))
  f31 := Tryz.func213.trans (congrArg some (by kernel_rfl))
  f32 := Tryz.func214.trans (congrArg some (by kernel_rfl))
  f33 := Tryz.func215.trans (congrArg some (by kernel_rfl))
  f34 := Tryz.func243.trans (congrArg some (by kernel_rfl))
  f35 := Tryz.func244.trans (congrArg some (by kernel_rfl))
  f36 := Tryz.func245.trans (congrArg some (by kernel_rfl))
  f37 := Tryz.func246.trans (congrArg some (by kernel_rfl))
  f38 := Tryz.func247.trans (congrArg some (by kernel_rfl))
  f39 := Tryz.func266.trans (congrArg some (by kernel_rfl))
  t0 := Tryz.underlying0
  a0 := Tryz.isAgg0
  z0 := Tryz.sizeOf0
  v0 := Tryz.zeroValue0
  i0 := by kernel_rfl
  t3 := Tryz.underlying3
  a3 := Tryz.isAgg3
  z3 := Tryz.sizeOf3
  v3 := Tryz.zeroValue3
  i3 := by kernel_rfl
  t4 := Tryz.underlying4
  a4 := Tryz.isAgg4
  z4 := Tryz.sizeOf4
  v4 := Tryz.zeroValue4
  i4 := by kernel_rfl
  t5 := Tryz.underlying5
  a5 := Tryz.isAgg5
  z5 := Tryz.sizeOf5
  v5 := Tryz.zeroValue5
  i5 := by kernel_rfl
  t9 := Tryz.underlying9
  a9 := Tryz.isAgg9
  z9 := Tryz.sizeOf9
  v9 := Tryz.zeroValue9
  i9 := by kernel_rfl
  t12 := Tryz.underlying12
  a12 := Tryz.isAgg12
  z12 := Tryz.sizeOf12
  v12 := Tryz.zeroValue12
  i12 := by kernel_rfl
  t17 := Tryz.underlying17
  a17 := Tryz.isAgg17
  z17 := Tryz.sizeOf17
  v17 := Tryz.zeroValue17
  i17 := by kernel_rfl
  t20 := Tryz.underlying20
  a20 := Tryz.isAgg20
  z20 := Tryz.sizeOf20
  v20 := Tryz.zeroValue20
  i20 := by kernel_rfl
  t26 := Tryz.underlying177
  a26 := Tryz.isAgg177
  z26 := Tryz.sizeOf177
  v26 := Tryz.zeroValue177
  i26 := by kernel_rfl
  t32 := Tryz.underlying219
  a32 := Tryz.isAgg219
  z32 := Tryz.sizeOf219
  v32 := Tryz.zeroValue219
  i32 := by kernel_rfl
  t33 := Tryz.underlying220
  a33 := Tryz.isAgg220
  z33 := Tryz.sizeOf220
  v33 := Tryz.zeroValue220
  i33 := by kernel_rfl
  t35 := Tryz.underlying222
  a35 := Tryz.isAgg222
  z35 := Tryz.sizeOf222
  v35 := Tryz.zeroValue222
  i35 := by kernel_rfl
  t37 := Tryz.underlying224
  a37 := Tryz.isAgg224
  z37 := Tryz.sizeOf224
  v37 := Tryz.zeroValue224
  i37 := by kernel_rfl
  t41 := Tryz.underlying171
  a41 := Tryz.isAgg171
  z41 := Tryz.sizeOf171
  v41 := Tryz.zeroValue171
  i41 := by kernel_rfl
  t44 := Tryz.underlying229
  a44 := Tryz.isAgg229
  z44 := Tryz.sizeOf229
  v44 := Tryz.zeroValue229
  i44 := by kernel_rfl
  t49 := Tryz.underlying250
  a49 := Tryz.isAgg250
  z49 := Tryz.sizeOf250
  v49 := Tryz.zeroValue250
  i49 := by kernel_rfl
  t51 := Tryz.underlying147
  a51 := Tryz.isAgg147
  z51 := Tryz.sizeOf147
  v51 := Tryz.zeroValue147
  i51 := by kernel_rfl
  t53 := Tryz.underlying269
  a53 := Tryz.isAgg269
  z53 := Tryz.sizeOf269
  v53 := Tryz.zeroValue269
  i53 := by kernel_rfl
  t54 := Tryz.underlying270
  a54 := Tryz.isAgg270
  z54 := Tryz.sizeOf270
  v54 := Tryz.zeroValue270
  i54 := by kernel_rfl
  t58 := Tryz.underlying154
  a58 := Tryz.isAgg154
  z58 := Tryz.sizeOf154
  v58 := Tryz.zeroValue154
  i58 := by kernel_rfl
  t60 := Tryz.underlying295
  a60 := Tryz.isAgg295
  z60 := Tryz.sizeOf295
  v60 := Tryz.zeroValue295
  i60 := by kernel_rfl
  t64 := Tryz.underlying299
  a64 := Tryz.isAgg299
  z64 := Tryz.sizeOf299
  v64 := Tryz.zeroValue299
  i64 := by kernel_rfl
  t66 := Tryz.underlying314
  a66 := Tryz.isAgg314
  z66 := Tryz.sizeOf314
  v66 := Tryz.zeroValue314
  i66 := by kernel_rfl
  t67 := Tryz.underlying315
  a67 := Tryz.isAgg315
  z67 := Tryz.sizeOf315
  v67 := Tryz.zeroValue315
  i67 := by kernel_rfl
  t75 := Tryz.underlying332
  a75 := Tryz.isAgg332
  z75 := Tryz.sizeOf332
  v75 := Tryz.zeroValue332
  i75 := by kernel_rfl
  t76 := Tryz.underlying333
  a76 := Tryz.isAgg333
  z76 := Tryz.sizeOf333
  v76 := Tryz.zeroValue333
  i76 := by kernel_rfl
  t77 := Tryz.underlying334
  a77 := Tryz.isAgg334
  z77 := Tryz.sizeOf334
  v77 := Tryz.zeroValue334
  i77 := by kernel_rfl
  t78 := Tryz.underlying275
  a78 := Tryz.isAgg275
  z78 := Tryz.sizeOf275
  v78 := Tryz.zeroValue275
  i78 := by kernel_rfl
  t79 := Tryz.underlying335
  a79 := Tryz.isAgg335
  z79 := Tryz.sizeOf335
  v79 := Tryz.zeroValue335
  i79 := by kernel_rfl
  t80 := Tryz.underlying336
  a80 := Tryz.isAgg336
  z80 := Tryz.sizeOf336
  v80 := Tryz.zeroValue336
  i80 := by kernel_rfl
  t82 := Tryz.underlying338
  a82 := Tryz.isAgg338
  z82 := Tryz.sizeOf338
  v82 := Tryz.zeroValue338
  i82 := by kernel_rfl }
def Tryz.trim_ren : Go.Shelf.Ren := ⟨fun | 160 => 153 | 232 => 191 | 231 => 190 | 227 => 192 | 234 => 194 | 233 => 193 | 236 => 196 | 235 => 195 | 228 => 222 | 271 => 242 | 151 => 241 | 197 => 240 | 120 => 265 | 152 => 220 | 260 => 264 | 137 => 126 | 119 => 252 | 224 => 232 | 225 => 231 | 217 => 171 | 266 => 223 | n => n, fun | 9 => 9 | 4 => 4 | 3 => 3 | 5 => 5 | 117 => 259 | 116 => 258 | 0 => 0 | 124 => 262 | 21 => 21 | 105 => 292 | 46 => 171 | 119 => 321 | 139 => 324 | 138 => 323 | n => n, fun | 3 => 4 | 4 => 5 | n => n⟩
theorem Tryz.trim : Go.Proofs.Lays.n160 Tryz.prog Tryz.trim_ren := {
  mixed := by kernel_rfl
  f119 := Tryz.func252.trans (congrArg some (by kernel_rfl))
  f120 := Tryz.func265.trans (congrArg some (by kernel_rfl))
  f137 := Tryz.func126.trans (congrArg some (by kernel_rfl))
  f151 := Tryz.func241.trans (congrArg some (by kernel_rfl))
  f152 := Tryz.func220.trans (congrArg some (by kernel_rfl))
  f160 := Tryz.func153.trans (congrArg some (by kernel_rfl))
  f197 := Tryz.func240.trans (congrArg some (by kernel_rfl))
  f217 := Tryz.func171.trans (congrArg some (by kernel_rfl))
  f224 := Tryz.func232.trans (congrArg some (by kernel_rfl))
  f225 := Tryz.func231.trans (congrArg some (by kernel_rfl))
  f227 := Tryz.func192.trans (congrArg some (by kernel_rfl))
  f228 := Tryz.func222.trans (congrArg some (by kernel_rfl))
  f231 := Tryz.func190.trans (congrArg some (by kernel_rfl))
  f232 := Tryz.func191.trans (congrArg some (by kernel_rfl))
  f233 := Tryz.func193.trans (congrArg some (by kernel_rfl))
  f234 := Tryz.func194.trans (congrArg some (by kernel_rfl))
  f235 := Tryz.func195.trans (congrArg some (by kernel_rfl))
  f236 := Tryz.func196.trans (congrArg some (by kernel_rfl))
  f260 := Tryz.func264.trans (congrArg some (by kernel_rfl))
  f266 := Tryz.func223.trans (congrArg some (by kernel_rfl))
  f271 := Tryz.func242.trans (congrArg some (by kernel_rfl))
  t0 := Tryz.underlying0
  a0 := Tryz.isAgg0
  z0 := Tryz.sizeOf0
  v0 := Tryz.zeroValue0
  t3 := Tryz.underlying3
  a3 := Tryz.isAgg3
  z3 := Tryz.sizeOf3
  v3 := Tryz.zeroValue3
  t4 := Tryz.underlying4
  a4 := Tryz.isAgg4
  z4 := Tryz.sizeOf4
  v4 := Tryz.zeroValue4
  t5 := Tryz.underlying5
  a5 := Tryz.isAgg5
  z5 := Tryz.sizeOf5
  v5 := Tryz.zeroValue5
  t9 := Tryz.underlying9
  a9 := Tryz.isAgg9
  z9 := Tryz.sizeOf9
  v9 := Tryz.zeroValue9
  t21 := Tryz.underlying21
  a21 := Tryz.isAgg21
  z21 := Tryz.sizeOf21
  v21 := Tryz.zeroValue21
  t46 := Tryz.underlying171
  a46 := Tryz.isAgg171
  z46 := Tryz.sizeOf171
  v46 := Tryz.zeroValue171
  t105 := Tryz.underlying292
  a105 := Tryz.isAgg292
  z105 := Tryz.sizeOf292
  v105 := Tryz.zeroValue292
  t116 := Tryz.underlying258
  a116 := Tryz.isAgg258
  z116 := Tryz.sizeOf258
  t117 := Tryz.underlying259
  a117 := Tryz.isAgg259
  z117 := Tryz.sizeOf259
  v117 := Tryz.zeroValue259
  t119 := Tryz.underlying321
  a119 := Tryz.isAgg321
  z119 := Tryz.sizeOf321
  t124 := Tryz.underlying262
  a124 := Tryz.isAgg262
  z124 := Tryz.sizeOf262
  v124 := Tryz.zeroValue262
  t138 := Tryz.underlying323
  a138 := Tryz.isAgg323
  z138 := Tryz.sizeOf323
  v138 := Tryz.zeroValue323
  t139 := Tryz.underlying324
  a139 := Tryz.isAgg324
  z139 := Tryz.sizeOf324
  v139 := Tryz.zeroValue324
  g3 := by kernel_rfl
  g4 := by kernel_rfl }
end Go.Proofs
