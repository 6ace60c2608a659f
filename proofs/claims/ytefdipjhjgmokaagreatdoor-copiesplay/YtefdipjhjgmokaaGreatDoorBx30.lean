/-
  The document's Copies in memory (no body of the program in it).
  slices.Grow of nil, slices.Concat and slices.Clone, at entries.
  The document's Log.
-/
import Derived.Test.YtefdipjhjgmokaaGreatDoorBx28
import Derived.Test.YtefdipjhjgmokaaGreatDoorBx29
import Derived.Test.YtefdipjhjgmokaaGreatDoorBx12
import Derived.Test.YtefdipjhjgmokaaGreatDoorBx1
import Derived.Test.YtefdipjhjgmokaaGreatDoorBx3
import Derived.WalkKit
import Derived.WalkSpells
import Derived.WalkLawsBesides
import Derived.Lib.SlicesS
import Derived.Shelf.Slices.Clone
import Derived.Test.YtefdipjhjgmokaaGreatDoorBx16
set_option linter.unusedVariables false
set_option linter.unusedSimpArgs false
namespace Go.Proofs.YtefdipjhjgmokaaGreatDoor
open Go.RowKit Go.WideMaps Go.Maps

theorem MV.fr {F : Nat → Prop} {w w' : World} {b n : Nat} {f : VF} (h : MV w b n f) (hf : Fr F w w') (hb : ¬ F b) : MV w' b n f := by
  have hlt := h.lt
  obtain ⟨D, ⟨es, clock, h1, Fi, hs, hD⟩, h2, h3⟩ := h.ex
  exact ⟨D, ⟨es, clock, (hf.block b hlt hb).trans h1, Fi, hs, hD⟩, h2, h3⟩
theorem MV.nty {w : World} {b n k : Nat} {f : VF} {u : TypeId} (h : MV w b n f) (hk : Ty w k u) : k ≠ b := fun e => by
  subst e
  obtain ⟨D, ⟨es, clock, h1, _⟩, _⟩ := h.ex
  obtain ⟨cs, fr, h2⟩ := hk
  rw [h1] at h2
  cases h2
/-- the document's Copies: where they lie -/
structure Rc where
  r : Rs
  gc : Nat
  m : Mp
  mb : Nat
  n : Nat
  l : List Pr
  AD : Option Addr
  cD : Nat
  dn : List Nat
def Rc.F (c : Rc) (k : Nat) : Prop := c.r.F k ∨ blk c.AD = some k
def Rc.cs (c : Rc) : Array Value := #[.pointer (some ⟨c.r.g, 0, none⟩), .slice c.m.A c.m.cs.length c.m.ca, .slice c.m.O c.m.os.length c.m.co, .map (some c.mb), .slice c.AD c.dn.length c.cD]
structure Rc.Ok (c : Rc) (w0 w : World) (B : Nat) : Prop where
  ro : c.r.Ok w0 w B
  box : Box w c.gc 106 c.cs
  low : B ≤ c.gc
  ms : MS w0 c.m
  okm : OkM c.m.cs c.m.os
  mv : MV w c.mb c.n (valOf c.l)
  okl : Go.Proofs.YtefdipjhjgmokaaGreatDoor.Ok c.l
  nle : c.n ≤ 400000000
  done : OR w B 3 c.AD c.cD (nV c.dn)
/-- a step of it -/
structure Rc.To (c : Rc) (w0 w : World) (B : Nat) (c' : Rc) (w' : World) (ct' : List (List (List Ent))) (dn' : List Nat) : Prop where
  g : c'.gc = c.gc
  rg : c'.r.g = c.r.g
  m : c'.m = c.m
  l : c'.l = c.l
  ad : c'.AD = c.AD
  ok : c'.Ok w0 w' B
  ct : c'.r.ct = ct'
  dn : c'.dn = dn'
  fr : Fr c.F w w'
  F : ∀ k, c'.F k → c.F k ∨ w.heap.size ≤ k
section
variable {c c' : Rc} {w0 w w1 w' : World} {B B' : Nat} {ct' : List (List (List Ent))} {dn' : List Nat}
theorem Rc.Ok.below (h : c.Ok w0 w B) (hb : Below w.heap.size w w') : c.Ok w0 w' B := ⟨h.ro.below hb, h.box.below hb, h.low, h.ms, h.okm, h.mv.below hb, h.okl, h.nle, h.done.below hb⟩
theorem Rc.Ok.lo (h : c.Ok w0 w B) {k : Nat} (hk : c.F k) : B ≤ k ∧ k < w.heap.size := by
  rcases hk with hk | hk
  · exact h.ro.lo hk
  · exact World.ownsRow.lt h.done k (bo _ _ hk)
theorem Rc.Ok.ty (h : c.Ok w0 w B) {k : Nat} (hk : c.F k) : ∃ u, Ty w k u ∧ (u = 169 ∨ u = 170 ∨ u = 26 ∨ u = 42 ∨ u = 3) := by
  rcases hk with hk | hk
  · rcases (h.ro.rg.cf_ty hk).1 with e | e | e | e
    · exact ⟨_, e, .inl rfl⟩
    · exact ⟨_, e, .inr (.inl rfl)⟩
    · exact ⟨_, e, .inr (.inr (.inl rfl))⟩
    · exact ⟨_, e, .inr (.inr (.inr (.inl rfl)))⟩
  · exact ⟨_, own_ty h.done (bo _ _ hk), .inr (.inr (.inr (.inr rfl)))⟩
theorem Rc.Ok.off (h : c.Ok w0 w B) {t : TypeId} (h1 : t ≠ 169) (h2 : t ≠ 170) (h3 : t ≠ 26) (h4 : t ≠ 42) (h5 : t ≠ 3) : Off c.F w t := fun k hk _ => by
  obtain ⟨u, hu, e⟩ := h.ty hk
  exact ⟨u, hu, by rcases e with rfl | rfl | rfl | rfl | rfl <;> assumption⟩
theorem Rc.Ok.nbox (h : c.Ok w0 w B) : ¬ c.F c.gc := fun hF => by
  obtain ⟨u, hu, e⟩ := h.ty hF
  have := hu.inj h.box.ty
  subst this
  rcases e with e | e | e | e | e <;> exact absurd e (by decide)
theorem Rc.Ok.nmap (h : c.Ok w0 w B) : ¬ c.F c.mb := fun hF => by
  obtain ⟨u, hu, _⟩ := h.ty hF
  exact h.mv.nty hu rfl
theorem Rc.Ok.fr {F : Nat → Prop} (h : c.Ok w0 w B) (hf : Fr F w w') (hd : ∀ q, c.F q → ¬ F q) (hg : ¬ F c.gc) (hm : ¬ F c.mb) (hF : ∀ q, F q → w0.heap.size ≤ q) : c.Ok w0 w' B :=
  ⟨h.ro.fr hf (fun q hq => hd q (.inl hq)) hF, hf.box h.box hg, h.low, h.ms, h.okm, h.mv.fr hf hm, h.okl, h.nle, hf.own h.done fun k hk => hd k (.inr (ob hk))⟩
theorem Rc.To.same (h : c.Ok w0 w B) (hb : Below w.heap.size w w') : c.To w0 w B c w' c.r.ct c.dn := ⟨rfl, rfl, rfl, rfl, rfl, h.below hb, rfl, rfl, .of_below hb, fun _ => .inl⟩
theorem Rc.To.post (h : c.To w0 w B c' w1 ct' dn') (hb : Below w1.heap.size w1 w') : c.To w0 w B c' w' ct' dn' := ⟨h.g, h.rg, h.m, h.l, h.ad, h.ok.below hb, h.ct, h.dn, h.fr.comp (.of_below hb), h.F⟩
theorem Rc.To.pre (h : c.To w0 w1 B c' w' ct' dn') (hb : Below w.heap.size w w1) : c.To w0 w B c' w' ct' dn' := ⟨h.g, h.rg, h.m, h.l, h.ad, h.ok, h.ct, h.dn, (Fr.of_below hb).comp h.fr, fun k hk => (h.F k hk).imp id fun e => Nat.le_trans hb.size e⟩
theorem Rc.To.below_ {a : World} {B0 : Nat} (h : c.To w0 w B c' w' ct' dn') (ho : c.Ok w0 w B) (hB : B0 ≤ B) (hb : Below B0 a w) : Below B0 a w' := h.fr.below (fun k hk => Nat.le_trans hB (ho.lo hk).1) (Nat.le_trans hB ho.ro.size) hb
/-- the Merge makes a step -/
theorem Rc.Ok.merge {r' : Rs} (h : c.Ok w0 w B) (ht : c.r.To w0 w B r' w' ct') : c.To w0 w B ⟨r', c.gc, c.m, c.mb, c.n, c.l, c.AD, c.cD, c.dn⟩ w' ct' c.dn := by
  have hnb : ¬ c.r.F c.gc := fun e => h.nbox (.inl e)
  have hnm : ¬ c.r.F c.mb := fun e => h.nmap (.inl e)
  have hbx := ht.fr.box h.box hnb
  have hI : Off c.r.F w 3 := h.ro.off (by decide) (by decide) (by decide) (by decide)
  refine ⟨rfl, ht.g, rfl, rfl, rfl, ⟨ht.ok, ?_, h.low, h.ms, h.okm, h.mv.fr ht.fr hnm, h.okl, h.nle, ht.fr.own_ty h.done hI⟩, ht.ct, rfl, ⟨ht.fr.os, ht.fr.tape, ht.fr.output, ht.fr.size, fun k hk hF => ht.fr.block k hk fun e => hF (.inl e)⟩, ?_⟩
  · have e : (Rc.mk r' c.gc c.m c.mb c.n c.l c.AD c.cD c.dn).cs = c.cs := by simp only [Rc.cs, ht.g]
    rw [e]
    exact hbx
  · rintro k (hk | hk)
    · exact (ht.F k hk).imp .inl id
    · exact .inl (.inr hk)
/-- how much a replica has done is written down -/
theorem Rc.Ok.set_ (h : c.Ok w0 w B) {i : Nat} (hi : i < c.dn.length) (k : Nat) : ∃ gd, c.AD = some ⟨gd, 0, none⟩ ∧ w.frozen? ⟨gd, i, none⟩ = false ∧ w.cell? ⟨gd, i, none⟩ = some (.int .i64 (c.dn[i] : Nat)) ∧
    c.To w0 w B ⟨c.r, c.gc, c.m, c.mb, c.n, c.l, c.AD, c.cD, c.dn.set i k⟩ (w.setCell ⟨gd, i, none⟩ (.int .i64 (k : Int))) c.r.ct (c.dn.set i k) := by
  have hl : (nV c.dn).length = c.dn.length := by simp [nV]
  have hd := h.done
  unfold OR at hd
  rw [hl] at hd
  obtain ⟨gd, cap, hv, hB, hlt⟩ := World.ownsRow.form hd (by omega)
  injection hv with a b e
  rw [a] at hd
  have hc := hd.cells (g := gd) rfl i (.int .i64 (c.dn[i] : Nat)) (by simp [nV, hi])
  rw [Addr.add_lit, Nat.zero_add] at hc
  have hs := own_set hd i (by rw [hl]; exact hi) (.int .i64 (k : Int))
  have tg : Ty w gd 3 := own_ty hd rfl
  have ff : Fr c.F w (w.setCell ⟨gd, i, none⟩ (.int .i64 (k : Int))) := Fr.of_set _ _ _ (.inr (by rw [a]; rfl))
  have hnr : ∀ q, c.r.F q → q ≠ gd := fun q hq e => by
    have hl2 := (h.ro.lo hq).2
    obtain ⟨u, h1, h2⟩ := (h.ro.off (t := 3) (by decide) (by decide) (by decide) (by decide)) q hq hl2
    rw [e] at h1
    exact h2 (tg.inj h1)
  have ff2 : Fr (fun q => q = gd) w (w.setCell ⟨gd, i, none⟩ (.int .i64 (k : Int))) := Fr.of_set _ _ _ rfl
  have hw0 := h.ro.lb
  refine ⟨gd, a, own_frozen hd _, hc, rfl, rfl, rfl, rfl, rfl, ⟨h.ro.fr ff2 hnr (fun q hq => by have hq' : q = gd := hq; omega), ?_, h.low, h.ms, h.okm, h.mv.fr ff2 (fun e => h.mv.nty tg e.symm), h.okl, h.nle, ?_⟩, rfl, rfl, ff, fun q hq => .inl hq⟩
  · have e : (Rc.mk c.r c.gc c.m c.mb c.n c.l c.AD c.cD (c.dn.set i k)).cs = c.cs := by simp [Rc.cs]
    rw [e]
    exact ff2.box h.box fun e => by
      have := h.box.ty
      rw [show c.gc = gd from e] at this
      exact absurd (this.inj tg) (by decide)
  · show OR _ B 3 c.AD c.cD (nV (c.dn.set i k))
    rw [a]
    have e : nV (c.dn.set i k) = (nV c.dn).set i (.int .i64 (k : Int)) := by simp [nV, List.map_set]
    unfold OR
    rw [e, List.length_set, hl]
    exact hs
end
end Go.Proofs.YtefdipjhjgmokaaGreatDoor

set_option linter.unusedVariables false
set_option linter.unusedSimpArgs false
namespace Go.Proofs.YtefdipjhjgmokaaGreatDoor
open Go.RowKit

theorem emCells_ones (l : List Em) : ∀ u ∈ emCells l, u.oneCell' = true := by
  induction l with
  | nil => simp [emCells]
  | cons p r ih =>
    intro u hu
    simp only [emCells, List.mem_cons] at hu
    rcases hu with rfl | rfl | rfl | rfl | hu
    · rfl
    · rfl
    · rfl
    · rfl
    · exact ih u hu
theorem EL.cellsAt {w : World} {A : Option Addr} {l : List Em} (h : EL w A l) (hl : l ≠ []) : ∃ b o, A = some ⟨b, o, none⟩ ∧ ∀ j u, (emCells l)[j]? = some u → w.cell? ((⟨b, o, none⟩ : Addr).add j) = some u := by
  obtain ⟨p, r, rfl⟩ : ∃ p r, l = p :: r := by
    cases l with
    | nil => exact absurd rfl hl
    | cons p r => exact ⟨p, r, rfl⟩
  obtain ⟨b, o, rfl, _⟩ := h.cells 0 p rfl
  refine ⟨b, o, rfl, fun j u hu => ?_⟩
  have hj : j < (p :: r).length * 4 := by
    rw [← emCells_length]
    rcases Nat.lt_or_ge j (emCells (p :: r)).length with h | h
    · exact h
    · rw [List.getElem?_eq_none h] at hu; cases hu
  have hq : j / 4 < (p :: r).length := by omega
  obtain ⟨b', o', e, _, h0, h1, h2, h3⟩ := h.cells (j / 4) _ (List.getElem?_eq_getElem hq)
  injection e with e
  injection e with e1 e2 _
  subst e1; subst e2
  obtain ⟨g0, g1, g2, g3⟩ := emCells_get (p :: r) (j / 4) _ (List.getElem?_eq_getElem hq)
  rw [Addr.add_lit]
  rcases (show j % 4 = 0 ∨ j % 4 = 1 ∨ j % 4 = 2 ∨ j % 4 = 3 by omega) with hm | hm | hm | hm
  · rw [show j = j / 4 * 4 by omega] at hu
    rw [g0] at hu
    rw [show o + j = o + j / 4 * 4 by omega, h0, hu]
  · rw [show j = j / 4 * 4 + 1 by omega] at hu
    rw [g1] at hu
    rw [show o + j = o + j / 4 * 4 + 1 by omega, h1, hu]
  · rw [show j = j / 4 * 4 + 2 by omega] at hu
    rw [g2] at hu
    rw [show o + j = o + j / 4 * 4 + 2 by omega, h2, hu]
  · rw [show j = j / 4 * 4 + 3 by omega] at hu
    rw [g3] at hu
    rw [show o + j = o + j / 4 * 4 + 3 by omega, h3, hu]
set_option maxRecDepth 100000 in
/-- append of what another slice holds onto a row of the call's own -/
theorem app_ents (w : World) (base : Nat) (ty : TypeId) (v : Value) (xs : List Em) (hown : w.ownsRow base 42 4 v xs.length (emCells xs)) (A : Option Addr) (c : Nat) (l : List Em)
    (hA : EL w A l) (h63 : (xs.length + l.length) * 80 ≤ 140737488355328) (hbase : base ≤ w.heap.size) :
    ∃ v' w', (Builtin.append_ #[26, 26] ty #[v, .slice A l.length c]).run Tryz.prog w = .ok v' w' ∧ w'.ownsRow base 42 4 v' (xs ++ l).length (emCells (xs ++ l)) ∧ w.grownBy w' v.ownBlock ∧
      (v'.ownBlock = v.ownBlock ∨ v'.ownBlock = some w.heap.size) := by
  obtain ⟨i0, hi, hz0, hz1, hz2⟩ := info_parts entInfo
  have hm : xs.length + l.length ≤ maxLen := by unfold maxLen; omega
  rw [List.length_append, emCells_append]
  cases A with
  | none =>
    have h0 : l = [] := by
      cases l with
      | nil => rfl
      | cons q r => obtain ⟨_, _, e, _⟩ := hA.cells 0 q rfl; cases e
    subst h0
    refine ⟨v, w, ?_, by simpa [emCells] using hown, ⟨rfl, rfl, rfl, Nat.le_refl _, fun _ _ _ => rfl⟩, .inl rfl⟩
    rcases hown.2 with ⟨rfl, h0⟩ | ⟨g, cap, cur, rfl, _, _, hnc, _⟩
    · simp [Builtin.append_, run_underlying Tryz.underlying26, sizeOf, typeInfo, hi, Builtin.lenOf, Builtin.firstCells]
    · simp [Builtin.append_, run_underlying Tryz.underlying26, sizeOf, typeInfo, hi, Builtin.lenOf, Builtin.firstCells, hnc, storeCells]
  | some ad =>
    have hc : ∀ j u, (emCells l)[j]? = some u → w.cell? (ad.add j) = some u := by
      intro j u hu
      have hl : l ≠ [] := by rintro rfl; simp [emCells] at hu
      obtain ⟨b, o, e, hcc⟩ := hA.cellsAt hl
      injection e with e
      subst e
      exact hcc j u hu
    obtain ⟨v', w', hrun, h2, h3, _, h5⟩ := run_append_own_at (P := Tryz.prog) w base 26 ty 42 i0 _ 4 80 Tryz.underlying26 hi hz0 hz1 hz2 rfl (by decide) v xs.length (emCells xs) hown ad l.length c (emCells l)
      (emCells_length l) hc (emCells_ones l) hm h63 hbase
    exact ⟨v', w', hrun, h2, h3, h5⟩
set_option maxHeartbeats 400000 in
set_option maxRecDepth 100000 in
theorem egrow_any (n : Nat) (w : World) (hn : n * 80 ≤ 140737488355328) :
    Calls Tryz.prog 155 #[.slice none 0 0, .int .i64 n] w fun e w' => ∃ v, e = .returned v ∧ w'.ownsRow w.heap.size 42 4 v 0 [] ∧ Below w.heap.size w w' := by
  have h1 : ¬ ((n : Int) < 0) := by omega
  rcases Nat.eq_zero_or_pos n with h0 | h0
  · subst h0
    go_enter Tryz.func155, Tryz.ntmps155
    go_wp2
    go_ret
    exact ⟨_, rfl, World.ownsRow_nil w _ _ _, Below.refl _ _⟩
  · obtain ⟨i0, hi, hz0, hz1, hz2⟩ := info_parts entInfo
    have hrz : ∀ ty, (Builtin.append_ #[26, 3] ty #[.slice none 0 0, .int .i64 n]).run Tryz.prog w = _ := fun ty =>
      Lib.run_append_grow_zeros w 26 3 ty 42 i0 _ .i64 .i64 Tryz.underlying26 Tryz.underlying3 hi hz0 none 0 0 [] (run_firstCells_none w.drew i0.size 0 0 0) n h0 (by omega) (by omega) (by omega) (by rw [hz2]; omega)
        (growslice_fits (by omega) (by rw [hz2]; omega))
    have hGn : 0 + n ≤ grownCap w (0 + n) 0 42 := grownCap_ge w _ _ _
    have hGm := grownCap_le_maxLen w (0 + n) 0 42 (by unfold maxLen; omega)
    generalize grownCap w (0 + n) 0 42 = G at hrz hGn hGm
    obtain ⟨cur, hcur, hcs⟩ : ∃ cur : Array Value, ((([] : List Value).toArray ++ Builtin.zeroCells (Value.agg #[.slice none 0 0, .bool false, .slice none 0 0, .slice none 0 0]).cells n ++ Builtin.zeroCells (Value.agg #[.slice none 0 0, .bool false, .slice none 0 0, .slice none 0 0]).cells (G - (0 + n)))) = cur ∧ cur.size = G * 4 := by
      refine ⟨_, rfl, ?_⟩
      simp only [Array.size_append, size_zeroCells]
      simp [Value.cells]
      omega
    rw [hcur] at hrz
    have hrz' := fun ty => hideP (hrz ty)
    clear hrz hcur
    have hb : Below w.heap.size w (w.drew.alloc (.cells cur 42)) := (Below.refl _ w).drew.alloc (Nat.le_refl _) _
    have hG : G ≤ 9223372036854775807 := by unfold maxLen at hGm; omega
    go_enter Tryz.func155, Tryz.ntmps155
    go_wp2_with (at_builtin; refine Lib.wpList_append_run _ rfl _ _ _ _ rfl _ _ rfl rfl _ _ (hrz' _).out ?_)
    go_ret
    exact ⟨_, rfl, ⟨rfl, .inr ⟨w.heap.size, G, cur, rfl, Nat.le_refl _, heap_alloc_new w.drew _, Nat.zero_le _, hGm, hcs, rfl⟩⟩, hb⟩
/-- a slice of operations: where, its capacity, what it reads as -/
structure El where
  A : Option Addr
  c : Nat
  l : List Em
def catE (ss : List El) : List Em := ss.flatMap (·.l)
theorem catE_take (ss : List El) (k : Nat) (h : k < ss.length) : catE (ss.take (k + 1)) = catE (ss.take k) ++ (ss[k]).l := by
  unfold catE; rw [List.take_succ_eq_append_getElem h, List.flatMap_append]; simp
theorem catE_le (ss : List El) (k : Nat) : (catE (ss.take k)).length ≤ (catE ss).length := by
  have : catE ss = catE (ss.take k) ++ catE (ss.drop k) := by unfold catE; rw [← List.flatMap_append, List.take_append_drop]
  rw [this, List.length_append]; omega
/-- a new row that holds a list of operations is handed back -/
def RetRowE (w : World) (l : List Em) (e : Ending) (w' : World) : Prop := ∃ v, e = .returned v ∧ w'.ownsRow w.heap.size 42 4 v l.length (emCells l) ∧ Below w.heap.size w w'
/-- the slices that a slice of slices holds -/
structure Els (w : World) (g o : Nat) (ss : List El) : Prop where
  lt : g < w.heap.size
  cell : ∀ j s, ss[j]? = some s → w.cell? ⟨g, o + j, none⟩ = some (.slice s.A s.l.length s.c)
  os : ∀ s ∈ ss, EL w s.A s.l

set_option maxHeartbeats 400000 in
set_option maxRecDepth 100000 in
theorem econcat_any (g o c : Nat) (ss : List El) (w : World) (hS : Els w g o ss) (hn : (catE ss).length * 80 ≤ 140737488355328) (hs : ss.length ≤ 1000) :
    Calls Tryz.prog 111 #[.slice (some ⟨g, o, none⟩) ss.length c] w (RetRowE w (catE ss)) := by
  go_enter Tryz.func111, Tryz.ntmps111
  go_wp2_with fail
  go_loop [3, 11] (fun z i => ∃ k : Nat, k ≤ ss.length ∧ i = .int .i64 k ∧ z = .int .i64 ((catE (ss.take k)).length : Nat)) (fun _ i => ss.length - (intOf i).toNat)
  case atStart => exact ⟨0, Nat.zero_le _, rfl, rfl⟩
  case round =>
    obtain ⟨k, hk, rfl, rfl⟩ := hrel
    by_cases hlt : k < ss.length
    · have c1 := hS.cell k _ (List.getElem?_eq_getElem hlt)
      have h1 := catE_le ss (k + 1)
      have h2 := hideP (show (catE (ss.take (k + 1))).length = (catE (ss.take k)).length + (ss[k]).l.length by rw [catE_take ss k hlt, List.length_append])
      rw [catE_take ss k hlt, List.length_append] at h1
      generalize ss[k] = s at c1 h1 h2
      generalize (catE (ss.take k)).length = z at h1 h2 ⊢
      go_wp2_with fail
      go_round
      case rel => exact ⟨k + 1, by omega, by go_num, by rw [h2.out]; go_num⟩
      case measure => simp [intOf]; omega
    · have hz : (catE (ss.take k)).length = (catE ss).length := by rw [List.take_of_length_le (by omega)]
      rw [hz]
      clear hz
      go_wp2_with fail
      refine (egrow_any _ _ hn).mono ?_
      rintro e w0 ⟨v0, rfl, hown0, hb0⟩
      go_wp2_with fail
      go_loopw [6, 27] (fun v i wr => ∃ k : Nat, k ≤ ss.length ∧ i = .int .i64 k ∧ wr.ownsRow w.heap.size 42 4 v (catE (ss.take k)).length (emCells (catE (ss.take k))) ∧ Below w.heap.size w wr) (fun _ i _ => ss.length - (intOf i).toNat)
      case atStart => exact ⟨0, Nat.zero_le _, rfl, hown0, hb0⟩
      case round =>
        obtain ⟨k, hk, rfl, hown, hb⟩ := hrel
        by_cases hlt : k < ss.length
        · have c1 := (hb.cell (p := ⟨g, o + k, none⟩) hS.lt).trans (hS.cell k _ (List.getElem?_eq_getElem hlt))
          have hps := (hS.os _ (List.getElem_mem hlt)).below hb
          have hle := catE_le ss (k + 1)
          rw [catE_take ss k hlt, List.length_append] at hle
          obtain ⟨v', w1, hrun, hown', hg', _⟩ := app_ents wr w.heap.size 26 _ _ hown _ (ss[k]).c _ hps (by omega) hb.size
          have HR := hideP hrun
          have HO := hideP hown'
          have HK := hideP (catE_take ss k hlt)
          have hb1 : Below w.heap.size w w1 := hb.grown hg' hb.size (fun j hj => (hown.lt j hj).1)
          clear hrun hown' hown hps hS
          generalize ss[k] = s at c1 HR HO HK hle
          go_wp2_with (at_builtin; refine Lib.wpList_append_run _ rfl _ _ _ _ rfl _ _ rfl rfl _ _ HR.out ?_)
          go_roundw
          case rel => exact ⟨k + 1, by omega, by go_num, by rw [HK.out]; exact HO.out, hb1⟩
          case measure => simp [intOf]; omega
        · rw [List.take_of_length_le (by omega)] at hown
          go_wp2_with fail
          go_ret
          exact ⟨_, rfl, hown, hb⟩
theorem EWr.of_box {w : World} {g B : Nat} (h : Box w g 42 #[]) (hB : B ≤ g) : w.ownsRow B 42 4 (.slice (some ⟨g, 0, none⟩) 0 0) 0 (emCells []) :=
  ⟨rfl, .inr ⟨g, 0, #[], rfl, hB, h, Nat.le_refl _, by simp [maxLen], by simp, rfl⟩⟩
theorem erow_parts {w : World} {B : Nat} {v : Value} {l : List Em} (h : w.ownsRow B 42 4 v l.length (emCells l)) : ∃ A c, v = .slice A l.length c := by
  rcases h.2 with ⟨rfl, h0⟩ | ⟨g, cap, cur, rfl, h2⟩
  · exact ⟨none, 0, by rw [h0]⟩
  · exact ⟨_, _, rfl⟩
set_option maxHeartbeats 400000 in
set_option maxRecDepth 100000 in
/-- a row of its own, with what another one holds; nil stays nil -/
theorem eclone_any (A : Option Addr) (c : Nat) (l : List Em) (w : World) (hA : EL w A l) (hn : A = none → c = 0) (hl : l.length ≤ 1000000) :
    Calls Tryz.prog 112 #[.slice A l.length c] w fun e w' => ∃ A' c', e = .returned (.slice A' l.length c') ∧ w'.ownsRow w.heap.size 42 4 (.slice A' l.length c') l.length (emCells l) ∧ Below w.heap.size w w' := by
  have q22 : ∀ (w : World) (a : Option Addr) (n c n' c' : Nat), (binOp .eql 26 (.slice a n c) (.slice none n' c')).run Tryz.prog w = .ok (.bool a.isNone) w := fun w a n c n' c' => Lib.run_eql_slice_nil w _ _ a n c n' c' Tryz.underlying26
  cases A with
  | none =>
    have h0 : l = [] := by
      cases l with
      | nil => rfl
      | cons q r => obtain ⟨_, _, e, _⟩ := hA.cells 0 q rfl; cases e
    subst h0
    obtain rfl := hn rfl
    clear hn hA
    go_enter Tryz.func112, Tryz.ntmps112
    go_wp2_with fail
    go_ret
    exact ⟨none, 0, rfl, World.ownsRow_nil w _ _ _, Below.refl _ _⟩
  | some ad =>
    have hb := (Below.refl w.heap.size w).alloc (Nat.le_refl _) (.cells #[] 42)
    have ho := EWr.of_box (B := w.heap.size) (Box.new w 42 #[]) (Nat.le_refl _)
    obtain ⟨v', w1, hrun, hown', hg', _⟩ := app_ents (w.alloc (.cells #[] 42)) w.heap.size 26 _ [] ho (some ad) c l (hA.below hb) (by simp; omega) hb.size
    have hb1 : Below w.heap.size w w1 := hb.grown hg' hb.size (fun j hj => (World.ownsRow.lt ho j hj).1)
    rw [List.nil_append] at hown'
    obtain ⟨A', c', rfl⟩ := erow_parts hown'
    have HR := hideP hrun
    clear hrun hg' ho hA hn
    go_enter Tryz.func112, Tryz.ntmps112
    go_wp2_with (at_builtin; refine Lib.wpList_append_run _ rfl _ _ _ _ rfl _ _ rfl rfl _ _ HR.out ?_)
    go_ret
    exact ⟨A', c', rfl, hown', hb1⟩
end Go.Proofs.YtefdipjhjgmokaaGreatDoor

set_option linter.unusedVariables false
set_option linter.unusedSimpArgs false
namespace Go.Proofs.YtefdipjhjgmokaaGreatDoor
open Go.RowKit

/-- while the log is gathered -/
structure RlH (w0 w : World) (ct : List (List (List Ent))) (r k : Nat) (A : Option Addr) (c : Nat) (xs : List Em) (wr : World) : Prop where
  er : ER w0 wr w.heap.size A c xs
  eq : xs.map entOf = lgP ct r k 0
  len : xs.length ≤ rM r k 0
  be : Below w.heap.size w wr
/-- what the document's Log hands back -/
def RetRl (w0 w : World) (l : List Ent) (e : Ending) (w' : World) : Prop := ∃ A c xs, e = .returned (.slice A xs.length c) ∧ xs.map entOf = l ∧ ER w0 w' w.heap.size A c xs ∧ Below w.heap.size w w'
theorem lgP_all (ct : List (List (List Ent))) (r k : Nat) (b : List (List Ent)) (l : List Ent) (hb : ct[k]? = some b) (hl : b[r]? = some l) : lgP ct r (k + 1) 0 = lgP ct r k 0 ++ l := by
  rw [← lgP_row ct r k b l hb hl]
  unfold lgP
  rw [hb]
  simp [hl]
def RlI1 (w0 w : World) (ct : List (List (List Ent))) (n : Nat) (s i : Value) (wr : World) : Prop :=
  ∃ (r : Nat) (A : Option Addr) (c : Nat) (xs : List Em), r ≤ n ∧ i = .int .i64 r ∧ s = .slice A xs.length c ∧ RlH w0 w ct r 0 A c xs wr
def RlI2 (w0 w : World) (ct : List (List (List Ent))) (r n : Nat) (s i : Value) (wr : World) : Prop :=
  ∃ (k : Nat) (A : Option Addr) (c : Nat) (xs : List Em), k ≤ n ∧ i = .int .i64 k ∧ s = .slice A xs.length c ∧ RlH w0 w ct r k A c xs wr
set_option maxHeartbeats 4000000 in
set_option maxRecDepth 100000 in
theorem rlog_any (s : Rs) (w0 : World) (B : Nat) (w : World) (h : s.Ok w0 w B) :
    Calls Tryz.prog 60 #[.pointer (some ⟨s.g, 0, none⟩)] w (RetRl w0 w (logM s.ct)) := by
  have HR := hideP (rrounds_any s w0 B w h)
  have hr60 := rnd_60 s.ct
  have hfew := h.gm.few
  have HST := hideP (lgP_start s.ct)
  have HEND := hideP (lgP_end s.ct)
  have HLC := hideP (show s.ct.length = s.ins.length by simp [Rs.ct, ctM])
  have HROW := hideP (fun (wr : World) (hb : Below w.heap.size w wr) (k r : Nat) (hk : k < s.ins.length) (hr : r < rndM s.ct) => show ∃ (gi gx : Nat) (n c : Nat) (b : Bt) (e : List (List Ent)), s.AI = some ⟨gi, 0, none⟩ ∧ wr.cell? ⟨gi, k, none⟩ = some (.slice (some ⟨gx, 0, none⟩) n c) ∧ r < n ∧ wr.cell? ⟨gx, r, none⟩ = some (.slice b.A b.es.length b.c) ∧ b.es.length ≤ 60 ∧ EL wr b.A b.es ∧ (∀ x ∈ b.es, ES w0 x) ∧ s.ct[k]? = some e ∧ e[r]? = some (b.es.map entOf) from by
    obtain ⟨x, hx⟩ : ∃ x, s.ins[k]? = some x := ⟨_, List.getElem?_eq_getElem hk⟩
    have hW := h.below hb
    obtain ⟨gi, e, hc⟩ := hW.rg.cell_ hx
    have hle := rnd_le (ctM s.ins) (b := ctI x) (List.mem_map_of_mem (List.mem_of_getElem? hx))
    have hl : (ctI x).length = x.bs.length := by simp [ctI]
    have hr' : r < rndM (ctM s.ins) := hr
    obtain ⟨b, hbk⟩ : ∃ b, x.bs[r]? = some b := ⟨_, List.getElem?_eq_getElem (by omega)⟩
    obtain ⟨gx, hxA, hcb⟩ := hW.rg.bcell hx hbk
    have hER := hW.rg.bat k x r b hx hbk
    refine ⟨gi, gx, _, _, b, ctI x, e, by rw [hxA] at hc; exact hc, (List.getElem?_eq_some_iff.1 hbk).1, hcb, ?_, hER.el hW.be, hER.es, by simp [Rs.ct, ctM, hx], by simp [ctI, hbk]⟩
    exact h.gm.es hx hbk)
  have HC0 := hideP (fun (wr : World) (hb : Below w.heap.size w wr) => (h.below hb).rg.box.cell 0 (v := .slice s.AI s.ins.length s.cI) rfl)
  generalize s.ct = ct at HR hr60 HST HEND HLC HROW ⊢
  generalize hrr : rndM ct = rr at HR hr60 HROW
  rw [hrr] at HEND
  generalize logM ct = lg at HEND ⊢
  clear h hrr
  go_enter Tryz.func60, Tryz.ntmps60
  go_wp2_with fail
  refine HR.out.mono ?_
  rintro e w' ⟨rfl, rfl⟩
  clear HR
  go_wp2_with fail
  go_loopw [3, 9] (RlI1 w0 w ct rr) (fun _ i _ => rr - (intOf i).toNat)
  case atStart => exact ⟨0, none, 0, [], Nat.zero_le _, rfl, rfl, ER.nil _ _ _, by rw [HST.out]; rfl, by simp, Below.refl _ _⟩
  case round =>
    obtain ⟨r, A, c, xs, hr, rfl, rfl, hH⟩ := hrel
    by_cases hlt : r < rr
    · have c0 := HC0.out wr hH.be
      have g1 : (r : Int) < (rr : Int) := by omega
      go_wp2_with fail
      go_loopw [3, 17] (RlI2 w0 w ct r s.ins.length) (fun _ i _ => s.ins.length - (intOf i).toNat)
      case atStart => exact ⟨0, A, c, xs, Nat.zero_le _, rfl, rfl, hH⟩
      case round =>
        clear hH c0
        obtain ⟨k, A, c, xs, hk, rfl, rfl, hH⟩ := hrel
        by_cases hlk : k < s.ins.length
        · obtain ⟨gi, gx, n, ci, b, e, hAI, p0, hrn, p1, hb60, hel, hes, hct, hcr⟩ := HROW.out wr hH.be k r hlk hlt
          have hlen := hH.len
          have hsm := rM_small (r := r) (k := k) (j := 0) (by omega) (by omega) (by omega)
          obtain ⟨v', w1, hrun, hown', hg', _⟩ := app_ents wr w.heap.size 26 _ xs hH.er.row b.A b.c b.es hel (by omega) hH.be.size
          obtain ⟨A', c', rfl⟩ := erow_parts hown'
          have hb1 : Below w.heap.size w w1 := hH.be.grown hg' hH.be.size (fun j hj => (World.ownsRow.lt hH.er.row j hj).1)
          have hH2 : RlH w0 w ct r (k + 1) A' c' (xs ++ b.es) w1 := ⟨⟨hown', fun x hx => (List.mem_append.1 hx).elim (hH.er.es x) (hes x)⟩, by rw [lgP_all ct r k e _ hct hcr, ← hH.eq, List.map_append], by
            have h1 := rM_row r k (j := b.es.length) hb60
            unfold rM at *
            rw [List.length_append]
            omega, hb1⟩
          have HRN := hideP hrun
          have g2 : (0 : Int) ≤ (k : Int) := by omega
          have g3 : (k : Int) < (s.ins.length : Int) := by omega
          have g4 : (0 : Int) ≤ (r : Int) := by omega
          have g5 : (r : Int) < (n : Int) := by omega
          rw [hAI]
          clear hrun hown' hg' hb1 hH hel hes hct hcr hAI
          generalize xs ++ b.es = ys at HRN hH2
          go_wp2_with (at_builtin; refine Lib.wpList_append_run _ rfl _ _ _ _ rfl _ _ rfl rfl _ _ HRN.out ?_)
          go_roundw
          case rel => exact ⟨k + 1, A', c', ys, by omega, by go_num, rfl, hH2⟩
          case measure => simp [intOf]; omega
        · have hke : k = ct.length := by rw [HLC.out]; omega
          have hH2 : RlH w0 w ct (r + 1) 0 A c xs wr := ⟨hH.er, by subst hke; rw [← lgP_round]; exact hH.eq, Nat.le_trans hH.len (rM_round r (by omega)), hH.be⟩
          go_wp2_with fail
          go_roundw
          case rel => exact ⟨r + 1, A, c, xs, by omega, by go_num, rfl, hH2⟩
          case measure => simp [intOf]; omega
    · obtain rfl : r = rr := by omega
      go_wp2_with fail
      go_ret
      exact ⟨A, c, xs, rfl, by rw [hH.eq, HEND.out], hH.er, hH.be⟩
end Go.Proofs.YtefdipjhjgmokaaGreatDoor
