/-
  Copies in memory: what their steps write (no body of the program in it).
  Rows of other objects are written: Copies stay (no body of the program in it).
  (*merge.Merge).Close.
-/
import Derived.Test.YtefdipjhjgmokaaGreatDoorBy11
import Derived.Test.YtefdipjhjgmokaaGreatDoorBy6
import Derived.Deep.RegionLaw
set_option linter.unusedVariables false
set_option linter.unusedSimpArgs false
namespace Go.Proofs.YtefdipjhjgmokaaGreatDoor
open Go.RowKit

theorem Fr.more {F F' : Nat → Prop} {w w' : World} (h : Fr F w w') (hF : ∀ k, F k → F' k) : Fr F' w w' := ⟨h.os, h.tape, h.output, h.size, fun k hk hn => h.block k hk fun e => hn (hF k e)⟩
/-- a block of another type is no block of a Merge -/
theorem Ms.Ok.nF {s : Ms} {w : World} {B k : Nat} {t : TypeId} (h : s.Ok w B) (ht : Ty w k t) (h0 : t ≠ 51) (h1 : t ≠ 48) (h2 : t ≠ 146) (h3 : t ≠ 144) (h4 : t ≠ 42) : ¬ s.F k := fun hF => by
  obtain ⟨u, e1, e2⟩ := h.off h0 h1 h2 h3 h4 k hF (h.lo hF).2
  exact e2 (ht.inj e1)
theorem rep_cell {w : World} {B gr n c : Nat} {rs : List Rp} {i : Nat} {r : Rp} (h : w.ownsRow B 141 2 (.slice (some ⟨gr, 0, none⟩) n c) n (rpCells rs)) (hi : rs[i]? = some r) : w.cell? ⟨gr, i * 2, none⟩ = some (.pointer (some ⟨r.g, 0, none⟩)) ∧ w.cell? ⟨gr, i * 2 + 1, none⟩ = some (.slice r.A r.bs.length r.c) := by
  have hc := h.cells (g := gr) rfl
  obtain ⟨g1, g2⟩ := rpCells_get rs i r hi
  have h1 := hc _ _ g1
  have h2 := hc _ _ g2
  rw [Addr.add_lit, Nat.zero_add] at h1 h2
  exact ⟨h1, h2⟩
section
variable {c : Cs} {w w' : World} {B : Nat}
theorem Cs.Ok.small (h : c.Ok w B) {i : Nat} {r : Rp} (hi : c.rs[i]? = some r) : r.bs.length ≤ 3600 := by
  have h1 := h.le i r hi
  have h2 := log_len c.s.ct
  have h3 := h.ms.gm.cnt
  have h4 := h.ms.gm.most
  unfold Ms.ct at h1 h2
  omega
/-- a replica's store has done something -/
theorem Cs.Ok.part {i : Nat} {r : Rp} (h : c.Ok w B) (hi : c.rs[i]? = some r) {m' : Mp} {l' : List Pr} {q' : Dv} (hp : PB w' B r.g m' l' q') (hg : w.grownBy w' (some r.g)) (hO : (blk m'.O = blk r.m.O ∧ blk m'.A = blk r.m.A) ∨ ∀ k, blk m'.O = some k ∨ blk m'.A = some k → w.heap.size ≤ k) :
    c.To w B ⟨c.s, c.AR, c.cR, c.rs.set i ⟨r.g, m', l', q', r.A, r.c, r.bs⟩⟩ w' c.s.ct (c.st.set i ⟨valOf l', m'.cs, m'.os, r.bs⟩) := by
  have hr := h.ro i r hi
  have tg := hr.pb.box.ty
  have hf : Fr (fun k => k = r.g) w w' := Fr.of_grown hg fun k e => by injection e with e; exact e.symm
  have of : ∀ {t : TypeId}, t ≠ 197 → Off (fun k => k = r.g) w t := fun hn k hk _ => ⟨_, by rw [hk]; exact tg, hn⟩
  have hrow := hf.own_ty h.row (of (by decide))
  refine h.set_ (r' := ⟨r.g, m', l', q', r.A, r.c, r.bs⟩) hi ?_ ?_ ⟨hp, hf.own_ty hr.ob (of (by decide))⟩ (fun j q hne hj => ?_) (.inl rfl) (.inl rfl) hO (h.le i r hi) (hf.more fun k hk => .inr (.inr ⟨i, r, hi, .inl hk⟩))
  · exact h.ms.fr hf (fun q hq e => h.ms.nF (show Ty w q 197 by rw [e]; exact tg) (by decide) (by decide) (by decide) (by decide) (by decide) hq) (of (by decide)) (of (by decide)) (of (by decide))
  · have e : rpCells (c.rs.set i ⟨r.g, m', l', q', r.A, r.c, r.bs⟩) = rpCells c.rs := by
      rw [rpCells_set]
      obtain ⟨g1, g2⟩ := rpCells_get c.rs i r hi
      obtain ⟨k1, e1⟩ := List.getElem?_eq_some_iff.1 g1
      obtain ⟨k2, e2⟩ := List.getElem?_eq_some_iff.1 g2
      have e3 : (rpCells c.rs).set (i * 2) (.pointer (some ⟨r.g, 0, none⟩)) = rpCells c.rs := by rw [← e1, List.set_getElem_self]
      simp only
      rw [e3, ← e2, List.set_getElem_self]
    rw [e]; exact hrow
  · have hq := h.ro j q hj
    exact hq.fr hf (fun e => hne (h.apg j i q r hj hi e)) (fun k hk e => absurd ((own_ty hq.ob (bo _ _ hk)).inj (show Ty w k 197 by rw [e]; exact tg)) (by decide)) (of (by decide)) (of (by decide)) (of (by decide))
/-- what was told is written down -/
theorem Cs.Ok.told {i : Nat} {r : Rp} (h : c.Ok w B) (hi : c.rs[i]? = some r) (b : Bool) (hle : r.bs.length + 1 ≤ (logM c.s.ct).length) (ty : TypeId) :
    ∃ A' c' w2 gr, (Builtin.append_ #[90, 90] ty #[.slice r.A r.bs.length r.c, .slice (some ⟨w.heap.size, 0, none⟩) 1 1]).run Tryz.prog (w.alloc (.cells #[.bool b] 4)) = .ok (.slice A' (r.bs ++ [b]).length c') w2 ∧ c.AR = some ⟨gr, 0, none⟩ ∧
      w2.cell? ⟨gr, i * 2 + 1, none⟩ = some (.slice r.A r.bs.length r.c) ∧ w2.frozen? ⟨gr, i * 2 + 1, none⟩ = false ∧
      c.To w B ⟨c.s, c.AR, c.cR, c.rs.set i ⟨r.g, r.m, r.l, r.q, A', c', r.bs ++ [b]⟩⟩ (w2.setCell ⟨gr, i * 2 + 1, none⟩ (.slice A' (r.bs ++ [b]).length c')) c.s.ct (c.st.set i ⟨valOf r.l, r.m.cs, r.m.os, r.bs ++ [b]⟩) := by
  have hB := h.size
  have hr := h.ro i r hi
  have hsm := h.small hi
  obtain ⟨A', c', w2, hrun, hOR, hbel, hgr, h5⟩ := app_row (P := Tryz.prog) Tryz.underlying90 boolInfo rfl w B ty r.A r.c _ hr.ob [.bool b] (by simp [Value.oneCell']) (by simp; omega) (by decide) hB
  rw [show r.bs.map Value.bool ++ [.bool b] = (r.bs ++ [b]).map Value.bool by simp] at hrun hOR h5
  rw [List.length_map, List.length_map] at hrun
  rw [ownBlock_slice] at hgr
  rw [ownBlock_slice, ownBlock_slice] at h5
  obtain ⟨gr, hAR, hgl, q0, q1⟩ := h.at_ hi
  have hal := (Below.refl w.heap.size w).alloc (Nat.le_refl _) (.cells #[.bool b] 4)
  have f2 : Fr (fun k => blk r.A = some k) w w2 := (Fr.of_below hal).comp (Fr.of_grown hgr fun k hk => hk)
  have tb : ∀ k, blk r.A = some k → Ty w k 4 := fun k hk => own_ty hr.ob (bo _ _ hk)
  have of2 : ∀ {t : TypeId}, t ≠ 4 → Off (fun k => blk r.A = some k) w t := fun hn k hk _ => ⟨_, tb k hk, hn⟩
  have row2 := f2.own_ty h.row (of2 (by decide))
  have row2' := row2
  rw [hAR] at row2'
  have tr : Ty w2 gr 141 := own_ty row2' rfl
  have f3 : Fr (fun k => k = gr) w2 (w2.setCell ⟨gr, i * 2 + 1, none⟩ (.slice A' (r.bs ++ [b]).length c')) := Fr.of_set gr _ _ rfl
  have of3 : ∀ {t : TypeId}, t ≠ 141 → Off (fun k => k = gr) w2 t := fun hn k hk _ => ⟨_, by rw [hk]; exact tr, hn⟩
  have hms2 := h.ms.fr f2 (fun q hq e => h.ms.nF (tb q e) (by decide) (by decide) (by decide) (by decide) (by decide) hq) (of2 (by decide)) (of2 (by decide)) (of2 (by decide))
  have il := (List.getElem?_eq_some_iff.1 hi).1
  refine ⟨A', c', w2, gr, hrun, hAR, (rep_cell row2' hi).2, own_frozen row2' _, h.set_ (r' := ⟨r.g, r.m, r.l, r.q, A', c', r.bs ++ [b]⟩) hi ?_ ?_ ⟨?_, ?_⟩ (fun j q hne hj => ?_) (.inl rfl) ?_ (.inl ⟨rfl, rfl⟩) (by simpa using hle) ?_⟩
  · exact hms2.fr f3 (fun q hq e => hms2.nF (show Ty w2 q 141 by rw [e]; exact tr) (by decide) (by decide) (by decide) (by decide) (by decide) hq) (of3 (by decide)) (of3 (by decide)) (of3 (by decide))
  · rw [rpCells_set, hAR]
    have e3 : (rpCells c.rs).set (i * 2) (.pointer (some ⟨r.g, 0, none⟩)) = rpCells c.rs := by
      obtain ⟨k1, e1⟩ := List.getElem?_eq_some_iff.1 (rpCells_get c.rs i r hi).1
      rw [← e1, List.set_getElem_self]
    simp only
    rw [e3]
    exact own_set row2' _ (by rw [rpCells_length]; omega) _
  · have p2 := hr.pb.fr f2 (fun e => absurd ((tb _ e).inj hr.pb.box.ty) (by decide)) (of2 (by decide)) (of2 (by decide)) (of2 (by decide))
    exact p2.fr f3 (fun e => absurd ((show Ty w2 r.g 141 by rw [e]; exact tr).inj p2.box.ty) (by decide)) (of3 (by decide)) (of3 (by decide)) (of3 (by decide))
  · exact f3.own_ty hOR (of3 (by decide))
  · have hq := h.ro j q hj
    have q2 := hq.fr f2 (fun e => absurd ((tb _ e).inj hq.pb.box.ty) (by decide)) (fun k hk e => hne (h.apb j i q r hj hi (by rw [hk]; simp) (hk.trans e.symm))) (of2 (by decide)) (of2 (by decide)) (of2 (by decide))
    exact q2.fr f3 (fun e => absurd ((show Ty w2 q.g 141 by rw [e]; exact tr).inj q2.pb.box.ty) (by decide)) (fun k hk e => absurd ((own_ty q2.ob (bo _ _ hk)).inj (show Ty w2 k 141 by rw [e]; exact tr)) (by decide)) (of3 (by decide)) (of3 (by decide)) (of3 (by decide))
  · rcases h5 with e | e
    · exact .inl e
    · exact .inr fun k hk => by simp only at hk; rw [e] at hk; injection hk with hk; omega
  · exact (f2.more fun k hk => .inr (.inr ⟨i, r, hi, .inr hk⟩)).comp (f3.more fun k hk => .inr (.inl (by rw [hAR, hk]; rfl)))
/-- a replica is replaced by another one, in new blocks -/
theorem Cs.Ok.took {i : Nat} {r r' : Rp} {w1 : World} (h : c.Ok w B) (hi : c.rs[i]? = some r) (hb : Below w.heap.size w w1) (hr' : RO w1 w.heap.size r') (hle : r'.bs.length ≤ (logM c.s.ct).length) :
    ∃ gr, c.AR = some ⟨gr, 0, none⟩ ∧ w1.frozen? ⟨gr, i * 2, none⟩ = false ∧ (w1.setCell ⟨gr, i * 2, none⟩ (.pointer (some ⟨r'.g, 0, none⟩))).frozen? ⟨gr, i * 2 + 1, none⟩ = false ∧
      w1.cell? ⟨gr, i * 2, none⟩ = some (.pointer (some ⟨r.g, 0, none⟩)) ∧ (w1.setCell ⟨gr, i * 2, none⟩ (.pointer (some ⟨r'.g, 0, none⟩))).cell? ⟨gr, i * 2 + 1, none⟩ = some (.slice r.A r.bs.length r.c) ∧
      c.To w B ⟨c.s, c.AR, c.cR, c.rs.set i r'⟩ ((w1.setCell ⟨gr, i * 2, none⟩ (.pointer (some ⟨r'.g, 0, none⟩))).setCell ⟨gr, i * 2 + 1, none⟩ (.slice r'.A r'.bs.length r'.c)) c.s.ct (c.st.set i r'.st) := by
  obtain ⟨gr, hAR, hgl, q0, q1⟩ := h.at_ hi
  have h1 := h.below hb
  have row1 := h1.row
  rw [hAR] at row1
  have il := (List.getElem?_eq_some_iff.1 hi).1
  have row2 := own_set row1 (i * 2) (by rw [rpCells_length]; omega) (.pointer (some ⟨r'.g, 0, none⟩))
  have row3 := own_set row2 (i * 2 + 1) (by rw [List.length_set, rpCells_length]; omega) (.slice r'.A r'.bs.length r'.c)
  have tr : Ty w1 gr 141 := own_ty row1 rfl
  have c2 : (w1.setCell ⟨gr, i * 2, none⟩ (.pointer (some ⟨r'.g, 0, none⟩))).cell? ⟨gr, i * 2 + 1, none⟩ = some (.slice r.A r.bs.length r.c) := by
    have hc := row2.cells (g := gr) rfl (i * 2 + 1) (.slice r.A r.bs.length r.c) (by rw [List.getElem?_set, if_neg (by omega)]; exact (rpCells_get c.rs i r hi).2)
    rw [Addr.add_lit, Nat.zero_add] at hc
    exact hc
  have f3 : Fr (fun k => k = gr) w1 ((w1.setCell ⟨gr, i * 2, none⟩ (.pointer (some ⟨r'.g, 0, none⟩))).setCell ⟨gr, i * 2 + 1, none⟩ (.slice r'.A r'.bs.length r'.c)) := Fr.comp (F := fun k => k = gr) (Fr.of_set gr _ _ rfl) (Fr.of_set gr _ _ rfl)
  have of3 : ∀ {t : TypeId}, t ≠ 141 → Off (fun k => k = gr) w1 t := fun hn k hk _ => ⟨_, by rw [hk]; exact tr, hn⟩
  have rof : ∀ {q : Rp} {B0 : Nat}, RO w1 B0 q → RO ((w1.setCell ⟨gr, i * 2, none⟩ (.pointer (some ⟨r'.g, 0, none⟩))).setCell ⟨gr, i * 2 + 1, none⟩ (.slice r'.A r'.bs.length r'.c)) B0 q := fun hq =>
    hq.fr f3 (fun e => absurd ((show Ty w1 _ 141 by rw [e]; exact tr).inj hq.pb.box.ty) (by decide)) (fun k hk e => absurd ((own_ty hq.ob (bo _ _ hk)).inj (show Ty w1 k 141 by rw [e]; exact tr)) (by decide)) (of3 (by decide)) (of3 (by decide)) (of3 (by decide))
  refine ⟨gr, hAR, own_frozen row1 _, own_frozen row2 _, (rep_cell row1 hi).1, c2, h.set_ hi ?_ ?_ ((rof hr').mono h.size) (fun j q hne hj => rof (h1.ro j q hj)) (.inr hr'.pb.low) (.inr fun k hk => (World.ownsRow.lt hr'.ob k (bo _ _ hk)).1) (.inr fun k hk => hk.elim (fun e => (World.ownsRow.lt hr'.pb.mo.own k (bo _ _ e)).1) fun e => (World.ownsRow.lt hr'.pb.mo.cuts k (bo _ _ e)).1) hle ?_⟩
  · exact h1.ms.fr f3 (fun q hq e => h1.ms.nF (show Ty w1 q 141 by rw [e]; exact tr) (by decide) (by decide) (by decide) (by decide) (by decide) hq) (of3 (by decide)) (of3 (by decide)) (of3 (by decide))
  · rw [rpCells_set, hAR]; exact row3
  · exact (Fr.of_below hb).comp (f3.more fun k hk => .inr (.inl (by rw [hAR, hk]; rfl)))
/-- one replica more -/
theorem Cs.Ok.grow (h : c.Ok w B) (r' : Rp) (hr' : RO w B r') (hbs : r'.bs = []) (hfew : c.rs.length < 4) (hng : ∀ (j : Nat) (q : Rp), c.rs[j]? = some q → r'.g ≠ q.g) (hA : blk r'.A = none) (ty : TypeId) :
    ∃ A' c' w2, (Builtin.append_ #[49, 49] ty #[.slice c.AR c.rs.length c.cR, .slice (some ⟨w.heap.size, 0, none⟩) 1 1]).run Tryz.prog (w.alloc (.cells #[.pointer (some ⟨r'.g, 0, none⟩), .slice r'.A r'.bs.length r'.c] 141)) = .ok (.slice A' (c.rs ++ [r']).length c') w2 ∧
      w2.cell? ⟨c.s.g, 2, none⟩ = some (.slice c.AR c.rs.length c.cR) ∧ w2.frozen? ⟨c.s.g, 2, none⟩ = false ∧
      (⟨⟨c.s.g, cTx A' (c.rs ++ [r']).length c', c.s.AI, c.s.cI, c.s.ins, c.s.added⟩, A', c', c.rs ++ [r']⟩ : Cs).Ok (w2.setCell ⟨c.s.g, 2, none⟩ (.slice A' (c.rs ++ [r']).length c')) B ∧
      Fr c.F w (w2.setCell ⟨c.s.g, 2, none⟩ (.slice A' (c.rs ++ [r']).length c')) := by
  obtain ⟨i0, hi, hz0, hz1, hz2⟩ := info_parts repInfo
  have hB := h.size
  have hc : ∀ j u, (rpCells [r'])[j]? = some u → (w.alloc (.cells (rpCells [r']).toArray 141)).cell? ((⟨w.heap.size, 0, none⟩ : Addr).add j) = some u := by
    intro j u hu
    rw [Addr.add_lit]
    simp only [World.cell?]
    rw [heap_alloc_new]
    simp [hu]
  have hal := (Below.refl w.heap.size w).alloc (Nat.le_refl _) (.cells (rpCells [r']).toArray 141)
  have hrow' : (w.alloc (.cells (rpCells [r']).toArray 141)).ownsRow B 141 2 (.slice c.AR c.rs.length c.cR) c.rs.length (rpCells c.rs) := World.ownsRow.alloc h.row _
  obtain ⟨v', w2, hrun, h2, h3, _, h5⟩ := run_append_own_at (P := Tryz.prog) (w.alloc (.cells (rpCells [r']).toArray 141)) B 49 ty 141 i0 _ 2 32 Tryz.underlying49 hi hz0 hz1 hz2 rfl (by decide) _ c.rs.length (rpCells c.rs) hrow' ⟨w.heap.size, 0, none⟩ 1 1 (rpCells [r']) (by simp [rpCells]) hc
    (by intro u hu; simp [rpCells] at hu; rcases hu with rfl | rfl <;> rfl) (by unfold maxLen; omega) (by omega) (by simp; omega)
  rw [← rpCells_append, show c.rs.length + 1 = (c.rs ++ [r']).length by simp] at h2
  obtain ⟨A', c', rfl⟩ : ∃ A' c', v' = .slice A' (c.rs ++ [r']).length c' := by
    rcases h2.2 with ⟨rfl, h0⟩ | ⟨g, cap, cur, rfl, _⟩
    · exact ⟨none, 0, by rw [h0]⟩
    · exact ⟨_, _, rfl⟩
  rw [ownBlock_slice] at h3
  rw [ownBlock_slice, ownBlock_slice] at h5
  have f2 : Fr (fun k => blk c.AR = some k) w w2 := (Fr.of_below hal).comp (Fr.of_grown h3 fun k hk => hk)
  have tb : ∀ k, blk c.AR = some k → Ty w k 141 := fun k hk => own_ty h.row (bo _ _ hk)
  have of2 : ∀ {t : TypeId}, t ≠ 141 → Off (fun k => blk c.AR = some k) w t := fun hn k hk _ => ⟨_, tb k hk, hn⟩
  have hms2 := h.ms.fr f2 (fun q hq e => h.ms.nF (tb q e) (by decide) (by decide) (by decide) (by decide) (by decide) hq) (of2 (by decide)) (of2 (by decide)) (of2 (by decide))
  have bx2 := hms2.mg.box
  have tg : Ty w2 c.s.g 51 := by have := bx2.ty; rw [h.x] at this; exact this
  have f3 : Fr (fun k => k = c.s.g) w2 (w2.setCell ⟨c.s.g, 2, none⟩ (.slice A' (c.rs ++ [r']).length c')) := Fr.of_set _ _ _ rfl
  have of3 : ∀ {t : TypeId}, t ≠ 51 → Off (fun k => k = c.s.g) w2 t := fun hn k hk _ => ⟨_, by rw [hk]; exact tg, hn⟩
  have hm3 : ∀ {t : TypeId} {s : Nat} {v : Value} {n : Nat} {xs : List Value}, w2.ownsRow B t s v n xs → t ≠ 51 → (w2.setCell ⟨c.s.g, 2, none⟩ (.slice A' (c.rs ++ [r']).length c')).ownsRow B t s v n xs := fun ho hn => f3.own_ty ho (of3 hn)
  have hmg := hms2.mg
  have rof : ∀ {q : Rp}, RO w B q → (∀ k, blk q.A = some k → ¬ blk c.AR = some k) → RO (w2.setCell ⟨c.s.g, 2, none⟩ (.slice A' (c.rs ++ [r']).length c')) B q := fun {q} hq _ => by
    have q2 := hq.fr f2 (fun e => absurd ((tb _ e).inj hq.pb.box.ty) (by decide)) (fun k hk e => absurd ((own_ty hq.ob (bo _ _ hk)).inj (tb k e)) (by decide)) (of2 (by decide)) (of2 (by decide)) (of2 (by decide))
    exact q2.fr f3 (fun e => absurd ((show Ty w2 q.g 51 by rw [e]; exact tg).inj q2.pb.box.ty) (by decide)) (fun k hk e => absurd ((own_ty q2.ob (bo _ _ hk)).inj (show Ty w2 k 51 by rw [e]; exact tg)) (by decide)) (of3 (by decide)) (of3 (by decide)) (of3 (by decide))
  have hall : ∀ (j : Nat) (z : Rp), (c.rs ++ [r'])[j]? = some z → (c.rs[j]? = some z) ∨ (j = c.rs.length ∧ z = r') := by
    intro j z hz
    rcases Nat.lt_or_ge j c.rs.length with hl | hl
    · rw [List.getElem?_append_left hl] at hz; exact .inl hz
    · rw [List.getElem?_append_right hl] at hz
      have h0 := (List.getElem?_eq_some_iff.1 hz).1
      simp at h0
      have hj : j = c.rs.length := by omega
      subst hj
      simp at hz
      exact .inr ⟨rfl, hz.symm⟩
  refine ⟨A', c', w2, hrun, bx2.cell 2 (by rw [h.x]; rfl), bx2.frozen 2, ⟨⟨⟨?_, hmg.low, hm3 hmg.row (by decide), fun i x hx => hm3 (hmg.inp i x hx) (by decide), hmg.ne, fun i x k b hx hk => ?_, hmg.apI, hmg.apB, hmg.good⟩, h.ms.gm⟩, rfl, hm3 h2 (by decide), fun j z hz => ?_, fun j k z y hz hy e => ?_, fun j k z y hz hy hn e => ?_, by simp; omega, fun j z hz => ?_⟩, ?_⟩
  · have b3 := bx2.set 2 (.slice A' (c.rs ++ [r']).length c')
    rw [h.x] at b3
    exact b3
  · have hew := hmg.bat i x k b hx hk
    exact ⟨hm3 hew.row (by decide), fun y hy => ⟨hm3 (hew.eo y hy).ops (by decide), ⟨hm3 (hew.eo y hy).map.cuts (by decide), hm3 (hew.eo y hy).map.own (by decide)⟩⟩, hew.bd⟩
  · rcases hall j z hz with hz | ⟨_, rfl⟩
    · exact rof (h.ro j z hz) fun k hk e => absurd ((own_ty (h.ro j z hz).ob (bo _ _ hk)).inj (tb k e)) (by decide)
    · exact rof hr' fun k hk => by rw [hA] at hk; cases hk
  · rcases hall j z hz with hz1 | ⟨e1, e2⟩
    · rcases hall k y hy with hy1 | ⟨e3, e4⟩
      · exact h.apg j k z y hz1 hy1 e
      · rw [e4] at e; exact absurd e.symm (hng j z hz1)
    · rcases hall k y hy with hy1 | ⟨e3, e4⟩
      · rw [e2] at e; exact absurd e (hng k y hy1)
      · rw [e1, e3]
  · rcases hall j z hz with hz1 | ⟨e1, e2⟩
    · rcases hall k y hy with hy1 | ⟨e3, e4⟩
      · exact h.apb j k z y hz1 hy1 hn e
      · rw [e4, hA] at e; exact absurd e hn
    · rw [e2] at hn; exact absurd hA hn
  · rcases hall j z hz with hz | ⟨_, rfl⟩
    · exact h.le j z hz
    · rw [hbs]; exact Nat.zero_le _
  · exact (f2.more fun k hk => .inr (.inl hk)).comp (f3.more fun k hk => .inl (by rw [hk]; exact .inl rfl))
end
/-- a Merge is embedded into Copies -/
theorem Ms.Ok.embed {s : Ms} {w : World} {B : Nat} (h : s.Ok w B) :
    (⟨⟨w.heap.size, cTx none 0 0, s.AI, s.cI, s.ins, s.added⟩, none, 0, []⟩ : Cs).Ok (w.alloc (.cells #[.slice s.AI s.ins.length s.cI, .int .i64 (s.added : Int), .slice none 0 0] 51)) B := by
  have hb := (Below.refl w.heap.size w).alloc (Nat.le_refl _) (.cells #[.slice s.AI s.ins.length s.cI, .int .i64 (s.added : Int), .slice none 0 0] 51)
  have h1 := (h.below hb).mg
  refine ⟨⟨⟨Box.new _ _ _, h.size, h1.row, h1.inp, h1.ne, h1.bat, h1.apI, h1.apB, h1.good⟩, h.gm⟩, rfl, World.ownsRow_nil _ _ _ _, by simp, by simp, by simp, by simp, by simp⟩
end Go.Proofs.YtefdipjhjgmokaaGreatDoor

set_option linter.unusedVariables false
set_option linter.unusedSimpArgs false
namespace Go.Proofs.YtefdipjhjgmokaaGreatDoor
open Go.RowKit

/-- blocks change that are none of a Merge's -/
theorem Ms.Ok.fr_ {s : Ms} {w w' : World} {B : Nat} {F : Nat → Prop} (h : s.Ok w B) (hf : Fr F w w') (hd : ∀ q, s.F q → ¬ F q) (hO : ∀ q, s.O q → ¬ F q) : s.Ok w' B := by
  have m := h.mg
  exact ⟨⟨hf.box m.box (hd _ (.inl rfl)), m.low, hf.own m.row fun k hk => hd k (.inr (.inl (ob hk))), fun i x hx => hf.own (m.inp i x hx) fun k hk => hd k (.inr (.inr ⟨i, x, hx, .inl (ob hk)⟩)), m.ne,
      fun i x k b hx hk => ⟨hf.own (m.bat i x k b hx hk).row fun q hq => hd q (.inr (.inr ⟨i, x, hx, .inr ⟨k, b, hk, ob hq⟩⟩)), fun e he => ⟨hf.own ((m.bat i x k b hx hk).eo e he).ops fun q hq => hO q ⟨i, k, x, b, e, hx, hk, he, .inr (.inr (ob hq))⟩,
        ⟨hf.own ((m.bat i x k b hx hk).eo e he).map.cuts fun q hq => hO q ⟨i, k, x, b, e, hx, hk, he, .inr (.inl (ob hq))⟩, hf.own ((m.bat i x k b hx hk).eo e he).map.own fun q hq => hO q ⟨i, k, x, b, e, hx, hk, he, .inl (ob hq)⟩⟩⟩, (m.bat i x k b hx hk).bd⟩, m.apI, m.apB, m.good⟩, h.gm⟩
theorem Ms.Ok.O_ty {s : Ms} {w : World} {B k : Nat} (h : s.Ok w B) (hk : s.O k) : (Ty w k 3 ∨ Ty w k 9 ∨ Ty w k 71) ∧ k < w.heap.size := by
  obtain ⟨i, j, x, b, e, hx, hb, he, hk⟩ := hk
  have ho := (h.mg.bat i x j b hx hb).eo e he
  rcases hk with hk | hk | hk
  · exact ⟨.inl (own_ty ho.map.own (bo _ _ hk)), (World.ownsRow.lt ho.map.own k (bo _ _ hk)).2⟩
  · exact ⟨.inr (.inl (own_ty ho.map.cuts (bo _ _ hk))), (World.ownsRow.lt ho.map.cuts k (bo _ _ hk)).2⟩
  · exact ⟨.inr (.inr (own_ty ho.ops (bo _ _ hk))), (World.ownsRow.lt ho.ops k (bo _ _ hk)).2⟩
section
variable {c : Cs} {w w' : World} {B : Nat}
/-- blocks change that are none of theirs -/
theorem Cs.Ok.fr_ {F : Nat → Prop} (h : c.Ok w B) (hf : Fr F w w') (hd : ∀ q, c.F q → ¬ F q) (hO : ∀ q, c.O q → ¬ F q) (o3 : Off F w 63) : c.Ok w' B := by
  refine ⟨h.ms.fr_ hf (fun q hq => hd q (.inl hq)) (fun q hq => hO q (.inl hq)), h.x, hf.own h.row fun k hk => hd k (.inr (.inl (ob hk))), fun i r hi => ?_, h.apg, h.apb, h.few, h.le⟩
  have hr := h.ro i r hi
  exact ⟨⟨hf.box hr.pb.box (hd _ (.inr (.inr ⟨i, r, hi, .inl rfl⟩))), ⟨hf.own hr.pb.mo.cuts fun q hq => hO q (.inr ⟨i, r, hi, .inr (ob hq)⟩), hf.own hr.pb.mo.own fun q hq => hO q (.inr ⟨i, r, hi, .inl (ob hq)⟩)⟩, fun j hj => hf.own_ty (hr.pb.own j hj) o3, hr.pb.okm, hr.pb.ok, hr.pb.low⟩, hf.own hr.ob fun k hk => hd k (.inr (.inr ⟨i, r, hi, .inr (ob hk)⟩))⟩
theorem Cs.Ok.O_ty (h : c.Ok w B) {k : Nat} (hk : c.O k) : (Ty w k 3 ∨ Ty w k 9 ∨ Ty w k 71) ∧ k < w.heap.size := by
  rcases hk with hk | ⟨i, r, hi, hk | hk⟩
  · exact h.ms.O_ty hk
  · exact ⟨.inl (own_ty (h.ro i r hi).pb.mo.own (bo _ _ hk)), (World.ownsRow.lt (h.ro i r hi).pb.mo.own k (bo _ _ hk)).2⟩
  · exact ⟨.inr (.inl (own_ty (h.ro i r hi).pb.mo.cuts (bo _ _ hk))), (World.ownsRow.lt (h.ro i r hi).pb.mo.cuts k (bo _ _ hk)).2⟩
/-- all of them lie below the end of the heap -/
theorem Cs.Ok.O_lt (h : c.Ok w B) {k : Nat} (hk : c.O k) : k < w.heap.size := (h.O_ty hk).2
end
end Go.Proofs.YtefdipjhjgmokaaGreatDoor

set_option linter.unusedVariables false
set_option linter.unusedSimpArgs false
namespace Go.Proofs.YtefdipjhjgmokaaGreatDoor
open Go.RowKit

theorem step_append_runM {P : Program} (w : World) {ops : Array Oper} {o : Oper} {a : Act} {K : Act → World → Prop} {Q : Exit → Act → World → Prop} {E : Prop} (hgd : o.guard = none) (s x : Operand) (t tn : TypeId)
    (ho : o.op = .call { callee := .builtin .append, args := #[s, x], argTypes := #[t, tn] }) (vs vx : Value) (hs : a.eval s = vs) (hx : a.eval x = vx)
    (v' : Value) (w' : World) (hr : (Builtin.append_ #[t, tn] o.type #[vs, vx]).run P w = .ok v' w') (h : K (a.put o.dst v') w') :
    if Region.wanted o (yielded ops a.tmps) = true then Oper.wp P o a w K Q else E := by
  have hw : Region.wanted o (yielded ops a.tmps) = true := by simp [Region.wanted, hgd]
  rw [if_pos hw]
  exact Lib.wp_append_run w s x t tn ho vs vx hs hx v' w' hr h
theorem Gm.close {ins : List In} {added i : Nat} {x : In} (h : Gm ins added) (hi : ins[i]? = some x) (hl : x.bs.length ≤ 60) (A : Option Addr) (c : Nat) : Gm (ins.set i ⟨A, c, x.bs ++ [bt0]⟩) added :=
  ⟨fun e => h.ne (by have := congrArg List.length e; simp at this; exact this), by simpa using h.few, fun j z hz => by
    rw [List.getElem?_set] at hz
    by_cases e : i = j
    · subst e
      rw [if_pos rfl, if_pos (List.getElem?_eq_some_iff.1 hi).1] at hz
      injection hz with hz
      subst hz
      simp; omega
    · rw [if_neg e] at hz; exact h.bs j z hz, by rw [ct_close hi, tot_close (b := ctI x) (by simp [ctM, hi])]; exact h.cnt, h.most⟩
set_option maxHeartbeats 2000000 in
set_option maxRecDepth 100000 in
theorem mclose_any (s : Ms) (B : Nat) (i : Int) (w : World) (h : s.Ok w B) :
    Calls Tryz.prog 15 #[.pointer (some ⟨s.g, 0, none⟩), .int .i64 i] w fun e w' => ∃ s', e = .returned (.tuple #[.int .i64 (closeN s.ct i), .int .i64 (closeQ s.ct i)]) ∧ s.To w B s' w' (closeC s.ct i) := by
  have HH := hideP (has_any B s.g s.x s.AI s.cI s.ins s.added i w h.mg)
  have hlen : s.ct.length = s.ins.length := by simp [Ms.ct, ctM]
  by_cases hin : 0 ≤ i ∧ i < (s.ins.length : Int)
  · rw [decide_eq_true hin] at HH
    obtain ⟨n, rfl⟩ : ∃ n : Nat, i = n := ⟨i.toNat, by omega⟩
    have hn : n < s.ins.length := by omega
    obtain ⟨x, hx⟩ : ∃ x, s.ins[n]? = some x := ⟨_, List.getElem?_eq_getElem hn⟩
    obtain ⟨k, hk⟩ := h.mg.pos hx
    have hxb := h.gm.bs n x hx
    have hcx : s.ct[n]? = some (ctI x) := by simp [Ms.ct, ctM, hx]
    have hcl : (ctI x).length = x.bs.length := by simp [ctI]
    have c0 := h.mg.c0
    obtain ⟨gi, hAI, p0⟩ := h.mg.cell_ hx
    have HC := hideP (fun W => closed_any x.A x.bs.length x.c k hk (by omega) W)
    have g1 : (0 : Int) ≤ (n : Int) := by omega
    have g2 : (n : Int) < (s.ins.length : Int) := by omega
    by_cases hfull : 60 ≤ k
    · obtain ⟨q1, q2, q3⟩ := closeQ_full (b := ctI x) hcx (by omega)
      rw [q1, q2, q3]
      have HT := hideP (Ms.To.same h (Below.refl _ _))
      have d1 : (60 : Int) ≤ (k : Int) := by omega
      rw [hAI] at c0
      clear h hin q1 q2 q3 hcx hlen hk hcl
      go_enter Tryz.func15, Tryz.ntmps15
      go_wp2_with fail
      refine HH.out.mono ?_
      rintro e w' ⟨rfl, rfl⟩
      go_wp2_with fail
      refine (HC.out _).mono ?_
      rintro e w' ⟨rfl, rfl⟩
      go_wp2_with fail
      go_ret2
      exact ⟨s, rfl, HT.out⟩
    · obtain ⟨q1, q2, q3⟩ := closeQ_ok (b := ctI x) hcx (by omega)
      rw [q1, q2, q3, hcl]
      have d1 : ¬ (60 : Int) ≤ (k : Int) := by omega
      have bd := (Below.refl w.heap.size w).drew
      obtain ⟨A', c', w2, gi', hrun, hAI', c1, fz, hMG, hFr, hF⟩ := (h.mg.below bd).close hx (h.below bd).size (by omega) 146
      rw [hAI] at hAI'
      injection hAI' with e
      injection e with e
      subst e
      have hG2 := h.gm.close hx (by omega) A' c'
      have hct : ctM (s.ins.set n ⟨A', c', x.bs ++ [bt0]⟩) = closeM s.ct n := ct_close hx A' c'
      have HT := hideP (show s.To w B ⟨s.g, s.x, s.AI, s.cI, s.ins.set n ⟨A', c', x.bs ++ [bt0]⟩, s.added⟩ (w2.setCell ⟨gi, n, none⟩ (.slice A' (x.bs ++ [bt0]).length c')) (closeM s.ct n) from
        ⟨rfl, rfl, ⟨hMG, hG2⟩, hct, (Fr.of_below bd).comp hFr, hF, fun q hq => by
          obtain ⟨i, j, z, d, e, hz, hd, he, hq⟩ := hq
          simp only at hz
          rw [List.getElem?_set] at hz
          split at hz
          · next en =>
            subst en
            injection hz with hz
            subst hz
            simp only at hd
            rcases Nat.lt_or_ge j x.bs.length with hj | hj
            · rw [List.getElem?_append_left hj] at hd
              exact .inl ⟨_, j, x, d, e, hx, hd, he, hq⟩
            · rw [List.getElem?_append_right hj] at hd
              have := List.mem_of_getElem? hd
              simp at this
              subst this
              simp [bt0] at he
          · exact .inl ⟨i, j, z, d, e, hz, hd, he, hq⟩⟩)
      have al := (Below.refl w.heap.size w).alloc (Nat.le_refl _) (.cells #[.slice none 0 0] 144)
      have c0a := (h.mg.below al).c0
      obtain ⟨_, e, p0a⟩ := (h.mg.below al).cell_ hx
      rw [hAI] at e
      injection e with e
      injection e with e
      subst e
      have c03 := hMG.c0
      have hx3 : (s.ins.set n ⟨A', c', x.bs ++ [bt0]⟩)[n]? = some ⟨A', c', x.bs ++ [bt0]⟩ := by rw [List.getElem?_set, if_pos rfl, if_pos hn]
      obtain ⟨_, e, p03⟩ := hMG.cell_ hx3
      rw [hAI] at e
      injection e with e
      injection e with e
      subst e
      have c02 : w2.cell? ⟨s.g, 0, none⟩ = some (.slice s.AI s.ins.length s.cI) := by
        have hne : s.g ≠ gi := fun e => by
          have h2 : gi < w2.heap.size := World.block_lt_of_cell? w2 _ c1
          have t1 := hMG.box.ty
          have t2 := own_ty hMG.row (b := gi) (by rw [hAI]; rfl)
          exact absurd (t1.inj (show Ty _ s.g 146 by rw [e]; exact t2)) s.x.nI
        have := c03
        rw [List.length_set] at this
        rw [← this]
        exact (World.cell?_of_block (Below.heap_setCell w2 _ _ _ (fun e => hne e))).symm
      rw [List.length_set] at c03
      have hl2 : (x.bs ++ [bt0]).length = x.bs.length + 1 := by simp
      have HC2 := hideP (fun W => closed_any A' (x.bs ++ [bt0]).length c' x.bs.length hl2 (by rw [hl2]; omega) W)
      replace hrun : (Builtin.append_ #[146, 146] 146 #[.slice x.A x.bs.length x.c, .slice (some ⟨w.heap.size, 0, none⟩) 1 1]).run Tryz.prog (w.alloc (.cells #[.slice none 0 0] 144)).drew = .ok (.slice A' (x.bs ++ [bt0]).length c') w2 := hrun
      have HR := hideP hrun
      unfold inV at c1
      rw [hAI] at c0 c0a c02 c03
      clear h hin q1 q2 q3 hcx hlen hcl hMG hFr hF hG2 hct bd al hrun hx3 hk hAI hl2
      generalize (x.bs ++ [bt0]).length = m2 at HR HC2 HT c02 c03 p03
      generalize x.bs.length = m1 at HR HC2 c1 p0 p0a HC hxb ⊢
      generalize x.A = xA at HR c1 p0 p0a HC
      generalize x.c = xc at HR c1 p0 p0a HC
      go_enter Tryz.func15, Tryz.ntmps15
      go_wp2_with fail
      refine HH.out.mono ?_
      rintro e w' ⟨rfl, rfl⟩
      go_wp2_with fail
      refine (HC.out _).mono ?_
      rintro e w' ⟨rfl, rfl⟩
      go_wp2_with fail
      go_region_law (refine step_append_runM _ rfl _ _ _ _ rfl _ _ rfl rfl _ _ HR.out ?_)
      all_goals
        go_wp2_with fail
        refine (HC2.out _).mono ?_
        rintro e w' ⟨rfl, rfl⟩
        go_wp2_with fail
        go_ret2
        exact ⟨_, rfl, HT.out⟩
  · rw [decide_eq_false hin] at HH
    obtain ⟨q1, q2, q3⟩ := closeQ_none (ct := s.ct) (i := i) (by rw [hlen]; exact hin)
    rw [q1, q2, q3]
    have HT := hideP (Ms.To.same h (Below.refl _ _))
    clear h hin q1 q2 q3 hlen
    go_enter Tryz.func15, Tryz.ntmps15
    go_wp2_with fail
    refine HH.out.mono ?_
    rintro e w' ⟨rfl, rfl⟩
    go_wp2_with fail
    go_ret2
    exact ⟨s, rfl, HT.out⟩
end Go.Proofs.YtefdipjhjgmokaaGreatDoor
