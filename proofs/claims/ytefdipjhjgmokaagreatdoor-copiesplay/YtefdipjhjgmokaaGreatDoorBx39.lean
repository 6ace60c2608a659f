/-
  rolaw.CopiesPlay: Copies beside the document's (no body of the program in it).
  rolaw.at, and what pick picks.
  rolaw.pick at entries.
  slices.Equal of operations, and roref.SameDeed.
  roref.SameEntry.
-/
import Derived.Test.YtefdipjhjgmokaaGreatDoorBx12
import Derived.Test.YtefdipjhjgmokaaGreatDoorBx17
import Derived.Test.YtefdipjhjgmokaaGreatDoorBx25
import Derived.Test.YtefdipjhjgmokaaGreatDoorBx26
import Derived.Test.YtefdipjhjgmokaaGreatDoorBx34
import Derived.Test.YtefdipjhjgmokaaGreatDoorBx37
import Derived.Test.YtefdipjhjgmokaaGreatDoorBx38
import Derived.Test.YtefdipjhjgmokaaGreatDoorBx30
import Derived.Test.YtefdipjhjgmokaaGreatDoorBx2
import Derived.Test.YtefdipjhjgmokaaGreatDoorBx31
import Derived.Test.YtefdipjhjgmokaaGreatDoorBx3
import Derived.Laws.StructEq
import Derived.WalkKit
import Derived.WalkSpells
import Derived.WalkLawsBesides
import Derived.Deep.QuietTactic
import Derived.BigQuiet
import Derived.Test.YtefdipjhjgmokaaGreatDoorBx35
set_option linter.unusedVariables false
set_option linter.unusedSimpArgs false
namespace Go.Proofs.YtefdipjhjgmokaaGreatDoor
open Go.RowKit

/-- both while they are played -/
structure CyH (w : World) (Br g gc gr : Nat) (m0 : Mp) (l0 : List Pr) (n : Nat) (c : Cs) (d : Rc) (wr : World) : Prop where
  co : c.Ok wr w.heap.size
  cg : c.s.g = g
  dok : d.Ok w wr Br
  dg : d.gc = gc
  dr : d.r.g = gr
  dm : d.m = m0
  dl : d.l = l0
  dj : ∀ q, c.F q → ¬ d.F q
  oo : ∀ q, blk d.AD = some q → ¬ c.O q
  nn : d.dn.length = n
  be : Below w.heap.size w wr
structure CyE (w : World) (Br g gc gr : Nat) (m0 : Mp) (l0 : List Pr) (n : Nat) (c : Cs) (d : Rc) (wr : World) : Prop extends CyH w Br g gc gr m0 l0 n c d wr where
  eq : c.s.ct = d.r.ct
  st : c.st = d.st
  le : d.Le
section
variable {w wr w' : World} {Br g gc gr n : Nat} {m0 : Mp} {l0 : List Pr} {c c' : Cs} {d d' : Rc} {ct' : List (List (List Ent))} {st' : List Sr} {dn' : List Nat}
theorem CyH.below (h : CyH w Br g gc gr m0 l0 n c d wr) (hb : Below wr.heap.size wr w') : CyH w Br g gc gr m0 l0 n c d w' := ⟨h.co.below hb, h.cg, h.dok.below hb, h.dg, h.dr, h.dm, h.dl, h.dj, h.oo, h.nn, h.be.trans (hb.mono h.be.size)⟩
theorem CyE.below (h : CyE w Br g gc gr m0 l0 n c d wr) (hb : Below wr.heap.size wr w') : CyE w Br g gc gr m0 l0 n c d w' := ⟨h.toCyH.below hb, h.eq, h.st, h.le⟩
theorem CyH.stepC (h : CyH w Br g gc gr m0 l0 n c d wr) (T : c.To wr w.heap.size c' w' ct' st') : CyH w Br g gc gr m0 l0 n c' d w' := by
  have hlo := h.dok.ro.lb
  refine ⟨T.ok, T.g.trans h.cg, h.dok.fr T.fr (fun q hd hc => h.dj q hc hd) (fun hF => ?_) (fun hF => ?_) (fun q hq => (h.co.lo hq).1), h.dg, h.dr, h.dm, h.dl, fun q hq hd => (T.F q hq).elim (fun e => h.dj q e hd) fun e => by have := (h.dok.lo hd).2; omega,
    fun q hq ho => (T.O q ho).elim (fun e => h.oo q hq e) fun e => by have := (h.dok.lo (.inr hq)).2; omega, h.nn, T.below_ h.co (Nat.le_refl _) h.be⟩
  · obtain ⟨u, hu, e⟩ := h.co.ty hF
    have := hu.inj h.dok.box.ty
    subst this
    rcases e with e | e | e | e | e | e | e <;> exact absurd e (by decide)
  · obtain ⟨u, hu, _⟩ := h.co.ty hF
    exact h.dok.mv.nty hu rfl
theorem CyH.stepD (h : CyH w Br g gc gr m0 l0 n c d wr) (T : d.To w wr Br d' w' ct' dn') (hn : dn'.length = n) : CyH w Br g gc gr m0 l0 n c d' w' := by
  refine ⟨h.co.fr_ T.fr (fun q hq => h.dj q hq) (fun q hq hd => ?_) (h.dok.off (by decide) (by decide) (by decide) (by decide) (by decide)) (h.dok.off (by decide) (by decide) (by decide) (by decide) (by decide)) (h.dok.off (by decide) (by decide) (by decide) (by decide) (by decide)),
    h.cg, T.ok, T.g.trans h.dg, T.rg.trans h.dr, T.m.trans h.dm, T.l.trans h.dl, fun q hq hd => (T.F q hd).elim (fun e => h.dj q hq e) fun e => by have := (h.co.lo hq).2; omega, fun q hq => h.oo q (by rw [← T.ad]; exact hq), by rw [T.dn]; exact hn, T.below_ h.dok h.dok.ro.lb h.be⟩
  rcases hd with hd | hd
  · have ht := h.co.O_ty hq
    obtain ⟨u, h1, h2⟩ := (h.dok.ro.off (t := 3) (by decide) (by decide) (by decide) (by decide)) q hd (h.dok.ro.lo hd).2
    exact h2 (ht.inj h1)
  · exact h.oo q hd hq
/-- nothing is in the log but valid entries -/
theorem CyH.fin (h : CyH w Br g gc gr m0 l0 n c d wr) (e : c.s.ct = d.r.ct) (hs : c.st = d.st) (hl : ∀ k ∈ d.dn, k ≤ (logM d.r.ct).length) : CyE w Br g gc gr m0 l0 n c d wr :=
  ⟨h, e, hs, hl, fun x hx => by rw [← e] at hx; exact h.co.ms.log_chk hx, by
    have h2 := log_len1 d.r.ct
    have h3 := h.dok.ro.gm.most
    unfold Rs.ct at h2 ⊢
    omega⟩
/-- the log grows: the replicas stay -/
theorem st_grow {d d' : Rc} {es : List Ent} (hl : ∀ k ∈ d.dn, k ≤ (logM d.r.ct).length) (hd : d'.dn = d.dn) (hm : d'.m = d.m) (hll : d'.l = d.l) (he : logM d'.r.ct = logM d.r.ct ++ es) : d'.st = d.st ∧ ∀ k ∈ d'.dn, k ≤ (logM d'.r.ct).length := by
  have e0 : d'.r0 = d.r0 := by unfold Rc.r0; rw [hm, hll]
  constructor
  · unfold Rc.st
    rw [hd]
    apply List.map_congr_left
    intro k hk
    rw [e0, he, List.take_append_of_le_length (hl k hk)]
  · rw [hd, he]
    intro k hk
    have := hl k hk
    rw [List.length_append]
    omega
/-- both add an entry -/
theorem CyE.add (h : CyE w Br g gc gr m0 l0 n c d wr) {i : Int} {x : Ent} {W1 W2 : World} {r' : Rs} (hb : Below wr.heap.size wr W1) (T : c.To W1 w.heap.size c' W2 (addC d.r.ct i x) c.st) {W3 W4 : World} (hb2 : Below W2.heap.size W2 W3)
    (T2 : d.r.To w W3 Br r' W4 (addC d.r.ct i x)) : ∃ d', CyE w Br g gc gr m0 l0 n c' d' W4 := by
  have h1 := (h.toCyH.below hb).stepC T
  have h2 := h1.below hb2
  have T3 := h2.dok.merge T2
  obtain ⟨e1, e2⟩ := st_grow (d := d) (d' := ⟨r', d.gc, d.m, d.mb, d.n, d.l, d.AD, d.cD, d.dn⟩) (es := []) h.le.le rfl rfl rfl (by rw [show (Rc.mk r' d.gc d.m d.mb d.n d.l d.AD d.cD d.dn).r.ct = addC d.r.ct i x from T2.ct, addC_log, List.append_nil])
  exact ⟨_, (h2.stepD T3 h.nn).fin (T.ct.trans T2.ct.symm) (by rw [T.st, h.st, e1]) e2⟩
/-- both close an input -/
theorem CyE.close (h : CyE w Br g gc gr m0 l0 n c d wr) {i : Int} {W2 W4 : World} {r' : Rs} (T : c.To wr w.heap.size c' W2 (closeC d.r.ct i) c.st) (T2 : d.r.To w W2 Br r' W4 (closeC d.r.ct i)) : ∃ d', CyE w Br g gc gr m0 l0 n c' d' W4 := by
  have h1 := h.toCyH.stepC T
  have T3 := h1.dok.merge T2
  obtain ⟨m, hm⟩ := closeC_log d.r.ct i
  obtain ⟨e1, e2⟩ := st_grow (d := d) (d' := ⟨r', d.gc, d.m, d.mb, d.n, d.l, d.AD, d.cD, d.dn⟩) (es := m) h.le.le rfl rfl rfl (by rw [show (Rc.mk r' d.gc d.m d.mb d.n d.l d.AD d.cD d.dn).r.ct = closeC d.r.ct i from T2.ct, hm])
  exact ⟨_, (h1.stepD T3 h.nn).fin (T.ct.trans T2.ct.symm) (by rw [T.st, h.st, e1]) e2⟩
/-- both do something with their replicas -/
theorem CyE.reps (h : CyE w Br g gc gr m0 l0 n c d wr) {st' : List Sr} {W2 W4 : World} (T : c.To wr w.heap.size c' W2 d.r.ct st') (T2 : d.To w W2 Br d' W4 d.r.ct d'.dn) (hs : d'.st = st') (hl : d'.Le) (hn : d'.dn.length = d.dn.length) : CyE w Br g gc gr m0 l0 n c' d' W4 := by
  have h1 := h.toCyH.stepC T
  exact ⟨h1.stepD T2 (hn.trans h.nn), by rw [T.ct, T2.ct], by rw [T.st, hs], hl⟩
end
end Go.Proofs.YtefdipjhjgmokaaGreatDoor

set_option linter.unusedVariables false
set_option linter.unusedSimpArgs false
namespace Go.Proofs.YtefdipjhjgmokaaGreatDoor
open Go.RowKit

theorem cell_alloc_ {w : World} {b o : Nat} {v : Value} (hb : b < w.heap.size) (hc : w.cell? ⟨b, o, none⟩ = some v) (x : Obj) : (w.alloc x).cell? ⟨b, o, none⟩ = some v := (((Below.refl w.heap.size w).alloc (Nat.le_refl _) x).cell hb).trans hc
/-- one row of a slice of slices of ints -/
structure Cl where
  A : Option Addr
  c : Nat
  zs : List Int
def clV (x : Cl) : Value := .slice x.A x.zs.length x.c
/-- a slice of slices of ints -/
structure LS (w : World) (A : Option Addr) (cs : List Cl) : Prop where
  vs : VS w A (cs.map clV)
  is_ : ∀ x ∈ cs, IS w x.A x.zs ∧ x.zs.length ≤ x.c ∧ x.c ≤ 9223372036854775807
theorem LS.below {w w' : World} {A : Option Addr} {cs : List Cl} (h : LS w A cs) (hb : Below w.heap.size w w') : LS w' A cs := ⟨h.vs.below hb, fun x hx => ⟨(h.is_ x hx).1.below hb, (h.is_ x hx).2⟩⟩

set_option maxHeartbeats 400000 in
set_option maxRecDepth 100000 in
theorem rat_any (A : Option Addr) (c : Nat) (zs : List Int) (i : Nat) (w : World) (hA : IS w A zs) (hl : zs.length ≤ 9223372036854775807) :
    Calls Tryz.prog 50 #[.slice A zs.length c, .int .i64 (i : Int)] w fun e w' => e = .returned (.int .i64 (zs.getD i 0)) ∧ w = w' := by
  by_cases h : i < zs.length
  · obtain ⟨b, o, rfl, hbl, q1⟩ := hA i _ (List.getElem?_eq_getElem h)
    have HV := hideP (show zs.getD i 0 = zs[i] by simp [List.getD_eq_getElem?_getD, h])
    generalize zs[i] = z at q1 HV
    have g1 : (i : Int) < (zs.length : Int) := by omega
    have g2 : (0 : Int) ≤ (i : Int) := by omega
    clear hA
    go_enter Tryz.func50, Tryz.ntmps50
    go_wp2_with fail
    go_ret
    exact ⟨ret_int HV.out.symm, rfl⟩
  · have HV := hideP (show zs.getD i 0 = 0 by simp [List.getD_eq_getElem?_getD, h])
    have g1 : ¬ (i : Int) < (zs.length : Int) := by omega
    clear hA
    go_enter Tryz.func50, Tryz.ntmps50
    go_wp2_with fail
    go_ret
    exact ⟨by first | exact ret_int HV.out.symm | exact ret_int rfl | rfl, rfl⟩

theorem pick_ix (k : Int) (n : Nat) (h : 1 ≤ n) (h2 : n ≤ 9223372036854775807) : ∃ j : Nat, j < n ∧ wrap64 ((IntKind.u64.wrap k).tmod (n : Int)) = (j : Int) := by
  have h0 : 0 ≤ IntKind.u64.wrap k := by simp [IntKind.wrap_u64]; omega
  have h1 := Int.tmod_lt_of_pos (IntKind.u64.wrap k) (show (0 : Int) < n by omega)
  have h3 := Int.tmod_nonneg (n : Int) h0
  refine ⟨((IntKind.u64.wrap k).tmod n).toNat, by omega, ?_⟩
  unfold wrap64
  omega
end Go.Proofs.YtefdipjhjgmokaaGreatDoor

set_option linter.unusedVariables false
set_option linter.unusedSimpArgs false
namespace Go.Proofs.YtefdipjhjgmokaaGreatDoor
open Go.RowKit

/-- an entry is handed back -/
def RetPe (w : World) (xs : List Em) (e : Ending) (w' : World) : Prop := ∃ x : Em, e = .returned (emV x) ∧ (x = em0 ∨ x ∈ xs) ∧ Below w.heap.size w w'
set_option maxHeartbeats 1000000 in
set_option maxRecDepth 100000 in
theorem pickE_none (A : Option Addr) (c : Nat) (k : Int) (n : Nat) (w : World) (h : n = 0) :
    Calls Tryz.prog 51 #[.slice A n c, .int .i64 k] w fun e w' => e = .returned (emV em0) ∧ Below w.heap.size w w' := by
  have g1 : ((n : Int) == 0) = true := by simp [h]
  go_enter Tryz.func51, Tryz.ntmps51
  go_wp2_with fail
  have hb := ((Below.refl w.heap.size w).alloc (Nat.le_refl _) (.cells #[.slice none 0 0, .bool false, .slice none 0 0, .slice none 0 0] 42)).alloc (by simp) (.cells #[.slice none 0 0, .bool false, .slice none 0 0, .slice none 0 0] 42)
  have x := (Box.new w 42 #[.slice none 0 0, .bool false, .slice none 0 0, .slice none 0 0]).alloc (.cells #[.slice none 0 0, .bool false, .slice none 0 0, .slice none 0 0] 42)
  have q0 := x.cell 0 (v := .slice none 0 0) rfl
  have q1 := x.cell 1 (v := .bool false) rfl
  have q2 := x.cell 2 (v := .slice none 0 0) rfl
  have q3 := x.cell 3 (v := .slice none 0 0) rfl
  refine bodyPost_ret (v := emV em0) (by simp [results, Tryz.results51, go_sem, q0, q1, q2, q3, emV, emC, em0, noM]) rfl ?_
  exact ⟨rfl, hb⟩
set_option maxHeartbeats 1000000 in
set_option maxRecDepth 100000 in
theorem pickE_ix (A : Option Addr) (c : Nat) (xs : List Em) (k : Int) (j : Nat) (w : World) (hA : EL w A xs) (hl : xs.length ≤ 9223372036854775807) (hj : j < xs.length) (hjk : wrap64 ((IntKind.u64.wrap k).tmod (xs.length : Int)) = (j : Int)) :
    Calls Tryz.prog 51 #[.slice A xs.length c, .int .i64 k] w fun e w' => e = .returned (emV xs[j]) ∧ Below w.heap.size w w' := by
  have g1 : ((xs.length : Int) == 0) = false := by simp; intro e; subst e; simp at hj
  obtain ⟨b, o, rfl, hbl, q0, q1, q2, q3⟩ := hA.cells j _ (List.getElem?_eq_getElem hj)
  generalize xs[j] = m at q0 q1 q2 q3 ⊢
  have hb := ((Below.refl w.heap.size w).alloc (Nat.le_refl _) (.cells (emC m) 42)).alloc (by simp) (.cells #[.slice none 0 0, .bool false, .slice none 0 0, .slice none 0 0] 42)
  have x := (Box.new w 42 (emC m)).alloc (.cells #[.slice none 0 0, .bool false, .slice none 0 0, .slice none 0 0] 42)
  have r0 := x.cell 0 (v := .slice m.D m.d.length m.c) rfl
  have r1 := x.cell 1 (v := .bool m.isM) rfl
  have r2 := x.cell 2 (v := .slice m.m.A m.m.cs.length m.m.ca) rfl
  have r3 := x.cell 3 (v := .slice m.m.O m.m.os.length m.m.co) rfl
  unfold emC at hb r0 r1 r2 r3
  clear hA x
  go_enter Tryz.func51, Tryz.ntmps51
  go_wp2_with fail
  refine bodyPost_ret (v := emV m) (by simp [results, Tryz.results51, go_sem, r0, r1, r2, r3, emV, emC]) rfl ?_
  exact ⟨rfl, hb⟩
/-- the same entry each time -/
theorem pickE_at (A : Option Addr) (c : Nat) (xs : List Em) (k : Int) (hl : xs.length ≤ 9223372036854775807) :
    ∃ x : Em, (x = em0 ∨ x ∈ xs) ∧ ∀ w : World, EL w A xs → Calls Tryz.prog 51 #[.slice A xs.length c, .int .i64 k] w fun e w' => e = .returned (emV x) ∧ Below w.heap.size w w' := by
  by_cases h : xs.length = 0
  · exact ⟨em0, .inl rfl, fun w _ => pickE_none A c k _ w h⟩
  · obtain ⟨j, hj, hjk⟩ := pick_ix k xs.length (by omega) hl
    exact ⟨xs[j], .inr (List.getElem_mem hj), fun w hA => pickE_ix A c xs k j w hA hl hj hjk⟩
theorem pickE_any (A : Option Addr) (c : Nat) (xs : List Em) (k : Int) (w : World) (hA : EL w A xs) (hl : xs.length ≤ 9223372036854775807) :
    Calls Tryz.prog 51 #[.slice A xs.length c, .int .i64 k] w (RetPe w xs) := by
  obtain ⟨x, hx, h⟩ := pickE_at A c xs k hl
  exact (h w hA).mono fun e w' ⟨he, hb⟩ => ⟨x, he, hx, hb⟩
end Go.Proofs.YtefdipjhjgmokaaGreatDoor

set_option linter.unusedVariables false
set_option linter.unusedSimpArgs false
namespace Go.Proofs.YtefdipjhjgmokaaGreatDoor
open Go.RowKit

noncomputable def sameB (a b : List Opr) : Bool := @decide (a = b) (Classical.propDecidable _)
theorem sameB_true {a b : List Opr} (h : a = b) : sameB a b = true := by unfold sameB; exact @decide_eq_true _ (Classical.propDecidable _) h
theorem sameB_false {a b : List Opr} (h : a ≠ b) : sameB a b = false := by unfold sameB; exact @decide_eq_false _ (Classical.propDecidable _) h
def opEq (p q : Opr) : Bool := p.kind == q.kind && (p.key.toList == q.key.toList && (p.src.toList == q.src.toList && p.n == q.n))
theorem opB_ext {a b : ByteArray} (h : a.data.toList = b.data.toList) : a = b := by
  cases a with | mk a => cases b with | mk b => simp at h; rw [h]
theorem opEq_iff {p q : Opr} : opEq p q = true ↔ p = q := by
  obtain ⟨a, b, c, d⟩ := p
  obtain ⟨a', b', c', d'⟩ := q
  simp only [opEq, Bool.and_eq_true, beq_iff_eq, Opr.mk.injEq]
  constructor
  · rintro ⟨h1, h2, h3, h4⟩
    rw [ByteArray.toList_eq, ByteArray.toList_eq] at h2 h3
    exact ⟨h1, opB_ext h2, opB_ext h3, h4⟩
  · rintro ⟨h1, h2, h3, h4⟩
    exact ⟨h1, by rw [h2], by rw [h3], h4⟩
theorem run_neq_ops (p q : Opr) (w : World) : (binOp .neq 71 (.agg #[.int .i64 p.kind, .string p.key, .string p.src, .int .i64 p.n]) (.agg #[.int .i64 q.kind, .string q.key, .string q.src, .int .i64 q.n])).run Tryz.prog w = .ok (.bool (!opEq p q)) w := by
  have u3 := Tryz.underlying3
  have u9 := Tryz.underlying9
  have a3 := Tryz.isAgg3
  have z3 := Tryz.sizeOf3
  have a9 := Tryz.isAgg9
  have z9 := Tryz.sizeOf9
  have hS : Tryz.prog.underlying 71 = some (.struct (Tryz.prog.fieldsOf 71)) := by kernel_rfl
  have hp : Tryz.prog.stoodInHeld 71 = false := by kernel_rfl
  rw [run_neq_struct, show (10000 : Nat) = 9999 + 1 from rfl, run_equalIn_agg w 9999 71 _ _ hS hp]
  simp only [Program.fieldsOf, Tryz.underlying71]
  unfold opEq
  generalize hx1 : (p.kind == q.kind) = x1
  generalize hx2 : (p.key.toList == q.key.toList) = x2
  generalize hx3 : (p.src.toList == q.src.toList) = x3
  generalize hx4 : (p.n == q.n) = x4
  cases x1 <;> cases x2 <;> cases x3 <;> cases x4 <;> go_simp <;> simp [hx1, hx2, hx3, hx4]
theorem guard_ops (x y : Operand) (xs ys : Array Value) (w : World) : (eqGuard .neq 71 x y (.agg xs) (.agg ys)).run Tryz.prog w = .ok () w := run_eqGuard_agg w .neq 71 x y xs ys (by kernel_rfl)
set_option maxHeartbeats 1000000 in
set_option maxRecDepth 100000 in
theorem equalO_any (A1 A2 : Option Addr) (c1 c2 : Nat) (l m : List Opr) (w : World) (h1 : OS w w.heap.size A1 l) (h2 : OS w w.heap.size A2 m) (hl : l.length < 4611686018427387904) :
    Calls Tryz.prog 128 #[.slice A1 l.length c1, .slice A2 m.length c2] w fun e w' => e = .returned (.bool (sameB l m)) ∧ Below w.heap.size w w' := by
  by_cases hlm : l.length = m.length
  · have d0 : ((l.length : Int) != (m.length : Int)) = false := by simp; omega
    have HLM := hideP hlm
    clear hlm
    go_enter Tryz.func128, Tryz.ntmps128
    go_wp2_with fail
    go_loopw [13] (fun i wr => ∃ k : Nat, k ≤ l.length ∧ i = .int .i64 k ∧ l.take k = m.take k ∧ Below w.heap.size w wr) (fun i _ => l.length - (intOf i).toNat)
    case atStart => exact ⟨0, Nat.zero_le _, rfl, rfl, Below.refl _ _⟩
    case round =>
      obtain ⟨k, hk, rfl, heq, hb⟩ := hrel
      have HEQ := hideP heq
      clear heq
      by_cases hlt : k < l.length
      · have hltm : k < m.length := by rw [← HLM.out]; exact hlt
        obtain ⟨b, o, rfl, hbl, q1, q2, q3, q4⟩ := h1.below hb k _ (List.getElem?_eq_getElem hlt)
        obtain ⟨b', o', rfl, hbl', q5, q6, q7, q8⟩ := h2.below hb k _ (List.getElem?_eq_getElem hltm)
        clear h1 h2
        have HS := hideP (fun (h : l[k] = m[k]) => show l.take (k + 1) = m.take (k + 1) by rw [List.take_succ_eq_append_getElem hlt, List.take_succ_eq_append_getElem hltm, HEQ.out, h])
        have HD := hideP (fun (h : l[k] ≠ m[k]) => show l ≠ m from fun e => h (by subst e; rfl))
        generalize l[k] = p at q1 q2 q3 q4 HS HD
        generalize m[k] = r at q5 q6 q7 q8 HS HD
        have g1 : (0 : Int) ≤ (k : Int) := by omega
        have g2 : (k : Int) < (l.length : Int) := by omega
        have g3 : (k : Int) < (m.length : Int) := by omega
        have n1 := run_neq_ops p r
        have n2 := guard_ops
        cases he : opEq p r
        · have HN := hideP (HD.out fun e => by rw [opEq_iff.2 e] at he; cases he)
          rw [he] at n1
          clear he
          go_wp2_with fail
          go_quiet (fail)
          go_wp2_with fail
          go_ret
          exact ⟨by rw [sameB_false HN.out]; rfl, ⟨hb.os, hb.tape, hb.output, hb.size, hb.block⟩⟩
        · have HN := hideP (HS.out (opEq_iff.1 he))
          rw [he] at n1
          clear he
          go_wp2_with fail
          go_quiet (fail)
          go_wp2_with fail
          go_roundw
          case rel => exact ⟨k + 1, by omega, by go_num, HN.out, ⟨hb.os, hb.tape, hb.output, hb.size, hb.block⟩⟩
          case measure => simp [intOf]; omega
      · have HE := hideP (show l = m by
          have := HEQ.out
          rwa [List.take_of_length_le (by omega), List.take_of_length_le (by have := HLM.out; omega)] at this)
        go_wp2_with fail
        go_ret
        exact ⟨by rw [sameB_true HE.out]; rfl, hb⟩
  · have d0 : ((l.length : Int) != (m.length : Int)) = true := by simp; omega
    have HE := hideP (show l ≠ m from fun e => hlm (by rw [e]))
    clear hlm
    go_enter Tryz.func128, Tryz.ntmps128
    go_wp2_with fail
    go_ret
    exact ⟨by rw [sameB_false HE.out]; rfl, Below.refl _ _⟩
set_option maxHeartbeats 1000000 in
set_option maxRecDepth 100000 in
theorem samedeed_any (D1 D2 : Option Addr) (k1 k2 : Nat) (a b : List Opr) (w : World) (ha : OS w w.heap.size D1 a) (hb : OS w w.heap.size D2 b) (hl : a.length < 4611686018427387904) :
    Calls Tryz.prog 76 #[.agg #[.slice D1 a.length k1], .agg #[.slice D2 b.length k2]] w fun e w' => e = .returned (.bool (sameB a b)) ∧ Below w.heap.size w w' := by
  have h0 := ((Below.refl w.heap.size w).alloc (Nat.le_refl _) (.cells #[.slice D1 a.length k1] 40)).alloc (by simp) (.cells #[.slice D2 b.length k2] 40)
  have HQ := hideP (equalO_any D1 D2 k1 k2 a b _ (ha.go h0) (hb.go h0) hl)
  go_enter Tryz.func76, Tryz.ntmps76
  go_wp2_with fail
  refine HQ.out.mono ?_
  clear HQ
  generalize (w.alloc (.cells #[.slice D1 a.length k1] 40)).alloc (.cells #[.slice D2 b.length k2] 40) = w1 at h0 ⊢
  rintro e w2 ⟨rfl, hb2⟩
  have hb3 := h0.trans (hb2.mono h0.size)
  generalize hq : sameB a b = q at ⊢
  have HQ := hideP hq
  clear hq
  go_wp2_with fail
  go_ret
  exact ⟨by rw [HQ.out]; rfl, hb3⟩
end Go.Proofs.YtefdipjhjgmokaaGreatDoor

set_option linter.unusedVariables false
set_option linter.unusedSimpArgs false
namespace Go.Proofs.YtefdipjhjgmokaaGreatDoor
open Go.RowKit

/-- are two entries the same? -/
noncomputable def sameE (x y : Em) : Bool := (x.isM == y.isM) && (sameB x.d y.d && (decide (x.m.cs = y.m.cs) && decide (x.m.os = y.m.os)))
set_option maxHeartbeats 2000000 in
set_option maxRecDepth 100000 in
theorem sameent_any (x y : Em) (w : World) (hx : ES w x) (hy : ES w y) (hl : x.d.length < 4611686018427387904) :
    Calls Tryz.prog 28 #[emV x, emV y] w fun e w' => e = .returned (.bool (sameE x y)) ∧ Below w.heap.size w w' := by
  have b0 := ((Below.refl w.heap.size w).alloc (Nat.le_refl _) (.cells (emC x) 42)).alloc (by simp) (.cells (emC y) 42)
  have x0 := (Box.new w 42 (emC x)).alloc (.cells (emC y) 42)
  have x1 := Box.new (w.alloc (.cells (emC x) 42)) 42 (emC y)
  simp only [World.size_alloc] at x1
  have hx1 := hx.below b0
  have hy1 := hy.below b0
  have HS := hideP (fun W (h1 : ES W x) (h2 : ES W y) => samedeed_any x.D y.D x.c y.c x.d y.d W h1.ops h2.ops hl)
  have HM := hideP (fun W (h1 : ES W x) (h2 : ES W y) => samemap_any x.m y.m W h1.map h2.map)
  generalize hs : sameE x y = sq
  unfold sameE at hs
  have HE : Hid (_ = sq) := hideP hs
  clear hs hx hy
  generalize sameB x.d y.d = q1 at HS HE
  generalize (decide (x.m.cs = y.m.cs) && decide (x.m.os = y.m.os)) = q2 at HM HE
  unfold emV
  have c0 := x0.cell 0 (v := .slice x.D x.d.length x.c) rfl
  have c1 := x0.cell 1 (v := .bool x.isM) rfl
  have c2 := x0.cell 2 (v := .slice x.m.A x.m.cs.length x.m.ca) rfl
  have c3 := x0.cell 3 (v := .slice x.m.O x.m.os.length x.m.co) rfl
  have d0 := x1.cell 0 (v := .slice y.D y.d.length y.c) rfl
  have d1 := x1.cell 1 (v := .bool y.isM) rfl
  have d2 := x1.cell 2 (v := .slice y.m.A y.m.cs.length y.m.ca) rfl
  have d3 := x1.cell 3 (v := .slice y.m.O y.m.os.length y.m.co) rfl
  unfold emC at *
  go_enter Tryz.func28, Tryz.ntmps28
  generalize hq0 : (x.isM == y.isM) = q0 at HE
  have k0 := x0.lt
  have k1 := x1.lt
  cases q0
  · have HR := hideP (show sq = false by rw [← HE.out]; rfl)
    clear HE HS HM
    go_wp2_with fail
    go_ret
    exact ⟨by rw [HR.out]; rfl, b0⟩
  · go_wp2_with fail
    refine (HS.out _ hx1 hy1).mono ?_
    rintro e w2 ⟨rfl, hb2⟩
    have b2 := b0.trans (hb2.mono b0.size)
    have x02 := x0.below hb2
    have x12 := x1.below hb2
    have hx2 := hx1.below hb2
    have hy2 := hy1.below hb2
    clear HS c0 c1 c2 c3 d0 d1 d2 d3
    have c2 := x02.cell 2 (v := .slice x.m.A x.m.cs.length x.m.ca) rfl
    have c3 := x02.cell 3 (v := .slice x.m.O x.m.os.length x.m.co) rfl
    have d2 := x12.cell 2 (v := .slice y.m.A y.m.cs.length y.m.ca) rfl
    have d3 := x12.cell 3 (v := .slice y.m.O y.m.os.length y.m.co) rfl
    cases q1
    · have HR := hideP (show sq = false by rw [← HE.out]; rfl)
      clear HE HM
      go_wp2_with fail
      go_ret
      exact ⟨by rw [HR.out]; rfl, b2⟩
    · have HR := hideP (show sq = q2 by rw [← HE.out]; rfl)
      clear HE
      have HM2 := hideP (HM.out w2 hx2 hy2)
      clear HM
      go_wp2_with fail
      refine HM2.out.mono ?_
      rintro e w3 ⟨rfl, hb3⟩
      have b3 := b2.trans (hb3.mono b2.size)
      go_wp2_with fail
      go_ret
      exact ⟨by rw [HR.out]; rfl, b3⟩
end Go.Proofs.YtefdipjhjgmokaaGreatDoor
