/-
  What the laws over Copies have in common; rokeep.copiesBegun.
  A log's operations are changed in place, beside Copies that are newer (no body of the program in it).
  What rokeep.Map makes, plainly (no program in it).
-/
import Derived.Test.YtcopmdgcjnkiaaaGreatBw38
import Derived.Test.YtcopmdgcjnkiaaaGreatBw40
import Derived.Test.YtcopmdgcjnkiaaaGreatBw41
import Derived.Test.YtcopmdgcjnkiaaaGreatBw12
import Derived.Test.YtcopmdgcjnkiaaaGreatBw1
import Derived.Test.YtcopmdgcjnkiaaaGreatBw9
set_option linter.unusedVariables false
set_option linter.unusedSimpArgs false
namespace Go.Proofs.YtcopmdgcjnkiaaaGreat
open Go.RowKit

theorem Cs.at_st {c : Cs} {i : Nat} {a : Sr} (h : c.st[i]? = some a) : ∃ r, c.rs[i]? = some r ∧ r.st = a := by
  unfold Cs.st at h
  rw [List.getElem?_map] at h
  cases e : c.rs[i]? with
  | none => rw [e] at h; cases h
  | some r => rw [e] at h; injection h with h; exact ⟨r, rfl, h⟩
/-- a row of entries lies apart from Copies -/
def CAp (c : Cs) (A : Option Addr) : Prop := ∀ k, blk A = some k → ¬ c.F k
theorem EW.fr_ {F : Nat → Prop} {w w' : World} {B : Nat} {A : Option Addr} {n : Nat} {xs : List Em} (h : EW w B A n xs) (hf : Fr F w w') (ha : ∀ k, blk A = some k → ¬ F k) (o0 : Off F w 80) (o1 : Off F w 9) (o2 : Off F w 3) : EW w' B A n xs :=
  ⟨hf.own h.row fun k hk => ha k (ob hk), fun x hx => ⟨hf.own_ty (h.eo x hx).ops o0, ⟨hf.own_ty (h.eo x hx).map.cuts o1, hf.own_ty (h.eo x hx).map.own o2⟩⟩, h.bd⟩
theorem EW.cto {c c' : Cs} {w w' : World} {B B' n : Nat} {ct' : List (List (List Ent))} {st' : List Sr} {A : Option Addr} {xs : List Em} (h : EW w B' A n xs) (ho : c.Ok w B) (ht : c.To w B c' w' ct' st') (ha : CAp c A) : EW w' B' A n xs ∧ CAp c' A :=
  ⟨h.fr_ ht.fr ha ho.offO ho.offS ho.offI, fun k hk hF => (ht.F k hF).elim (ha k hk) fun e => by have := (World.ownsRow.lt h.row k (bo _ _ hk)).2; omega⟩
theorem CAp.fresh {c : Cs} {w w' : World} {B B' n : Nat} {A : Option Addr} {xs : List Em} (h : EW w' B' A n xs) (hs : c.Ok w B) (hB : w.heap.size ≤ B') : CAp c A := fun k hk hF => by
  have h1 := (World.ownsRow.lt h.row k (bo _ _ hk)).1
  have h2 := (hs.lo hF).2
  omega
theorem log_one {α : Type} (es : List α) : logM [[es, []]] = es := by simp [logM, logUp, rndM, cloL, roundL]
/-- while entries come in at the only input -/
structure AdH (w : World) (g : Nat) (A : Option Addr) (ce : Nat) (xs : List Em) (st : List Sr) (k : Nat) (c : Cs) (wr : World) : Prop where
  ok : c.Ok wr w.heap.size
  gg : c.s.g = g
  ct : c.s.ct = [[(xs.map entOf).take k]]
  st : c.st = st
  ew : EW wr w.heap.size A ce xs
  ap : CAp c A
  be : Below w.heap.size w wr
section
variable {w wr w' : World} {g ce k : Nat} {A : Option Addr} {xs : List Em} {st : List Sr} {c c' : Cs}
theorem AdH.below (h : AdH w g A ce xs st k c wr) (hb : Below wr.heap.size wr w') : AdH w g A ce xs st k c w' := ⟨h.ok.below hb, h.gg, h.ct, h.st, h.ew.below hb, h.ap, h.be.trans (hb.mono h.be.size)⟩
theorem AdH.next (h : AdH w g A ce xs st k c wr) (hk : k < xs.length) (T : c.To wr w.heap.size c' w' [[(xs.map entOf).take k ++ [entOf xs[k]]]] c.st) : AdH w g A ce xs st (k + 1) c' w' := by
  obtain ⟨h1, h2⟩ := h.ew.cto h.ok T h.ap
  refine ⟨T.ok, T.g.trans h.gg, ?_, T.st.trans h.st, h1, h2, T.below_ h.ok (Nat.le_refl _) h.be⟩
  rw [T.ct, List.take_succ_eq_append_getElem (by simpa using hk)]
  simp
end
/-- between steps, all entries in the log -/
structure StH (w : World) (g : Nat) (es : List Ent) (A : Option Addr) (ce : Nat) (xs : List Em) (st : List Sr) (c : Cs) (wr : World) : Prop where
  ok : c.Ok wr w.heap.size
  gg : c.s.g = g
  ct : logM c.s.ct = es
  st : c.st = st
  ew : EW wr w.heap.size A ce xs
  ap : CAp c A
  be : Below w.heap.size w wr
section
variable {w wr w' : World} {g ce : Nat} {es : List Ent} {A : Option Addr} {xs : List Em} {st st' : List Sr} {c c' : Cs}
theorem StH.below (h : StH w g es A ce xs st c wr) (hb : Below wr.heap.size wr w') : StH w g es A ce xs st c w' := ⟨h.ok.below hb, h.gg, h.ct, h.st, h.ew.below hb, h.ap, h.be.trans (hb.mono h.be.size)⟩
theorem StH.next (h : StH w g es A ce xs st c wr) (T : c.To wr w.heap.size c' w' c.s.ct st') : StH w g es A ce xs st' c' w' := by
  obtain ⟨h1, h2⟩ := h.ew.cto h.ok T h.ap
  exact ⟨T.ok, T.g.trans h.gg, by rw [T.ct]; exact h.ct, T.st, h1, h2, T.below_ h.ok (Nat.le_refl _) h.be⟩
theorem AdH.close {es : List Ent} (h : AdH w g A ce xs st xs.length c wr) (he : xs.map entOf = es) (T : c.To wr w.heap.size c' w' [[es, []]] c.st) : StH w g es A ce xs st c' w' := by
  obtain ⟨h1, h2⟩ := h.ew.cto h.ok T h.ap
  exact ⟨T.ok, T.g.trans h.gg, by rw [T.ct, log_one], T.st.trans h.st, h1, h2, T.below_ h.ok (Nat.le_refl _) h.be⟩
theorem StH.len {es : List Ent} (h : StH w g es A ce xs st c wr) : es.length ≤ 3600 := by
  have h2 := log_len c.s.ct
  have h3 := h.ok.ms.gm.cnt
  have h4 := h.ok.ms.gm.most
  rw [h.ct] at h2
  unfold Ms.ct at h2
  omega
end
/-- replicas in one state have one store -/
theorem Cs.Ok.same {c d : Cs} {w w' : World} {B B' i j : Nat} {r q : Rp} (h : c.Ok w B) (k : d.Ok w' B') (hr : c.rs[i]? = some r) (hq : d.rs[j]? = some q) (he : r.st = q.st) : r.l = q.l ∧ r.m.cs = q.m.cs ∧ r.m.os = q.m.os ∧ r.bs = q.bs :=
  ⟨(h.ro i r hr).pb.ok.ext (k.ro j q hq).pb.ok fun x => congrFun (congrArg Sr.v he) x, congrArg Sr.cs he, congrArg Sr.os he, congrArg Sr.bs he⟩
/-- one input -/
theorem close_one {α : Type} (es : List α) : closeC [[es]] 0 = [[es, []]] ∧ closeQ [[es]] 0 = 0 ∧ closeN [[es]] 0 = 1 := ⟨rfl, rfl, rfl⟩
theorem add_one (es : List Ent) (x : Ent) (hx : chkE x = 0) (hd : dropE x = x) (hl : es.length < 60) : addQ [[es]] 0 x = 0 ∧ addC [[es]] 0 x = [[es ++ [x]]] := by
  obtain ⟨h1, h2⟩ := addQ_ok (ct := [[es]]) (i := 0) (x := x) (by simp) hx (by simpa [totM] using hl)
  exact ⟨h1, by rw [show (0 : Int) = ((0 : Nat) : Int) from rfl, h2, hd]; rfl⟩
def entA : Ent := ⟨false, [⟨1, ⟨#[97]⟩, ByteArray.empty, 5⟩], [], []⟩
def srO : Sr := ⟨valOf [], [], [0], []⟩
theorem begun_chk : chkE entA = 0 := by decide +kernel
theorem begun_okm : OkM [] [0] := chkM_ok.1 (by decide +kernel)
theorem begun_okl : Ok [((⟨#[97]⟩ : ByteArray), (5 : Int))] := chk_ok.1 (by decide +kernel)
theorem begun_run : doneV (valOf []) [⟨1, ⟨#[97]⟩, ByteArray.empty, 5⟩] = (valOf [((⟨#[97]⟩ : ByteArray), (5 : Int))], true) := by
  have h : runV (valOf []) [⟨1, ⟨#[97]⟩, ByteArray.empty, 5⟩] = some (upd (valOf []) ⟨#[97]⟩ 5) := rfl
  rw [doneV_some h]
  congr 1
  funext k
  by_cases e : k = ⟨#[97]⟩
  · subst e
    rw [valOf_mem begun_okl.srt (p := ((⟨#[97]⟩ : ByteArray), (5 : Int))) (by simp)]
    simp [upd]
  · rw [valOf_none (l := [((⟨#[97]⟩ : ByteArray), (5 : Int))]) fun p hp e2 => by simp at hp; rw [hp] at e2; exact e e2.symm]
    simp [upd, e, valOf_nil]
set_option maxHeartbeats 1000000 in
set_option maxRecDepth 100000 in
theorem cbegun_any (w : World) : Calls Tryz.prog 8 #[] w fun e w' => e = .returned (.bool true) ∧ Below w.heap.size w w' := by
  have b0 := (Below.refl w.heap.size w).alloc (Nat.le_refl _) (.cells #[.int .i64 0] 3)
  have x0 := Box.new w 3 #[.int .i64 0]
  have HB0 := hideP b0.size
  have hm : MS (w.alloc (.cells #[.int .i64 0] 3)) ⟨none, 0, [], some ⟨w.heap.size, 0, none⟩, 1, [0]⟩ :=
    ⟨VS.nil, VS.is_int (l := [0]) (VS.of_box x0), by simp, by simp, by simp [maxLen], by simp [maxLen], (fun _ => rfl), (fun e => by cases e)⟩
  have HN := hideP (cnew_ok 1 2 _ none 0 [] _ (by decide) (by decide) (by decide) (by decide) hm PS.nil begun_okm Ok.nil)
  simp only [List.length_nil, List.length_singleton] at HN
  clear hm x0
  go_enter Tryz.func8, Tryz.ntmps8
  go_wp2_with fail
  refine HN.out.mono ?_
  clear HN
  rintro e w2 ⟨c, rfl, hok, hct, hst, hb2⟩
  have b2 := b0.trans (hb2.mono b0.size)
  have al := (Below.refl w2.heap.size w2).alloc (Nat.le_refl _) (.cells #[.int .i64 1, .string ⟨#[97]⟩, .string ByteArray.empty, .int .i64 5] 80)
  have hx : ES (w2.alloc (.cells #[.int .i64 1, .string ⟨#[97]⟩, .string ByteArray.empty, .int .i64 5] 80)) ⟨some ⟨w2.heap.size, 0, none⟩, 1, [⟨1, ⟨#[97]⟩, ByteArray.empty, 5⟩], false, noM⟩ :=
    ⟨OS.lit1 w2 _ ⟨1, ⟨#[97]⟩, ByteArray.empty, 5⟩ 80 rfl _ rfl, (noM_mo w2 0).ms.below al, by simp⟩
  have HA := hideP (cadd_any c _ 0 _ _ (hok.below al) hx)
  rw [hct] at HA
  obtain ⟨e1, e2⟩ := add_one [] entA begun_chk rfl (by simp)
  rw [show List.replicate 1 [([] : List Ent)] = [[[]]] from rfl, show entOf ⟨some ⟨w2.heap.size, 0, none⟩, 1, [⟨1, ⟨#[97]⟩, ByteArray.empty, 5⟩], false, noM⟩ = entA from rfl, e1, e2] at HA
  have b3 := b2.trans (al.mono b2.size)
  have hok3 := hok.below al
  unfold emV emC noM at HA
  simp only [List.length_nil, List.length_singleton] at HA
  clear hok hb2 b0 al hx e1 e2 b2
  go_wp2_with fail
  refine HA.out.mono ?_
  clear HA
  rintro e w4 ⟨c4, rfl, T4⟩
  have b4 := T4.below_ hok3 HB0.out b3
  have hg4 := T4.g
  have HC := hideP (cclose_any c4 _ 0 _ T4.ok)
  obtain ⟨f1, f2, f3⟩ := close_one [entA]
  rw [T4.ct, show ([] : List Ent) ++ [entA] = [entA] from rfl, f1, f2, f3, hg4] at HC
  go_wp2_with fail
  refine HC.out.mono ?_
  clear HC
  rintro e w5 ⟨c5, rfl, T5⟩
  have b5 := T5.below_ T4.ok HB0.out b4
  have hg5 := T5.g.trans hg4
  have HS := hideP (cstep_any c5 _ 1 _ T5.ok)
  have hst5 : c5.st = [srO, srO] := by rw [T5.st, T4.st, hst]; rfl
  rw [T5.ct, log_one, hst5] at HS
  obtain ⟨q1, q2, q3⟩ := cp_go (log := [entA]) (st := [srO, srO]) (i := 1) (r := srO) (x := entA) rfl rfl
  rw [show ((1 : Nat) : Int) = 1 from rfl] at q1 q2 q3
  rw [q1, q2, q3, hg5, show doneE srO.v entA = true from congrArg Prod.snd begun_run] at HS
  go_wp2_with fail
  refine HS.out.mono ?_
  clear HS
  rintro e w6 ⟨c6, rfl, T6⟩
  have b6 := T6.below_ T5.ok HB0.out b5
  have hg6 := T6.g.trans hg5
  obtain ⟨r, hr, hrs⟩ := Cs.at_st (c := c6) (i := 1) (a := stepR srO entA) (by rw [T6.st]; rfl)
  have hrl : r.l = [((⟨#[97]⟩ : ByteArray), (5 : Int))] := (T6.ok.ro 1 r hr).pb.ok.ext begun_okl fun k => by
    have h1 : valOf r.l = (doneV (valOf []) [⟨1, ⟨#[97]⟩, ByteArray.empty, 5⟩]).1 := congrArg Sr.v hrs
    rw [h1, begun_run]
  have HL := hideP (call_any c6 _ 1 r _ T6.ok hr)
  rw [hg6, hrl] at HL
  simp only [List.length_singleton] at HL
  clear hrl hrs hr T6 T5 T4 hst5 q1 q2 q3 f1 f2 f3 hg4 hg5 hg6 hok3 b5 b4 hct hst
  go_wp2_with fail
  refine HL.out.mono ?_
  rintro e w7 ⟨A, cp, rfl, _, hb7⟩
  have b7 := b6.trans (hb7.mono b6.size)
  clear HL b6
  go_wp2_with fail
  go_ret
  exact ⟨rfl, b7⟩
end Go.Proofs.YtcopmdgcjnkiaaaGreat

set_option linter.unusedVariables false
set_option linter.unusedSimpArgs false
namespace Go.Proofs.YtcopmdgcjnkiaaaGreat
open Go.RowKit

theorem opCells_turn (d : List Opr) : ∀ (i : Nat) (o : Opr), d[i]? = some o → opCells (d.set i ⟨5, o.key, kq, o.n⟩) = ((opCells d).set (i * 4) (.int .i64 5)).set (i * 4 + 2) (.string kq) := by
  induction d with
  | nil => intro i o h; simp at h
  | cons q r ih =>
    intro i o h
    cases i with
    | zero => simp at h; subst h; simp [opCells]
    | succ i => simp at h; rw [show (i + 1) * 4 = i * 4 + 1 + 1 + 1 + 1 by omega]; simp [opCells, ih i o h]
/-- the rows of operations of a log lie apart -/
def PwD (xs : List Em) : Prop := xs.Pairwise fun x y => ∀ k, blk x.D = some k → blk y.D ≠ some k
theorem PwD.ne {xs : List Em} (h : PwD xs) {i j : Nat} {x y : Em} (hi : xs[i]? = some x) (hj : xs[j]? = some y) (hne : i ≠ j) {k : Nat} (hk : blk x.D = some k) : blk y.D ≠ some k := by
  obtain ⟨hi', rfl⟩ := List.getElem?_eq_some_iff.1 hi
  obtain ⟨hj', rfl⟩ := List.getElem?_eq_some_iff.1 hj
  rcases Nat.lt_or_gt_of_ne hne with h1 | h1
  · exact List.pairwise_iff_getElem.1 h i j hi' hj' h1 k hk
  · exact fun e => List.pairwise_iff_getElem.1 h j i hj' hi' h1 k e hk
/-- an entry with other operations, in the same place -/
def Em.setD (x : Em) (d : List Opr) : Em := ⟨x.D, x.c, d, x.isM, x.m⟩
theorem emCells_setD (xs : List Em) : ∀ (k : Nat) (x : Em) (d : List Opr), xs[k]? = some x → d.length = x.d.length → emCells (xs.set k (x.setD d)) = emCells xs := by
  induction xs with
  | nil => intro k x d h; simp at h
  | cons q r ih =>
    intro k x d h hl
    cases k with
    | zero => simp at h; subst h; simp [emCells, Em.setD, hl]
    | succ k => simp at h; simp [emCells, ih k x d h hl]
theorem PwD.setD {xs : List Em} (h : PwD xs) {k : Nat} {x : Em} (hk : xs[k]? = some x) (d : List Opr) : PwD (xs.set k (x.setD d)) := by
  have e : ∀ (i : Nat) (hi : i < (xs.set k (x.setD d)).length) (hi2 : i < xs.length), ((xs.set k (x.setD d))[i]).D = (xs[i]).D := fun i hi hi2 => by
    rw [List.getElem_set]
    split
    · next e => subst e; obtain ⟨_, e2⟩ := List.getElem?_eq_some_iff.1 hk; rw [e2]; rfl
    · rfl
  refine List.pairwise_iff_getElem.2 fun i j hi hj hij => ?_
  rw [e i hi (by simpa using hi), e j hj (by simpa using hj)]
  exact List.pairwise_iff_getElem.1 h i j _ _ hij
/-- one operation is changed in place -/
theorem EW.turn {w : World} {B n : Nat} {A : Option Addr} {xs : List Em} (h : EW w B A n xs) (hp : PwD xs) {k i : Nat} {x : Em} {o : Opr} (hk : xs[k]? = some x) (hi : x.d[i]? = some o) :
    ∃ g, x.D = some ⟨g, 0, none⟩ ∧ B ≤ g ∧ w.cell? ⟨g, i * 4, none⟩ = some (.int .i64 o.kind) ∧ w.frozen? ⟨g, i * 4, none⟩ = false ∧ (w.setCell ⟨g, i * 4, none⟩ (.int .i64 5)).cell? ⟨g, i * 4 + 2, none⟩ = some (.string o.src) ∧ (w.setCell ⟨g, i * 4, none⟩ (.int .i64 5)).frozen? ⟨g, i * 4 + 2, none⟩ = false ∧
      Ty w g 80 ∧ EW ((w.setCell ⟨g, i * 4, none⟩ (.int .i64 5)).setCell ⟨g, i * 4 + 2, none⟩ (.string kq)) B A n (xs.set k (x.setD (x.d.set i ⟨5, o.key, kq, o.n⟩))) ∧
      Fr (fun q => q = g) w ((w.setCell ⟨g, i * 4, none⟩ (.int .i64 5)).setCell ⟨g, i * 4 + 2, none⟩ (.string kq)) := by
  have hx := h.eo x (List.mem_of_getElem? hk)
  have hil := (List.getElem?_eq_some_iff.1 hi).1
  obtain ⟨g, cap, hv, hB, hlt⟩ := World.ownsRow.form hx.ops (by omega)
  injection hv with a b e
  have ho := hx.ops
  unfold OO at ho
  rw [a] at ho
  have r2 := own_set ho (i * 4) (by rw [opCells_length]; omega) (.int .i64 5)
  have r3 := own_set r2 (i * 4 + 2) (by rw [List.length_set, opCells_length]; omega) (.string kq)
  obtain ⟨g1, g2, g3, g4⟩ := opCells_get x.d i o hi
  have c1 := ho.cells (g := g) rfl _ _ g1
  rw [Addr.add_lit, Nat.zero_add] at c1
  have c2 := r2.cells (g := g) rfl (i * 4 + 2) (.string o.src) (by rw [List.getElem?_set, if_neg (by omega)]; exact g3)
  rw [Addr.add_lit, Nat.zero_add] at c2
  have tg : Ty w g 80 := own_ty ho rfl
  have ff : Fr (fun q => q = g) w ((w.setCell ⟨g, i * 4, none⟩ (.int .i64 5)).setCell ⟨g, i * 4 + 2, none⟩ (.string kq)) := Fr.comp (F := fun q => q = g) (Fr.of_set _ _ _ rfl) (Fr.of_set _ _ _ rfl)
  have of : ∀ {t : TypeId}, t ≠ 80 → Off (fun q => q = g) w t := fun hn q hq _ => ⟨80, by have hq' : q = g := hq; rw [hq']; exact tg, hn⟩
  have hlen : (x.d.set i ⟨5, o.key, kq, o.n⟩).length = x.d.length := by simp
  refine ⟨g, a, hB, c1, own_frozen ho _, c2, own_frozen r2 _, tg, ⟨?_, fun y hy => ?_, fun y hy q hq => ?_⟩, ff⟩
  · rw [emCells_setD xs k x _ hk hlen, List.length_set]
    exact ff.own_ty h.row (of (by decide))
  · obtain ⟨j, hj⟩ := List.mem_iff_getElem?.1 hy
    rw [List.getElem?_set] at hj
    by_cases e : k = j
    · subst e
      rw [if_pos rfl, if_pos (List.getElem?_eq_some_iff.1 hk).1] at hj
      injection hj with hj
      subst hj
      refine ⟨?_, ⟨ff.own_ty hx.map.cuts (of (by decide)), ff.own_ty hx.map.own (of (by decide))⟩⟩
      show OO _ B x.D x.c (x.d.set i ⟨5, o.key, kq, o.n⟩)
      unfold OO
      rw [opCells_turn x.d i o hi, hlen, a]
      exact r3
    · rw [if_neg e] at hj
      have hy2 := h.eo y (List.mem_of_getElem? hj)
      refine ⟨ff.own hy2.ops fun q hq e2 => ?_, ⟨ff.own_ty hy2.map.cuts (of (by decide)), ff.own_ty hy2.map.own (of (by decide))⟩⟩
      exact hp.ne hk hj e (k := g) (by rw [a]; rfl) (by have e3 : q = g := e2; rw [← e3]; exact ob hq)
  · rcases mem_set hy with rfl | hy
    · rcases mem_set (show q ∈ x.d.set i ⟨5, o.key, kq, o.n⟩ from hq) with rfl | hq
      · exact h.bd x (List.mem_of_getElem? hk) o (List.mem_of_getElem? hi)
      · exact h.bd x (List.mem_of_getElem? hk) q hq
    · exact h.bd y hy q hq
end Go.Proofs.YtcopmdgcjnkiaaaGreat

set_option linter.unusedVariables false
set_option linter.unusedSimpArgs false
namespace Go.Proofs.YtcopmdgcjnkiaaaGreat

def cutsL : List ByteArray := [⟨#[97]⟩, ⟨#[98]⟩, ⟨#[98, 98]⟩, ⟨#[100]⟩, ⟨#[109]⟩, ⟨#[112]⟩]
theorem cutsL_ok : cutsB ByteArray.empty cutsL = true := by decide +kernel
/-- the i-th cut is taken -/
def mpT (zs : List Int) (i : Nat) : Bool := decide (i < zs.length) && decide (0 < wi (zs.getD i 0) 3)
/-- the map of the first i cuts -/
def mapR (zs : List Int) : Nat → List ByteArray × List Nat
  | 0 => ([], [0])
  | i + 1 => if mpT zs i = true then ((mapR zs i).1 ++ [cutsL.getD i ByteArray.empty], (mapR zs i).2 ++ [wi ((zs.getD i 0).tdiv 3) 4]) else mapR zs i
theorem mapR_len (zs : List Int) (i : Nat) : (mapR zs i).2.length = (mapR zs i).1.length + 1 := by
  induction i with
  | zero => rfl
  | succ i ih => simp only [mapR]; split <;> simp [ih]
theorem mapR_few (zs : List Int) (i : Nat) : (mapR zs i).1.length ≤ i := by
  induction i with
  | zero => simp [mapR]
  | succ i ih =>
    simp only [mapR]
    split
    · rw [List.length_append, List.length_singleton]; omega
    · omega
theorem mapR_sub (zs : List Int) {i : Nat} (hi : i ≤ 6) : (mapR zs i).1.Sublist (cutsL.take i) := by
  induction i with
  | zero => simp [mapR]
  | succ i ih =>
    have hl : i < cutsL.length := by simp [cutsL]; omega
    have e : cutsL.take (i + 1) = cutsL.take i ++ [cutsL.getD i ByteArray.empty] := by
      rw [List.take_succ_eq_append_getElem hl]; simp [List.getD_eq_getElem?_getD, hl]
    rw [e]
    simp only [mapR]
    split
    · exact (ih (by omega)).append (List.Sublist.refl _)
    · exact (ih (by omega)).trans (List.sublist_append_left _ _)
theorem mapR_own (zs : List Int) (i : Nat) : ∀ n ∈ (mapR zs i).2, n ≤ 3 := by
  induction i with
  | zero => intro n hn; simp [mapR] at hn; omega
  | succ i ih =>
    simp only [mapR]
    split
    · intro n hn
      rcases List.mem_append.1 hn with hn | hn
      · exact ih n hn
      · rw [List.mem_singleton.1 hn]
        have := wi_lt ((zs.getD i 0).tdiv 3) 4 (by decide)
        omega
    · exact ih
theorem mapR_ok (zs : List Int) : OkM (mapR zs 6).1 ((mapR zs 6).2.map fun (k : Nat) => (k : Int)) := by
  have hs := mapR_sub zs (i := 6) (by decide)
  obtain ⟨h1, h2⟩ := cutsB_iff.1 cutsL_ok
  have ht : cutsL.take 6 = cutsL := rfl
  rw [ht] at hs
  refine ⟨by have := mapR_few zs 6; omega, by rw [List.length_map, mapR_len], cutsB_iff.2 ⟨fun k hk => h1 k (hs.subset hk), h2.sublist hs⟩, fun n hn => ?_⟩
  obtain ⟨k, hk, rfl⟩ := List.mem_map.1 hn
  have := mapR_own zs 6 k hk
  omega
end Go.Proofs.YtcopmdgcjnkiaaaGreat
