/-
  copies.New.
  Literals in memory (no body of the program in it).
  What the laws over Copies have in common; rokeep.copiesBegun.
  rokeep.copiesBegun.
  How long a log is, and how few operations its transactions have.
  rokeep.LogOwn: a Merge and Copies side by side, and the entries that come to both (no body of the program in it).
  A number within bounds, plainly (no program in it).
-/
import Derived.Test.YtefdipjhjgmokaaGreatDoorBy12
import Derived.Test.YtefdipjhjgmokaaGreatDoorBy25
import Derived.Test.YtefdipjhjgmokaaGreatDoorBy24
import Derived.Test.YtefdipjhjgmokaaGreatDoorBy1
import Derived.Test.YtefdipjhjgmokaaGreatDoorBy6
import Derived.Test.YtefdipjhjgmokaaGreatDoorBy17
import Derived.WalkKit
import Derived.WalkSpells
set_option linter.unusedVariables false
set_option linter.unusedSimpArgs false
namespace Go.Proofs.YtefdipjhjgmokaaGreatDoor
open Go.RowKit

/-- Copies are handed back -/
def RetNc (w : World) (inputs n : Nat) (cs : List ByteArray) (os : List Int) (l : List Pr) (e : Ending) (w' : World) : Prop :=
  ∃ c : Cs, e = .returned (.tuple #[.pointer (some ⟨c.s.g, 0, none⟩), .int .i64 0]) ∧ c.Ok w' w.heap.size ∧ c.s.ct = List.replicate inputs [[]] ∧ c.st = List.replicate n ⟨valOf l, cs, os, []⟩ ∧ Below w.heap.size w w'
/-- while replicas are made -/
structure NcH (w : World) (g gm k inputs : Nat) (m : Mp) (A : Option Addr) (l : List Pr) (c : Cs) (wr : World) : Prop where
  ok : c.Ok wr w.heap.size
  gg : c.s.g = g
  ct : c.s.ct = List.replicate inputs [[]]
  st : c.st = List.replicate k ⟨valOf l, m.cs, m.os, []⟩
  x0 : Box wr gm 34 #[.slice m.A m.cs.length m.ca, .slice m.O m.os.length m.co]
  be : Below w.heap.size w wr
  lo : w.heap.size ≤ gm
def NcI (w : World) (g gm n inputs : Nat) (m : Mp) (A : Option Addr) (l : List Pr) (i : Value) (wr : World) : Prop := ∃ (k : Nat) (c : Cs), k ≤ n ∧ i = .int .i64 k ∧ NcH w g gm k inputs m A l c wr
set_option maxHeartbeats 2000000 in
set_option maxRecDepth 100000 in
theorem cnew_ok (inputs n : Nat) (m : Mp) (A : Option Addr) (cp : Nat) (l : List Pr) (w : World) (h1 : 1 ≤ inputs) (h2 : inputs ≤ 4) (h3 : 1 ≤ n) (h4 : n ≤ 4) (hm : MS w m) (hA : PS w w.heap.size A l) (hok : OkM m.cs m.os) (hokl : Ok l) :
    Calls Tryz.prog 10 #[.int .i64 (inputs : Int), .int .i64 (n : Int), .agg #[.slice m.A m.cs.length m.ca, .slice m.O m.os.length m.co], .slice A l.length cp] w (RetNc w inputs n m.cs m.os l) := by
  have b0 := (Below.refl w.heap.size w).alloc (Nat.le_refl _) (.cells #[.slice m.A m.cs.length m.ca, .slice m.O m.os.length m.co] 34)
  have x0 := Box.new w 34 #[.slice m.A m.cs.length m.ca, .slice m.O m.os.length m.co]
  have g1 : ¬ (n : Int) < 1 := by omega
  have g2 : ¬ (4 : Int) < (n : Int) := by omega
  have d1 : decide ((n : Int) < 1) = false := decide_eq_false g1
  have HN := hideP (fun (W : World) => mnew_ok inputs W h1 h2)
  have HPN := hideP (fun (W : World) (h1 : MS W m) (h2 : PS W W.heap.size A l) => new_ok m A cp l W h1 h2 hok hokl)
  have HMS := hideP (fun (W : World) (hb : Below w.heap.size w W) => show MS W m ∧ PS W W.heap.size A l from ⟨hm.below hb, (hA.below hb).more hb.size⟩)
  have HN4 := hideP h4
  clear hm hA hok hokl h1 h2 h3
  go_enter Tryz.func10, Tryz.ntmps10
  go_wp2_with fail
  generalize w.alloc _ = w1 at b0 x0 ⊢
  generalize hgm : w.heap.size = gm at x0 ⊢
  refine (HN.out w1).mono ?_
  clear HN
  rintro e w2 ⟨s, rfl, hsx, hs, hct, hb2⟩
  have c0 := hs.mg.c0
  have c1 := hs.mg.c1
  have hs2 := hs.mono b0.size
  have b2 := b0.trans (hb2.mono b0.size)
  have hem := hs2.embed
  have al := (Below.refl w2.heap.size w2).alloc (Nat.le_refl _) (.cells #[.slice s.AI s.ins.length s.cI, .int .i64 (s.added : Int), .slice none 0 0] 51)
  have hH : NcI w w2.heap.size gm n inputs m A l (.int .i64 0) (w2.alloc (.cells #[.slice s.AI s.ins.length s.cI, .int .i64 (s.added : Int), .slice none 0 0] 51)) :=
    ⟨0, _, Nat.zero_le _, rfl, hem, rfl, hct, rfl, (x0.below hb2).below al, b2.trans (al.mono b2.size), by omega⟩
  clear hs hs2 hct hsx hem x0 b0 b2 hb2 al
  go_wp2_with fail
  generalize w2.heap.size = g at hH ⊢
  generalize w2.alloc _ = w3 at hH ⊢
  go_wp2_with fail
  go_loopw [35] (NcI w g gm n inputs m A l) (fun i _ => n - (intOf i).toNat)
  case atStart => exact hH
  case round =>
    clear hH c0 c1
    obtain ⟨k, c, hk, rfl, h⟩ := hrel
    by_cases hlt : k < n
    · have z1 := h.x0.cell 0 (v := .slice m.A m.cs.length m.ca) rfl
      have z2 := h.x0.cell 1 (v := .slice m.O m.os.length m.co) rfl
      have g3 : (k : Int) < (n : Int) := by omega
      have HP := hideP (HPN.out wr (HMS.out wr h.be).1 (HMS.out wr h.be).2)
      go_wp2_with fail
      refine HP.out.mono ?_
      clear HP
      rintro e w4 ⟨g', A', ca', O', co', q, rfl, hp, hb4⟩
      have hcl : c.rs.length = k := by have := congrArg List.length h.st; simpa [Cs.st] using this
      have hng : ∀ (j : Nat) (z : Rp), c.rs[j]? = some z → g' ≠ z.g := fun j z hz e => by
        have e1 := (h.ok.ro j z hz).pb.box.lt
        have e2 := hp.low
        omega
      have hok4 := h.ok.below hb4
      obtain ⟨A2, c2, w5, hrun, k0, k1, hok5, hfr⟩ := hok4.grow ⟨g', ⟨A', ca', m.cs, O', co', m.os⟩, l, q, none, 0, []⟩ ⟨hp.mono h.ok.size, OR.nil _ _ _⟩ rfl (by have := HN4.out; omega) hng rfl 49
      have c2' := hok4.c2
      have b4 := h.be.trans (hb4.mono h.be.size)
      have HX := hideP (fun (i : Value) (hi : i = .int .i64 ((k + 1 : Nat) : Int)) => show NcI w g gm n inputs m A l i (w5.setCell ⟨c.s.g, 2, none⟩ (.slice A2 (c.rs ++ [(⟨g', ⟨A', ca', m.cs, O', co', m.os⟩, l, q, none, 0, []⟩ : Rp)]).length c2)) from
        ⟨k + 1, _, hlt, hi, hok5, h.gg, h.ct, by
          show List.map Rp.st (c.rs ++ [_]) = _
          rw [List.map_append, show List.map Rp.st c.rs = List.replicate k _ from h.st, List.replicate_succ']
          rfl, hfr.box_ty (h.x0.below hb4) (hok4.off (by decide) (by decide) (by decide) (by decide) (by decide) (by decide) (by decide)), hfr.below (fun k hk => (hok4.lo hk).1) hok4.size b4, h.lo⟩)
      rw [h.gg] at k0 k1 c2' HX
      have HR := hideP hrun
      clear hrun h hok4 hok5 hfr hp hng b4 hb4 z1 z2 hcl
      generalize (c.rs ++ [(⟨g', ⟨A', ca', m.cs, O', co', m.os⟩, l, q, none, 0, []⟩ : Rp)]).length = n2 at HR HX
      simp only [List.length_nil] at HR
      go_wp2_with (at_builtin; refine Lib.wpList_append_run _ rfl _ _ _ _ rfl _ _ rfl rfl _ _ HR.out ?_)
      go_roundw
      case rel => exact HX.out _ (by go_num)
      case measure => simp [intOf]; omega
    · obtain rfl : k = n := by omega
      have HF := hideP (show RetNc w inputs k m.cs m.os l (.returned (.tuple #[.pointer (some ⟨g, 0, none⟩), .int .i64 0])) wr from ⟨c, by rw [h.gg], h.ok, h.ct, h.st, h.be⟩)
      clear h
      go_wp2_with fail
      go_ret2
      exact HF.out
end Go.Proofs.YtefdipjhjgmokaaGreatDoor

set_option linter.unusedVariables false
set_option linter.unusedSimpArgs false
namespace Go.Proofs.YtefdipjhjgmokaaGreatDoor
open Go.RowKit

theorem OS.lit1 (w W : World) (o : Opr) (t : TypeId) (hW : W = w.alloc (.cells #[.int .i64 o.kind, .string o.key, .string o.src, .int .i64 o.n] t)) (g : Nat) (hg : g = w.heap.size) : OS W W.heap.size (some ⟨g, 0, none⟩) [o] := by
  subst hW; subst hg
  intro i p hp
  cases i with
  | zero => simp at hp; subst hp; exact ⟨w.heap.size, 0, rfl, by simp, by simp, by simp, by simp, by simp⟩
  | succ i => simp at hp
theorem VS.lit0 (w : World) (t : TypeId) : VS (w.alloc (.cells #[.int .i64 0] t)) (some ⟨w.heap.size, 0, none⟩) (nV [0]) := fun i v hv => by
  cases i with
  | zero => simp [nV] at hv; subst hv; exact ⟨w.heap.size, 0, rfl, by simp, by simp⟩
  | succ i => simp [nV] at hv

end Go.Proofs.YtefdipjhjgmokaaGreatDoor

set_option linter.unusedVariables false
set_option linter.unusedSimpArgs false
namespace Go.Proofs.YtefdipjhjgmokaaGreatDoor
open Go.RowKit

theorem Cs.at_st {c : Cs} {i : Nat} {a : Sr} (h : c.st[i]? = some a) : ∃ r, c.rs[i]? = some r ∧ r.st = a := by
  unfold Cs.st at h
  rw [List.getElem?_map] at h
  cases e : c.rs[i]? with
  | none => rw [e] at h; cases h
  | some r => rw [e] at h; injection h with h; exact ⟨r, rfl, h⟩
/-- a row of entries lies apart from Copies -/
def CAp (c : Cs) (A : Option Addr) : Prop := ∀ k, blk A = some k → ¬ c.F k
theorem EW.fr_ {F : Nat → Prop} {w w' : World} {B : Nat} {A : Option Addr} {n : Nat} {xs : List Em} (h : EW w B A n xs) (hf : Fr F w w') (ha : ∀ k, blk A = some k → ¬ F k) (o0 : Off F w 71) (o1 : Off F w 9) (o2 : Off F w 3) : EW w' B A n xs :=
  ⟨hf.own h.row fun k hk => ha k (ob hk), fun x hx => ⟨hf.own_ty (h.eo x hx).ops o0, ⟨hf.own_ty (h.eo x hx).map.cuts o1, hf.own_ty (h.eo x hx).map.own o2⟩⟩, h.bd⟩
theorem EW.cto {c c' : Cs} {w w' : World} {B B' n : Nat} {ct' : List (List (List Ent))} {st' : List Sr} {A : Option Addr} {xs : List Em} (h : EW w B' A n xs) (ho : c.Ok w B) (ht : c.To w B c' w' ct' st') (ha : CAp c A) : EW w' B' A n xs ∧ CAp c' A :=
  ⟨h.fr_ ht.fr ha ho.offO ho.offS ho.offI, fun k hk hF => (ht.F k hF).elim (ha k hk) fun e => by have := (World.ownsRow.lt h.row k (bo _ _ hk)).2; omega⟩
theorem CAp.fresh {c : Cs} {w w' : World} {B B' n : Nat} {A : Option Addr} {xs : List Em} (h : EW w' B' A n xs) (hs : c.Ok w B) (hB : w.heap.size ≤ B') : CAp c A := fun k hk hF => by
  have h1 := (World.ownsRow.lt h.row k (bo _ _ hk)).1
  have h2 := (hs.lo hF).2
  omega
theorem log_one {α : Type} (es : List α) : logM [[es, []]] = es := by simp [logM, logUp, rndM, cloL, roundL]
/-- while entries come in at the only input -/
structure AdH (w : World) (g : Nat) (A : Option Addr) (ce : Nat) (xs : List Em) (st : List Sr) (k : Nat) (c : Cs) (wr : World) : Prop where
  ok : c.Ok wr w.heap.size
  gg : c.s.g = g
  ct : c.s.ct = [[(xs.map entOf).take k]]
  st : c.st = st
  ew : EW wr w.heap.size A ce xs
  ap : CAp c A
  be : Below w.heap.size w wr
section
variable {w wr w' : World} {g ce k : Nat} {A : Option Addr} {xs : List Em} {st : List Sr} {c c' : Cs}
theorem AdH.below (h : AdH w g A ce xs st k c wr) (hb : Below wr.heap.size wr w') : AdH w g A ce xs st k c w' := ⟨h.ok.below hb, h.gg, h.ct, h.st, h.ew.below hb, h.ap, h.be.trans (hb.mono h.be.size)⟩
theorem AdH.next (h : AdH w g A ce xs st k c wr) (hk : k < xs.length) (T : c.To wr w.heap.size c' w' [[(xs.map entOf).take k ++ [entOf xs[k]]]] c.st) : AdH w g A ce xs st (k + 1) c' w' := by
  obtain ⟨h1, h2⟩ := h.ew.cto h.ok T h.ap
  refine ⟨T.ok, T.g.trans h.gg, ?_, T.st.trans h.st, h1, h2, T.below_ h.ok (Nat.le_refl _) h.be⟩
  rw [T.ct, List.take_succ_eq_append_getElem (by simpa using hk)]
  simp
end
/-- between steps, all entries in the log -/
structure StH (w : World) (g : Nat) (es : List Ent) (A : Option Addr) (ce : Nat) (xs : List Em) (st : List Sr) (c : Cs) (wr : World) : Prop where
  ok : c.Ok wr w.heap.size
  gg : c.s.g = g
  ct : logM c.s.ct = es
  st : c.st = st
  ew : EW wr w.heap.size A ce xs
  ap : CAp c A
  be : Below w.heap.size w wr
section
variable {w wr w' : World} {g ce : Nat} {es : List Ent} {A : Option Addr} {xs : List Em} {st st' : List Sr} {c c' : Cs}
theorem StH.below (h : StH w g es A ce xs st c wr) (hb : Below wr.heap.size wr w') : StH w g es A ce xs st c w' := ⟨h.ok.below hb, h.gg, h.ct, h.st, h.ew.below hb, h.ap, h.be.trans (hb.mono h.be.size)⟩
theorem StH.next (h : StH w g es A ce xs st c wr) (T : c.To wr w.heap.size c' w' c.s.ct st') : StH w g es A ce xs st' c' w' := by
  obtain ⟨h1, h2⟩ := h.ew.cto h.ok T h.ap
  exact ⟨T.ok, T.g.trans h.gg, by rw [T.ct]; exact h.ct, T.st, h1, h2, T.below_ h.ok (Nat.le_refl _) h.be⟩
theorem AdH.close {es : List Ent} (h : AdH w g A ce xs st xs.length c wr) (he : xs.map entOf = es) (T : c.To wr w.heap.size c' w' [[es, []]] c.st) : StH w g es A ce xs st c' w' := by
  obtain ⟨h1, h2⟩ := h.ew.cto h.ok T h.ap
  exact ⟨T.ok, T.g.trans h.gg, by rw [T.ct, log_one], T.st.trans h.st, h1, h2, T.below_ h.ok (Nat.le_refl _) h.be⟩
theorem StH.len {es : List Ent} (h : StH w g es A ce xs st c wr) : es.length ≤ 3600 := by
  have h2 := log_len c.s.ct
  have h3 := h.ok.ms.gm.cnt
  have h4 := h.ok.ms.gm.most
  rw [h.ct] at h2
  unfold Ms.ct at h2
  omega
end
/-- replicas in one state have one store -/
theorem Cs.Ok.same {c d : Cs} {w w' : World} {B B' i j : Nat} {r q : Rp} (h : c.Ok w B) (k : d.Ok w' B') (hr : c.rs[i]? = some r) (hq : d.rs[j]? = some q) (he : r.st = q.st) : r.l = q.l ∧ r.m.cs = q.m.cs ∧ r.m.os = q.m.os ∧ r.bs = q.bs :=
  ⟨(h.ro i r hr).pb.ok.ext (k.ro j q hq).pb.ok fun x => congrFun (congrArg Sr.v he) x, congrArg Sr.cs he, congrArg Sr.os he, congrArg Sr.bs he⟩
/-- one input -/
theorem close_one {α : Type} (es : List α) : closeC [[es]] 0 = [[es, []]] ∧ closeQ [[es]] 0 = 0 ∧ closeN [[es]] 0 = 1 := ⟨rfl, rfl, rfl⟩
theorem add_one (es : List Ent) (x : Ent) (hx : chkE x = 0) (hd : dropE x = x) (hl : es.length < 60) : addQ [[es]] 0 x = 0 ∧ addC [[es]] 0 x = [[es ++ [x]]] := by
  obtain ⟨h1, h2⟩ := addQ_ok (ct := [[es]]) (i := 0) (x := x) (by simp) hx (by simpa [totM] using hl)
  exact ⟨h1, by rw [show (0 : Int) = ((0 : Nat) : Int) from rfl, h2, hd]; rfl⟩
end Go.Proofs.YtefdipjhjgmokaaGreatDoor

set_option linter.unusedVariables false
set_option linter.unusedSimpArgs false
namespace Go.Proofs.YtefdipjhjgmokaaGreatDoor
open Go.RowKit

def entA : Ent := ⟨false, [⟨1, ⟨#[97]⟩, ByteArray.empty, 5⟩], [], []⟩
def srO : Sr := ⟨valOf [], [], [0], []⟩
theorem begun_chk : chkE entA = 0 := by decide +kernel
theorem begun_okm : OkM [] [0] := chkM_ok.1 (by decide +kernel)
theorem begun_okl : Ok [((⟨#[97]⟩ : ByteArray), (5 : Int))] := chk_ok.1 (by decide +kernel)
theorem begun_run : doneV (valOf []) [⟨1, ⟨#[97]⟩, ByteArray.empty, 5⟩] = (valOf [((⟨#[97]⟩ : ByteArray), (5 : Int))], true) := by
  have h : runV (valOf []) [⟨1, ⟨#[97]⟩, ByteArray.empty, 5⟩] = some (upd (valOf []) ⟨#[97]⟩ 5) := rfl
  rw [doneV_some h]
  congr 1
  funext k
  by_cases e : k = ⟨#[97]⟩
  · subst e
    rw [valOf_mem begun_okl.srt (p := ((⟨#[97]⟩ : ByteArray), (5 : Int))) (by simp)]
    simp [upd]
  · rw [valOf_none (l := [((⟨#[97]⟩ : ByteArray), (5 : Int))]) fun p hp e2 => by simp at hp; rw [hp] at e2; exact e e2.symm]
    simp [upd, e, valOf_nil]
set_option maxHeartbeats 1000000 in
set_option maxRecDepth 100000 in
theorem cbegun_any (w : World) : Calls Tryz.prog 22 #[] w fun e w' => e = .returned (.bool true) ∧ Below w.heap.size w w' := by
  have b0 := (Below.refl w.heap.size w).alloc (Nat.le_refl _) (.cells #[.int .i64 0] 3)
  have x0 := Box.new w 3 #[.int .i64 0]
  have HB0 := hideP b0.size
  have hm : MS (w.alloc (.cells #[.int .i64 0] 3)) ⟨none, 0, [], some ⟨w.heap.size, 0, none⟩, 1, [0]⟩ :=
    ⟨VS.nil, VS.is_int (l := [0]) (VS.of_box x0), by simp, by simp, by simp [maxLen], by simp [maxLen], (fun _ => rfl), (fun e => by cases e)⟩
  have HN := hideP (cnew_ok 1 2 _ none 0 [] _ (by decide) (by decide) (by decide) (by decide) hm PS.nil begun_okm Ok.nil)
  simp only [List.length_nil, List.length_singleton] at HN
  clear hm x0
  go_enter Tryz.func22, Tryz.ntmps22
  go_wp2_with fail
  refine HN.out.mono ?_
  clear HN
  rintro e w2 ⟨c, rfl, hok, hct, hst, hb2⟩
  have b2 := b0.trans (hb2.mono b0.size)
  have al := (Below.refl w2.heap.size w2).alloc (Nat.le_refl _) (.cells #[.int .i64 1, .string ⟨#[97]⟩, .string ByteArray.empty, .int .i64 5] 71)
  have hx : ES (w2.alloc (.cells #[.int .i64 1, .string ⟨#[97]⟩, .string ByteArray.empty, .int .i64 5] 71)) ⟨some ⟨w2.heap.size, 0, none⟩, 1, [⟨1, ⟨#[97]⟩, ByteArray.empty, 5⟩], false, noM⟩ :=
    ⟨OS.lit1 w2 _ ⟨1, ⟨#[97]⟩, ByteArray.empty, 5⟩ 71 rfl _ rfl, (noM_mo w2 0).ms.below al, by simp⟩
  have HA := hideP (cadd_any c _ 0 _ _ (hok.below al) hx)
  rw [hct] at HA
  obtain ⟨e1, e2⟩ := add_one [] entA begun_chk rfl (by simp)
  rw [show List.replicate 1 [([] : List Ent)] = [[[]]] from rfl, show entOf ⟨some ⟨w2.heap.size, 0, none⟩, 1, [⟨1, ⟨#[97]⟩, ByteArray.empty, 5⟩], false, noM⟩ = entA from rfl, e1, e2] at HA
  have b3 := b2.trans (al.mono b2.size)
  have hok3 := hok.below al
  unfold emV emC noM at HA
  simp only [List.length_nil, List.length_singleton] at HA
  clear hok hb2 b0 al hx e1 e2 b2
  go_wp2_with fail
  refine HA.out.mono ?_
  clear HA
  rintro e w4 ⟨c4, rfl, T4⟩
  have b4 := T4.below_ hok3 HB0.out b3
  have hg4 := T4.g
  have HC := hideP (cclose_any c4 _ 0 _ T4.ok)
  obtain ⟨f1, f2, f3⟩ := close_one [entA]
  rw [T4.ct, show ([] : List Ent) ++ [entA] = [entA] from rfl, f1, f2, f3, hg4] at HC
  go_wp2_with fail
  refine HC.out.mono ?_
  clear HC
  rintro e w5 ⟨c5, rfl, T5⟩
  have b5 := T5.below_ T4.ok HB0.out b4
  have hg5 := T5.g.trans hg4
  have HS := hideP (cstep_any c5 _ 1 _ T5.ok)
  have hst5 : c5.st = [srO, srO] := by rw [T5.st, T4.st, hst]; rfl
  rw [T5.ct, log_one, hst5] at HS
  obtain ⟨q1, q2, q3⟩ := cp_go (log := [entA]) (st := [srO, srO]) (i := 1) (r := srO) (x := entA) rfl rfl
  rw [show ((1 : Nat) : Int) = 1 from rfl] at q1 q2 q3
  rw [q1, q2, q3, hg5, show doneE srO.v entA = true from congrArg Prod.snd begun_run] at HS
  go_wp2_with fail
  refine HS.out.mono ?_
  clear HS
  rintro e w6 ⟨c6, rfl, T6⟩
  have b6 := T6.below_ T5.ok HB0.out b5
  have hg6 := T6.g.trans hg5
  obtain ⟨r, hr, hrs⟩ := Cs.at_st (c := c6) (i := 1) (a := stepR srO entA) (by rw [T6.st]; rfl)
  have hrl : r.l = [((⟨#[97]⟩ : ByteArray), (5 : Int))] := (T6.ok.ro 1 r hr).pb.ok.ext begun_okl fun k => by
    have h1 : valOf r.l = (doneV (valOf []) [⟨1, ⟨#[97]⟩, ByteArray.empty, 5⟩]).1 := congrArg Sr.v hrs
    rw [h1, begun_run]
  have HL := hideP (call_any c6 _ 1 r _ T6.ok hr)
  rw [hg6, hrl] at HL
  simp only [List.length_singleton] at HL
  clear hrl hrs hr T6 T5 T4 hst5 q1 q2 q3 f1 f2 f3 hg4 hg5 hg6 hok3 b5 b4 hct hst
  go_wp2_with fail
  refine HL.out.mono ?_
  rintro e w7 ⟨A, cp, rfl, _, hb7⟩
  have b7 := b6.trans (hb7.mono b6.size)
  clear HL b6
  go_wp2_with fail
  go_ret
  exact ⟨rfl, b7⟩
end Go.Proofs.YtefdipjhjgmokaaGreatDoor

set_option linter.unusedVariables false
set_option linter.unusedSimpArgs false
namespace Go.Proofs.YtefdipjhjgmokaaGreatDoor
open Go.RowKit

theorem sum_le1 {β : Type} (l : List β) (f g : β → Nat) (h : ∀ x ∈ l, f x ≤ g x) : (l.map f).sum ≤ (l.map g).sum := by
  induction l with
  | nil => exact Nat.le_refl _
  | cons a l ih =>
    have h1 := h a (by simp)
    have h2 := ih fun x hx => h x (by simp [hx])
    simp; omega
theorem log_len1 {α : Type} (ct : List (List (List α))) : (logM ct).length ≤ 60 * totM ct := by
  have h : ∀ R, (logUp ct R).length ≤ R * totM ct := fun R => by
    induction R with
    | zero => simp [logUp]
    | succ R ih =>
      rw [logUp_succ, List.length_append, Nat.succ_mul]
      have : (roundL ct R).length ≤ totM ct := by
        unfold roundL totM
        rw [List.length_flatten, List.map_map]
        refine sum_le1 ct _ _ fun b _ => ?_
        simp only [Function.comp_apply]
        cases e : b[R]? with
        | none => simp
        | some l => exact mem_sum (List.mem_map_of_mem (List.mem_of_getElem? e))
      omega
  exact Nat.le_trans (h _) (Nat.mul_le_mul_right _ (rnd_60 ct))
theorem log_fewM {s : Ms} {w : World} {B : Nat} {ct : List (List (List Ent))} (h : s.Ok w B) (hc : s.ct = ct) {xs : List Em} (he : xs.map entOf = logM ct) : ∀ x ∈ xs, x.d.length < 4611686018427387904 := fun x hx => by
  have h1 : entOf x ∈ logM s.ct := by rw [hc, ← he]; exact List.mem_map_of_mem hx
  unfold logM logUp at h1
  obtain ⟨l, hl, h1⟩ := List.mem_flatten.1 h1
  obtain ⟨r, _, rfl⟩ := List.mem_map.1 hl
  unfold roundL at h1
  obtain ⟨l, hl, h1⟩ := List.mem_flatten.1 h1
  obtain ⟨b, hb, rfl⟩ := List.mem_map.1 hl
  cases e2 : b[r]? with
  | none => rw [e2] at h1; simp at h1
  | some l =>
    rw [e2] at h1
    obtain ⟨xi, hxi, rfl⟩ := List.mem_map.1 hb
    have hlm := List.mem_of_getElem? e2
    obtain ⟨t, ht, rfl⟩ := List.mem_map.1 hlm
    obtain ⟨y, hy, hye⟩ := List.mem_map.1 h1
    obtain ⟨i, hi⟩ := List.mem_iff_getElem?.1 hxi
    obtain ⟨k, hk⟩ := List.mem_iff_getElem?.1 ht
    obtain ⟨c1, c2⟩ := h.mg.good i xi k t hi hk y hy
    rw [hye] at c1 c2
    obtain ⟨D, c, d, isM, m⟩ := x
    cases isM
    · have := (chkD_zero.1 (show chkD d = 0 from c1)).2.1
      simp only; omega
    · have : ([] : List Opr) = d := congrArg Ent.d c2
      simp only; rw [← this]; simp
end Go.Proofs.YtefdipjhjgmokaaGreatDoor

set_option linter.unusedVariables false
set_option linter.unusedSimpArgs false
namespace Go.Proofs.YtefdipjhjgmokaaGreatDoor
open Go.RowKit

/-- the blocks of a row of entries, and of the entries' own rows -/
def rB (A : Option Addr) (xs : List Em) (k : Nat) : Prop := blk A = some k ∨ ∃ x ∈ xs, eB x k
theorem EW.rB_lt {w : World} {B : Nat} {A : Option Addr} {c : Nat} {xs : List Em} (h : EW w B A c xs) {k : Nat} (hk : rB A xs k) : k < w.heap.size := by
  rcases hk with hk | ⟨x, hx, hk⟩
  · exact (World.ownsRow.lt h.row k (bo _ _ hk)).2
  · exact ((h.we hx).lo hk).2.1
/-- other blocks change: the entries stay -/
theorem EW.fr_B {F : Nat → Prop} {w w' : World} {B : Nat} {A : Option Addr} {c : Nat} {xs : List Em} (h : EW w B A c xs) (hf : Fr F w w') (hn : ∀ q, rB A xs q → ¬ F q) : EW w' B A c xs :=
  ⟨hf.own h.row fun k hk => hn k (.inl (ob hk)), fun x hx => ⟨hf.own (h.eo x hx).ops fun k hk => hn k (.inr ⟨x, hx, .inl (ob hk)⟩), ⟨hf.own (h.eo x hx).map.cuts fun k hk => hn k (.inr ⟨x, hx, .inr (.inl (ob hk))⟩), hf.own (h.eo x hx).map.own fun k hk => hn k (.inr ⟨x, hx, .inr (.inr (ob hk))⟩)⟩⟩, h.bd⟩
/-- a Merge and Copies, and the entries -/
structure LoH (w : World) (g gc : Nat) (A : Option Addr) (ce : Nat) (xs : List Em) (ct ca : List (List (List Ent))) (st : List Sr) (s : Ms) (c : Cs) (wr : World) : Prop where
  so : s.Ok wr w.heap.size
  co : c.Ok wr w.heap.size
  sg : s.g = g
  cg : c.s.g = gc
  sct : s.ct = ct
  cct : c.s.ct = ca
  st : c.st = st
  ap : ∀ q, s.F q → ¬ c.F q
  ew : EW wr w.heap.size A ce xs
  sa : Apa s A
  ca : CAp c A
  be : Below w.heap.size w wr
/-- what is theirs -/
def Occ (s : Ms) (c : Cs) (A : Option Addr) (xs : List Em) (q : Nat) : Prop := s.F q ∨ s.O q ∨ c.F q ∨ c.O q ∨ rB A xs q
section
variable {w wr w' : World} {g gc ce : Nat} {A : Option Addr} {xs : List Em} {ct ca ct' : List (List (List Ent))} {st st' : List Sr} {s s' : Ms} {c c' : Cs}
theorem LoH.below (h : LoH w g gc A ce xs ct ca st s c wr) (hb : Below wr.heap.size wr w') : LoH w g gc A ce xs ct ca st s c w' :=
  ⟨h.so.below hb, h.co.below hb, h.sg, h.cg, h.sct, h.cct, h.st, h.ap, h.ew.below hb, h.sa, h.ca, h.be.trans (hb.mono h.be.size)⟩
theorem LoH.occ_lt (h : LoH w g gc A ce xs ct ca st s c wr) {q : Nat} (hq : Occ s c A xs q) : q < wr.heap.size := by
  rcases hq with hq | hq | hq | hq | hq
  · exact (h.so.lo hq).2
  · exact (h.so.O_ty hq).2
  · exact (h.co.lo hq).2
  · exact h.co.O_lt hq
  · exact h.ew.rB_lt hq
theorem LoH.s_ (h : LoH w g gc A ce xs ct ca st s c wr) (T : s.To wr w.heap.size s' w' ct') : LoH w g gc A ce xs ct' ca st s' c w' := by
  obtain ⟨h1, h2⟩ := h.ew.to_ h.so T h.sa
  exact ⟨T.ok, h.co.fr T.fr (fun q hc hs => h.ap q hs hc) (h.so.off (by decide) (by decide) (by decide) (by decide) (by decide)) (h.so.off (by decide) (by decide) (by decide) (by decide) (by decide)) (h.so.off (by decide) (by decide) (by decide) (by decide) (by decide)) (h.so.off (by decide) (by decide) (by decide) (by decide) (by decide)),
    T.g.trans h.sg, h.cg, T.ct, h.cct, h.st, fun q hs hc => (T.F q hs).elim (fun e => h.ap q e hc) fun e => by have := (h.co.lo hc).2; omega, h1, h2, h.ca, T.below_ h.so (Nat.le_refl _) h.be⟩
theorem LoH.c_ (h : LoH w g gc A ce xs ct ca st s c wr) (T : c.To wr w.heap.size c' w' ct' st') : LoH w g gc A ce xs ct ct' st' s c' w' := by
  obtain ⟨h1, h2⟩ := h.ew.cto h.co T h.ca
  exact ⟨h.so.fr T.fr (fun q hs hc => h.ap q hs hc) h.co.offO h.co.offS h.co.offI, T.ok, h.sg, T.g.trans h.cg, h.sct, T.ct, T.st, fun q hs hc => (T.F q hc).elim (fun e => h.ap q hs e) fun e => by have := (h.so.lo hs).2; omega, h1, h.sa, h2, T.below_ h.co (Nat.le_refl _) h.be⟩
/-- rows of another entry are written -/
theorem LoH.w_ {y : Em} {B : Nat} (h : LoH w g gc A ce xs ct ca st s c wr) (hy : WE wr B y) (hB : w.heap.size ≤ B) (hf : Fr (eB y) wr w') (hn : ∀ q, eB y q → ¬ Occ s c A xs q) : LoH w g gc A ce xs ct ca st s c w' :=
  ⟨h.so.fr_ hf (fun q hq hy => hn q hy (.inl hq)) (fun q hq hy => hn q hy (.inr (.inl hq))), h.co.fr_ hf (fun q hq hy => hn q hy (.inr (.inr (.inl hq)))) (fun q hq hy => hn q hy (.inr (.inr (.inr (.inl hq))))) (fun k hk _ => by
      rcases (hy.lo hk).2.2 with e | e | e
      · exact ⟨_, e, by decide⟩
      · exact ⟨_, e, by decide⟩
      · exact ⟨_, e, by decide⟩),
    h.sg, h.cg, h.sct, h.cct, h.st, h.ap, h.ew.fr_B hf fun q hq hy => hn q hy (.inr (.inr (.inr (.inr hq)))), h.sa, h.ca, hf.below (fun k hk => Nat.le_trans hB (hy.lo hk).1) h.be.size h.be⟩
/-- what is theirs after a step was theirs, or is new -/
theorem occ_s {q : Nat} (T : s.To wr w.heap.size s' w' ct') (hn : ¬ Occ s c A xs q) (hq : q < wr.heap.size) : ¬ Occ s' c A xs q := by
  rintro (h | h | h)
  · exact (T.F q h).elim (fun e => hn (.inl e)) fun e => by omega
  · exact (T.O q h).elim (fun e => hn (.inr (.inl e))) fun e => by omega
  · exact hn (.inr (.inr h))
theorem occ_c {q : Nat} (T : c.To wr w.heap.size c' w' ct' st') (hn : ¬ Occ s c A xs q) (hq : q < wr.heap.size) : ¬ Occ s c' A xs q := by
  rintro (h | h | h | h | h)
  · exact hn (.inl h)
  · exact hn (.inr (.inl h))
  · exact (T.F q h).elim (fun e => hn (.inr (.inr (.inl e)))) fun e => by omega
  · exact (T.O q h).elim (fun e => hn (.inr (.inr (.inr (.inl e))))) fun e => by omega
  · exact hn (.inr (.inr (.inr (.inr h))))
end
end Go.Proofs.YtefdipjhjgmokaaGreatDoor

set_option linter.unusedVariables false
set_option linter.unusedSimpArgs false
namespace Go.Proofs.YtefdipjhjgmokaaGreatDoor
open Go.RowKit

/-- what Within answers -/
def wi (k : Int) (n : Nat) : Nat := ((IntKind.u64.wrap k).tmod n).toNat
theorem wrap_u64_nonneg (k : Int) : 0 ≤ IntKind.u64.wrap k := by simp [IntKind.wrap_u64]; omega
theorem wi_lt (k : Int) (n : Nat) (h : 1 ≤ n) : wi k n < n := by
  have h0 := wrap_u64_nonneg k
  unfold wi
  have := Int.tmod_lt_of_pos (IntKind.u64.wrap k) (show (0 : Int) < n by omega)
  omega
theorem wi_eq (k : Int) (n : Nat) (h : 1 ≤ n) (h2 : n ≤ 1000000) : wrap64 ((IntKind.u64.wrap k).tmod (n : Int)) = (wi k n : Int) := by
  have h0 := wrap_u64_nonneg k
  have h1 := Int.tmod_lt_of_pos (IntKind.u64.wrap k) (show (0 : Int) < n by omega)
  have h3 := Int.tmod_nonneg (n : Int) h0
  unfold wi wrap64
  omega
end Go.Proofs.YtefdipjhjgmokaaGreatDoor
