/-
  copies.New.
  Literals in memory (no body of the program in it).
  What the laws over Copies have in common; rokeep.copiesBegun.
  A number within bounds, plainly (no program in it).
  What rokeep.Map makes, plainly (no program in it).
  rokeep.Within.
-/
import Derived.Test.YtefdipjhjgmokaaGreatDoorBw12
import Derived.Test.YtefdipjhjgmokaaGreatDoorBw24
import Derived.Test.YtefdipjhjgmokaaGreatDoorBw23
import Derived.Test.YtefdipjhjgmokaaGreatDoorBw1
import Derived.WalkKit
import Derived.WalkSpells
import Derived.Test.YtefdipjhjgmokaaGreatDoorProg
import Derived.WalkLawsBesides
set_option linter.unusedVariables false
set_option linter.unusedSimpArgs false
namespace Go.Proofs.YtefdipjhjgmokaaGreatDoor
open Go.RowKit

/-- Copies are handed back -/
def RetNc (w : World) (inputs n : Nat) (cs : List ByteArray) (os : List Int) (l : List Pr) (e : Ending) (w' : World) : Prop :=
  ∃ c : Cs, e = .returned (.tuple #[.pointer (some ⟨c.s.g, 0, none⟩), .int .i64 0]) ∧ c.Ok w' w.heap.size ∧ c.s.ct = List.replicate inputs [[]] ∧ c.st = List.replicate n ⟨valOf l, cs, os, []⟩ ∧ Below w.heap.size w w'
/-- while replicas are made -/
structure NcH (w : World) (g gm k inputs : Nat) (m : Mp) (A : Option Addr) (l : List Pr) (c : Cs) (wr : World) : Prop where
  ok : c.Ok wr w.heap.size
  gg : c.s.g = g
  ct : c.s.ct = List.replicate inputs [[]]
  st : c.st = List.replicate k ⟨valOf l, m.cs, m.os, []⟩
  x0 : Box wr gm 34 #[.slice m.A m.cs.length m.ca, .slice m.O m.os.length m.co]
  be : Below w.heap.size w wr
  lo : w.heap.size ≤ gm
def NcI (w : World) (g gm n inputs : Nat) (m : Mp) (A : Option Addr) (l : List Pr) (i : Value) (wr : World) : Prop := ∃ (k : Nat) (c : Cs), k ≤ n ∧ i = .int .i64 k ∧ NcH w g gm k inputs m A l c wr
set_option maxHeartbeats 2000000 in
set_option maxRecDepth 100000 in
theorem cnew_ok (inputs n : Nat) (m : Mp) (A : Option Addr) (cp : Nat) (l : List Pr) (w : World) (h1 : 1 ≤ inputs) (h2 : inputs ≤ 4) (h3 : 1 ≤ n) (h4 : n ≤ 4) (hm : MS w m) (hA : PS w w.heap.size A l) (hok : OkM m.cs m.os) (hokl : Ok l) :
    Calls Tryz.prog 10 #[.int .i64 (inputs : Int), .int .i64 (n : Int), .agg #[.slice m.A m.cs.length m.ca, .slice m.O m.os.length m.co], .slice A l.length cp] w (RetNc w inputs n m.cs m.os l) := by
  have b0 := (Below.refl w.heap.size w).alloc (Nat.le_refl _) (.cells #[.slice m.A m.cs.length m.ca, .slice m.O m.os.length m.co] 34)
  have x0 := Box.new w 34 #[.slice m.A m.cs.length m.ca, .slice m.O m.os.length m.co]
  have g1 : ¬ (n : Int) < 1 := by omega
  have g2 : ¬ (4 : Int) < (n : Int) := by omega
  have d1 : decide ((n : Int) < 1) = false := decide_eq_false g1
  have HN := hideP (fun (W : World) => mnew_ok inputs W h1 h2)
  have HPN := hideP (fun (W : World) (h1 : MS W m) (h2 : PS W W.heap.size A l) => new_ok m A cp l W h1 h2 hok hokl)
  have HMS := hideP (fun (W : World) (hb : Below w.heap.size w W) => show MS W m ∧ PS W W.heap.size A l from ⟨hm.below hb, (hA.below hb).more hb.size⟩)
  have HN4 := hideP h4
  clear hm hA hok hokl h1 h2 h3
  go_enter Tryz.func10, Tryz.ntmps10
  go_wp2_with fail
  generalize w.alloc _ = w1 at b0 x0 ⊢
  generalize hgm : w.heap.size = gm at x0 ⊢
  refine (HN.out w1).mono ?_
  clear HN
  rintro e w2 ⟨s, rfl, hsx, hs, hct, hb2⟩
  have c0 := hs.mg.c0
  have c1 := hs.mg.c1
  have hs2 := hs.mono b0.size
  have b2 := b0.trans (hb2.mono b0.size)
  have hem := hs2.embed
  have al := (Below.refl w2.heap.size w2).alloc (Nat.le_refl _) (.cells #[.slice s.AI s.ins.length s.cI, .int .i64 (s.added : Int), .slice none 0 0] 51)
  have hH : NcI w w2.heap.size gm n inputs m A l (.int .i64 0) (w2.alloc (.cells #[.slice s.AI s.ins.length s.cI, .int .i64 (s.added : Int), .slice none 0 0] 51)) :=
    ⟨0, _, Nat.zero_le _, rfl, hem, rfl, hct, rfl, (x0.below hb2).below al, b2.trans (al.mono b2.size), by omega⟩
  clear hs hs2 hct hsx hem x0 b0 b2 hb2 al
  go_wp2_with fail
  generalize w2.heap.size = g at hH ⊢
  generalize w2.alloc _ = w3 at hH ⊢
  go_wp2_with fail
  go_loopw [35] (NcI w g gm n inputs m A l) (fun i _ => n - (intOf i).toNat)
  case atStart => exact hH
  case round =>
    clear hH c0 c1
    obtain ⟨k, c, hk, rfl, h⟩ := hrel
    by_cases hlt : k < n
    · have z1 := h.x0.cell 0 (v := .slice m.A m.cs.length m.ca) rfl
      have z2 := h.x0.cell 1 (v := .slice m.O m.os.length m.co) rfl
      have g3 : (k : Int) < (n : Int) := by omega
      have HP := hideP (HPN.out wr (HMS.out wr h.be).1 (HMS.out wr h.be).2)
      go_wp2_with fail
      refine HP.out.mono ?_
      clear HP
      rintro e w4 ⟨g', A', ca', O', co', q, rfl, hp, hb4⟩
      have hcl : c.rs.length = k := by have := congrArg List.length h.st; simpa [Cs.st] using this
      have hng : ∀ (j : Nat) (z : Rp), c.rs[j]? = some z → g' ≠ z.g := fun j z hz e => by
        have e1 := (h.ok.ro j z hz).pb.box.lt
        have e2 := hp.low
        omega
      have hok4 := h.ok.below hb4
      obtain ⟨A2, c2, w5, hrun, k0, k1, hok5, hfr⟩ := hok4.grow ⟨g', ⟨A', ca', m.cs, O', co', m.os⟩, l, q, none, 0, []⟩ ⟨hp.mono h.ok.size, OR.nil _ _ _⟩ rfl (by have := HN4.out; omega) hng rfl 49
      have c2' := hok4.c2
      have b4 := h.be.trans (hb4.mono h.be.size)
      have HX := hideP (fun (i : Value) (hi : i = .int .i64 ((k + 1 : Nat) : Int)) => show NcI w g gm n inputs m A l i (w5.setCell ⟨c.s.g, 2, none⟩ (.slice A2 (c.rs ++ [(⟨g', ⟨A', ca', m.cs, O', co', m.os⟩, l, q, none, 0, []⟩ : Rp)]).length c2)) from
        ⟨k + 1, _, hlt, hi, hok5, h.gg, h.ct, by
          show List.map Rp.st (c.rs ++ [_]) = _
          rw [List.map_append, show List.map Rp.st c.rs = List.replicate k _ from h.st, List.replicate_succ']
          rfl, hfr.box_ty (h.x0.below hb4) (hok4.off (by decide) (by decide) (by decide) (by decide) (by decide) (by decide) (by decide)), hfr.below (fun k hk => (hok4.lo hk).1) hok4.size b4, h.lo⟩)
      rw [h.gg] at k0 k1 c2' HX
      have HR := hideP hrun
      clear hrun h hok4 hok5 hfr hp hng b4 hb4 z1 z2 hcl
      generalize (c.rs ++ [(⟨g', ⟨A', ca', m.cs, O', co', m.os⟩, l, q, none, 0, []⟩ : Rp)]).length = n2 at HR HX
      simp only [List.length_nil] at HR
      go_wp2_with (at_builtin; refine Lib.wpList_append_run _ rfl _ _ _ _ rfl _ _ rfl rfl _ _ HR.out ?_)
      go_roundw
      case rel => exact HX.out _ (by go_num)
      case measure => simp [intOf]; omega
    · obtain rfl : k = n := by omega
      have HF := hideP (show RetNc w inputs k m.cs m.os l (.returned (.tuple #[.pointer (some ⟨g, 0, none⟩), .int .i64 0])) wr from ⟨c, by rw [h.gg], h.ok, h.ct, h.st, h.be⟩)
      clear h
      go_wp2_with fail
      go_ret2
      exact HF.out
end Go.Proofs.YtefdipjhjgmokaaGreatDoor

set_option linter.unusedVariables false
set_option linter.unusedSimpArgs false
namespace Go.Proofs.YtefdipjhjgmokaaGreatDoor
open Go.RowKit

theorem OS.lit1 (w W : World) (o : Opr) (t : TypeId) (hW : W = w.alloc (.cells #[.int .i64 o.kind, .string o.key, .string o.src, .int .i64 o.n] t)) (g : Nat) (hg : g = w.heap.size) : OS W W.heap.size (some ⟨g, 0, none⟩) [o] := by
  subst hW; subst hg
  intro i p hp
  cases i with
  | zero => simp at hp; subst hp; exact ⟨w.heap.size, 0, rfl, by simp, by simp, by simp, by simp, by simp⟩
  | succ i => simp at hp
theorem VS.lit0 (w : World) (t : TypeId) : VS (w.alloc (.cells #[.int .i64 0] t)) (some ⟨w.heap.size, 0, none⟩) (nV [0]) := fun i v hv => by
  cases i with
  | zero => simp [nV] at hv; subst hv; exact ⟨w.heap.size, 0, rfl, by simp, by simp⟩
  | succ i => simp [nV] at hv

end Go.Proofs.YtefdipjhjgmokaaGreatDoor

set_option linter.unusedVariables false
set_option linter.unusedSimpArgs false
namespace Go.Proofs.YtefdipjhjgmokaaGreatDoor
open Go.RowKit

theorem Cs.at_st {c : Cs} {i : Nat} {a : Sr} (h : c.st[i]? = some a) : ∃ r, c.rs[i]? = some r ∧ r.st = a := by
  unfold Cs.st at h
  rw [List.getElem?_map] at h
  cases e : c.rs[i]? with
  | none => rw [e] at h; cases h
  | some r => rw [e] at h; injection h with h; exact ⟨r, rfl, h⟩
/-- a row of entries lies apart from Copies -/
def CAp (c : Cs) (A : Option Addr) : Prop := ∀ k, blk A = some k → ¬ c.F k
theorem EW.fr_ {F : Nat → Prop} {w w' : World} {B : Nat} {A : Option Addr} {n : Nat} {xs : List Em} (h : EW w B A n xs) (hf : Fr F w w') (ha : ∀ k, blk A = some k → ¬ F k) (o0 : Off F w 71) (o1 : Off F w 9) (o2 : Off F w 3) : EW w' B A n xs :=
  ⟨hf.own h.row fun k hk => ha k (ob hk), fun x hx => ⟨hf.own_ty (h.eo x hx).ops o0, ⟨hf.own_ty (h.eo x hx).map.cuts o1, hf.own_ty (h.eo x hx).map.own o2⟩⟩, h.bd⟩
theorem EW.cto {c c' : Cs} {w w' : World} {B B' n : Nat} {ct' : List (List (List Ent))} {st' : List Sr} {A : Option Addr} {xs : List Em} (h : EW w B' A n xs) (ho : c.Ok w B) (ht : c.To w B c' w' ct' st') (ha : CAp c A) : EW w' B' A n xs ∧ CAp c' A :=
  ⟨h.fr_ ht.fr ha ho.offO ho.offS ho.offI, fun k hk hF => (ht.F k hF).elim (ha k hk) fun e => by have := (World.ownsRow.lt h.row k (bo _ _ hk)).2; omega⟩
theorem CAp.fresh {c : Cs} {w w' : World} {B B' n : Nat} {A : Option Addr} {xs : List Em} (h : EW w' B' A n xs) (hs : c.Ok w B) (hB : w.heap.size ≤ B') : CAp c A := fun k hk hF => by
  have h1 := (World.ownsRow.lt h.row k (bo _ _ hk)).1
  have h2 := (hs.lo hF).2
  omega
theorem log_one {α : Type} (es : List α) : logM [[es, []]] = es := by simp [logM, logUp, rndM, cloL, roundL]
/-- while entries come in at the only input -/
structure AdH (w : World) (g : Nat) (A : Option Addr) (ce : Nat) (xs : List Em) (st : List Sr) (k : Nat) (c : Cs) (wr : World) : Prop where
  ok : c.Ok wr w.heap.size
  gg : c.s.g = g
  ct : c.s.ct = [[(xs.map entOf).take k]]
  st : c.st = st
  ew : EW wr w.heap.size A ce xs
  ap : CAp c A
  be : Below w.heap.size w wr
section
variable {w wr w' : World} {g ce k : Nat} {A : Option Addr} {xs : List Em} {st : List Sr} {c c' : Cs}
theorem AdH.below (h : AdH w g A ce xs st k c wr) (hb : Below wr.heap.size wr w') : AdH w g A ce xs st k c w' := ⟨h.ok.below hb, h.gg, h.ct, h.st, h.ew.below hb, h.ap, h.be.trans (hb.mono h.be.size)⟩
theorem AdH.next (h : AdH w g A ce xs st k c wr) (hk : k < xs.length) (T : c.To wr w.heap.size c' w' [[(xs.map entOf).take k ++ [entOf xs[k]]]] c.st) : AdH w g A ce xs st (k + 1) c' w' := by
  obtain ⟨h1, h2⟩ := h.ew.cto h.ok T h.ap
  refine ⟨T.ok, T.g.trans h.gg, ?_, T.st.trans h.st, h1, h2, T.below_ h.ok (Nat.le_refl _) h.be⟩
  rw [T.ct, List.take_succ_eq_append_getElem (by simpa using hk)]
  simp
end
/-- between steps, all entries in the log -/
structure StH (w : World) (g : Nat) (es : List Ent) (A : Option Addr) (ce : Nat) (xs : List Em) (st : List Sr) (c : Cs) (wr : World) : Prop where
  ok : c.Ok wr w.heap.size
  gg : c.s.g = g
  ct : logM c.s.ct = es
  st : c.st = st
  ew : EW wr w.heap.size A ce xs
  ap : CAp c A
  be : Below w.heap.size w wr
section
variable {w wr w' : World} {g ce : Nat} {es : List Ent} {A : Option Addr} {xs : List Em} {st st' : List Sr} {c c' : Cs}
theorem StH.below (h : StH w g es A ce xs st c wr) (hb : Below wr.heap.size wr w') : StH w g es A ce xs st c w' := ⟨h.ok.below hb, h.gg, h.ct, h.st, h.ew.below hb, h.ap, h.be.trans (hb.mono h.be.size)⟩
theorem StH.next (h : StH w g es A ce xs st c wr) (T : c.To wr w.heap.size c' w' c.s.ct st') : StH w g es A ce xs st' c' w' := by
  obtain ⟨h1, h2⟩ := h.ew.cto h.ok T h.ap
  exact ⟨T.ok, T.g.trans h.gg, by rw [T.ct]; exact h.ct, T.st, h1, h2, T.below_ h.ok (Nat.le_refl _) h.be⟩
theorem AdH.close {es : List Ent} (h : AdH w g A ce xs st xs.length c wr) (he : xs.map entOf = es) (T : c.To wr w.heap.size c' w' [[es, []]] c.st) : StH w g es A ce xs st c' w' := by
  obtain ⟨h1, h2⟩ := h.ew.cto h.ok T h.ap
  exact ⟨T.ok, T.g.trans h.gg, by rw [T.ct, log_one], T.st.trans h.st, h1, h2, T.below_ h.ok (Nat.le_refl _) h.be⟩
theorem StH.len {es : List Ent} (h : StH w g es A ce xs st c wr) : es.length ≤ 3600 := by
  have h2 := log_len c.s.ct
  have h3 := h.ok.ms.gm.cnt
  have h4 := h.ok.ms.gm.most
  rw [h.ct] at h2
  unfold Ms.ct at h2
  omega
end
/-- replicas in one state have one store -/
theorem Cs.Ok.same {c d : Cs} {w w' : World} {B B' i j : Nat} {r q : Rp} (h : c.Ok w B) (k : d.Ok w' B') (hr : c.rs[i]? = some r) (hq : d.rs[j]? = some q) (he : r.st = q.st) : r.l = q.l ∧ r.m.cs = q.m.cs ∧ r.m.os = q.m.os ∧ r.bs = q.bs :=
  ⟨(h.ro i r hr).pb.ok.ext (k.ro j q hq).pb.ok fun x => congrFun (congrArg Sr.v he) x, congrArg Sr.cs he, congrArg Sr.os he, congrArg Sr.bs he⟩
/-- one input -/
theorem close_one {α : Type} (es : List α) : closeC [[es]] 0 = [[es, []]] ∧ closeQ [[es]] 0 = 0 ∧ closeN [[es]] 0 = 1 := ⟨rfl, rfl, rfl⟩
theorem add_one (es : List Ent) (x : Ent) (hx : chkE x = 0) (hd : dropE x = x) (hl : es.length < 60) : addQ [[es]] 0 x = 0 ∧ addC [[es]] 0 x = [[es ++ [x]]] := by
  obtain ⟨h1, h2⟩ := addQ_ok (ct := [[es]]) (i := 0) (x := x) (by simp) hx (by simpa [totM] using hl)
  exact ⟨h1, by rw [show (0 : Int) = ((0 : Nat) : Int) from rfl, h2, hd]; rfl⟩
end Go.Proofs.YtefdipjhjgmokaaGreatDoor

set_option linter.unusedVariables false
set_option linter.unusedSimpArgs false
namespace Go.Proofs.YtefdipjhjgmokaaGreatDoor
open Go.RowKit

/-- what Within answers -/
def wi (k : Int) (n : Nat) : Nat := ((IntKind.u64.wrap k).tmod n).toNat
theorem wrap_u64_nonneg (k : Int) : 0 ≤ IntKind.u64.wrap k := by simp [IntKind.wrap_u64]; omega
theorem wi_lt (k : Int) (n : Nat) (h : 1 ≤ n) : wi k n < n := by
  have h0 := wrap_u64_nonneg k
  unfold wi
  have := Int.tmod_lt_of_pos (IntKind.u64.wrap k) (show (0 : Int) < n by omega)
  omega
theorem wi_eq (k : Int) (n : Nat) (h : 1 ≤ n) (h2 : n ≤ 1000000) : wrap64 ((IntKind.u64.wrap k).tmod (n : Int)) = (wi k n : Int) := by
  have h0 := wrap_u64_nonneg k
  have h1 := Int.tmod_lt_of_pos (IntKind.u64.wrap k) (show (0 : Int) < n by omega)
  have h3 := Int.tmod_nonneg (n : Int) h0
  unfold wi wrap64
  omega
end Go.Proofs.YtefdipjhjgmokaaGreatDoor

set_option linter.unusedVariables false
set_option linter.unusedSimpArgs false
namespace Go.Proofs.YtefdipjhjgmokaaGreatDoor

def cutsL : List ByteArray := [⟨#[97]⟩, ⟨#[98]⟩, ⟨#[98, 98]⟩, ⟨#[100]⟩, ⟨#[109]⟩, ⟨#[112]⟩]
theorem cutsL_ok : cutsB ByteArray.empty cutsL = true := by decide +kernel
/-- the i-th cut is taken -/
def mpT (zs : List Int) (i : Nat) : Bool := decide (i < zs.length) && decide (0 < wi (zs.getD i 0) 3)
/-- the map of the first i cuts -/
def mapR (zs : List Int) : Nat → List ByteArray × List Nat
  | 0 => ([], [0])
  | i + 1 => if mpT zs i = true then ((mapR zs i).1 ++ [cutsL.getD i ByteArray.empty], (mapR zs i).2 ++ [wi ((zs.getD i 0).tdiv 3) 4]) else mapR zs i
theorem mapR_len (zs : List Int) (i : Nat) : (mapR zs i).2.length = (mapR zs i).1.length + 1 := by
  induction i with
  | zero => rfl
  | succ i ih => simp only [mapR]; split <;> simp [ih]
theorem mapR_few (zs : List Int) (i : Nat) : (mapR zs i).1.length ≤ i := by
  induction i with
  | zero => simp [mapR]
  | succ i ih =>
    simp only [mapR]
    split
    · rw [List.length_append, List.length_singleton]; omega
    · omega
theorem mapR_sub (zs : List Int) {i : Nat} (hi : i ≤ 6) : (mapR zs i).1.Sublist (cutsL.take i) := by
  induction i with
  | zero => simp [mapR]
  | succ i ih =>
    have hl : i < cutsL.length := by simp [cutsL]; omega
    have e : cutsL.take (i + 1) = cutsL.take i ++ [cutsL.getD i ByteArray.empty] := by
      rw [List.take_succ_eq_append_getElem hl]; simp [List.getD_eq_getElem?_getD, hl]
    rw [e]
    simp only [mapR]
    split
    · exact (ih (by omega)).append (List.Sublist.refl _)
    · exact (ih (by omega)).trans (List.sublist_append_left _ _)
theorem mapR_own (zs : List Int) (i : Nat) : ∀ n ∈ (mapR zs i).2, n ≤ 3 := by
  induction i with
  | zero => intro n hn; simp [mapR] at hn; omega
  | succ i ih =>
    simp only [mapR]
    split
    · intro n hn
      rcases List.mem_append.1 hn with hn | hn
      · exact ih n hn
      · rw [List.mem_singleton.1 hn]
        have := wi_lt ((zs.getD i 0).tdiv 3) 4 (by decide)
        omega
    · exact ih
theorem mapR_ok (zs : List Int) : OkM (mapR zs 6).1 ((mapR zs 6).2.map fun (k : Nat) => (k : Int)) := by
  have hs := mapR_sub zs (i := 6) (by decide)
  obtain ⟨h1, h2⟩ := cutsB_iff.1 cutsL_ok
  have ht : cutsL.take 6 = cutsL := rfl
  rw [ht] at hs
  refine ⟨by have := mapR_few zs 6; omega, by rw [List.length_map, mapR_len], cutsB_iff.2 ⟨fun k hk => h1 k (hs.subset hk), h2.sublist hs⟩, fun n hn => ?_⟩
  obtain ⟨k, hk, rfl⟩ := List.mem_map.1 hn
  have := mapR_own zs 6 k hk
  omega
end Go.Proofs.YtefdipjhjgmokaaGreatDoor

set_option linter.unusedVariables false
set_option linter.unusedSimpArgs false
namespace Go.Proofs.YtefdipjhjgmokaaGreatDoor
open Go.RowKit

set_option maxHeartbeats 400000 in
theorem within_any (k : Int) (n : Nat) (h1 : 1 ≤ n) (h2 : n ≤ 1000000) (w : World) :
    Calls Tryz.prog 17 #[.int .i64 k, .int .i64 n] w fun e w' => e = .returned (.int .i64 (wi k n)) ∧ w = w' := by
  go_enter Tryz.func17, Tryz.ntmps17
  go_wp2
  go_ret
  exact ⟨ret_int (wi_eq k n h1 h2), rfl⟩
end Go.Proofs.YtefdipjhjgmokaaGreatDoor
