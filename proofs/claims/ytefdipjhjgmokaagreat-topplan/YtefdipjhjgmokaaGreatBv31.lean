/-
  parts.New and Map.
  (*copies.replica).clone, (*copies.Copies).Done, Take.
  (*copies.Copies).Take.
-/
import Derived.Test.YtefdipjhjgmokaaGreatBv24
import Derived.Test.YtefdipjhjgmokaaGreatBv26
import Derived.Test.YtefdipjhjgmokaaGreatBv18
import Derived.Test.YtefdipjhjgmokaaGreatBv23
import Derived.Test.YtefdipjhjgmokaaGreatBv30
import Derived.Deep.RegionLaw
import Derived.Deep.RegionHeld3
set_option linter.unusedVariables false
set_option linter.unusedSimpArgs false
namespace Go.Proofs.YtefdipjhjgmokaaGreat
open Go.RowKit

/-- while New runs -/
structure NwH (w : World) (g : Nat) (m : Mp) (l : List Pr) (q : Dv) (wr : World) : Prop where
  mh : MH w g m wr
  own : q.Own wr w.heap.size m.cs m.os l 4
  low : w.heap.size ≤ g
theorem NwH.below {w wr w' : World} {g : Nat} {m : Mp} {l : List Pr} {q : Dv} (h : NwH w g m l q wr) (hb : Below wr.heap.size wr w') : NwH w g m l q w' := ⟨h.mh.below hb, h.own.below hb, h.low⟩
/-- a partitioned store is handed back -/
def RetNw (w : World) (cs : List ByteArray) (os : List Int) (l : List Pr) (e : Ending) (w' : World) : Prop :=
  ∃ (g : Nat) (A : Option Addr) (ca : Nat) (O : Option Addr) (co : Nat) (q : Dv), e = .returned (.tuple #[.pointer (some ⟨g, 0, none⟩), .int .i64 0]) ∧ PB w' w.heap.size g ⟨A, ca, cs, O, co, os⟩ l q ∧ Below w.heap.size w w'

set_option maxHeartbeats 2000000 in
set_option maxRecDepth 100000 in
theorem new_ok (m : Mp) (A : Option Addr) (c : Nat) (l : List Pr) (w : World) (hm : MS w m) (hA : PS w w.heap.size A l) (hok : OkM m.cs m.os) (hokl : Ok l) :
    Calls Tryz.prog 42 #[.agg #[.slice m.A m.cs.length m.ca, .slice m.O m.os.length m.co], .slice A l.length c] w (RetNw w m.cs m.os l) := by
  have hH := MH.new hm
  have hps := (hA.below hH.be).more hH.be.size
  obtain ⟨z1, z2⟩ := hH.c
  go_enter Tryz.func42, Tryz.ntmps42
  go_wp2_with fail
  generalize w.alloc _ = w1 at hH hps z1 z2 ⊢
  generalize hg : w.heap.size = g at hH z1 z2 ⊢
  refine (divide_ok m A c l _ hH.ms hps hok hokl).mono ?_
  rintro e w2 ⟨q, rfl, hq, hb2⟩
  have hN : NwH w g m l q w2 := ⟨hH.below hb2, hq.mono hH.be.size, by omega⟩
  clear hH hps hb2 z1 z2 hq hA
  simp only [Dv.ar]
  obtain ⟨a0, n0, c0, e0⟩ : ∃ a n c, q.s m.cs m.os l 0 = .slice a n c := ⟨_, _, _, rfl⟩
  obtain ⟨a1, n1, c1, e1⟩ : ∃ a n c, q.s m.cs m.os l 1 = .slice a n c := ⟨_, _, _, rfl⟩
  obtain ⟨a2, n2, c2, e2⟩ : ∃ a n c, q.s m.cs m.os l 2 = .slice a n c := ⟨_, _, _, rfl⟩
  obtain ⟨a3, n3, c3, e3⟩ : ∃ a n c, q.s m.cs m.os l 3 = .slice a n c := ⟨_, _, _, rfl⟩
  rw [e0, e1, e2, e3]
  have HE := hideP (show q.s m.cs m.os l 0 = .slice a0 n0 c0 ∧ q.s m.cs m.os l 1 = .slice a1 n1 c1 ∧ q.s m.cs m.os l 2 = .slice a2 n2 c2 ∧ q.s m.cs m.os l 3 = .slice a3 n3 c3 from ⟨e0, e1, e2, e3⟩)
  clear e0 e1 e2 e3
  have hN3 := hN.below ((Below.refl _ _).alloc (Nat.le_refl _) (.cells #[.slice a0 n0 c0, .slice a1 n1 c1, .slice a2 n2 c2, .slice a3 n3 c3] 118))
  have y := Box.new w2 118 #[.slice a0 n0 c0, .slice a1 n1 c1, .slice a2 n2 c2, .slice a3 n3 c3]
  clear hN
  go_wp2_with fail
  generalize w2.alloc _ = w3 at hN3 y ⊢
  generalize w2.heap.size = gd at y ⊢
  have HS := hideP (fun (W : World) (h : NwH w g m l q W) (y : Box W gd 118 #[.slice a0 n0 c0, .slice a1 n1 c1, .slice a2 n2 c2, .slice a3 n3 c3]) =>
    show (W.cell? ⟨g, 0, none⟩ = some (.slice m.A m.cs.length m.ca) ∧ W.cell? ⟨g, 1, none⟩ = some (.slice m.O m.os.length m.co)) ∧ W.cell? ⟨gd, 0, none⟩ = some (.slice a0 n0 c0) ∧ W.cell? ⟨gd, 1, none⟩ = some (.slice a1 n1 c1) ∧ W.cell? ⟨gd, 2, none⟩ = some (.slice a2 n2 c2) ∧ W.cell? ⟨gd, 3, none⟩ = some (.slice a3 n3 c3) from
      ⟨h.mh.c, y.cell 0 rfl, y.cell 1 rfl, y.cell 2 rfl, y.cell 3 rfl⟩)
  have HCL := hideP (fun (W : World) (h : NwH w g m l q W) => clone_any m W h.mh.ms (by have := hok.few; omega) (by have := hok.few; have := hok.len; omega))
  have HFIN := hideP (fun (W : World) (h : NwH w g m l q W) (A' : Option Addr) (ca' : Nat) (O' : Option Addr) (co' : Nat) (hn : MO W w.heap.size ⟨A', ca', m.cs, O', co', m.os⟩) =>
    show RetNw w m.cs m.os l (.returned (.tuple #[.pointer (some ⟨W.heap.size, 0, none⟩), .int .i64 0])) (W.alloc (.cells #[.slice A' m.cs.length ca', .slice O' m.os.length co', .slice a0 n0 c0, .slice a1 n1 c1, .slice a2 n2 c2, .slice a3 n3 c3] 120)) from by
      have hb := (Below.refl W.heap.size W).alloc (Nat.le_refl _) (.cells #[.slice A' m.cs.length ca', .slice O' m.os.length co', .slice a0 n0 c0, .slice a1 n1 c1, .slice a2 n2 c2, .slice a3 n3 c3] 120)
      refine ⟨W.heap.size, A', ca', O', co', q, rfl, ⟨?_, hn.below hb, h.own.below hb, hok, hokl, h.mh.be.size⟩, h.mh.be.trans (hb.mono h.mh.be.size)⟩
      obtain ⟨e0, e1, e2, e3⟩ := HE.out
      simp only [e0, e1, e2, e3]
      exact Box.new _ _ _)
  replace hN3 := hN3.below (Below.refl _ _).drew
  replace y := y.drew
  have hlow := hN3.low
  clear HE hok hokl
  go_region_held3 (fun W => (W.cell? ⟨g, 0, none⟩ = some (.slice m.A m.cs.length m.ca) ∧ W.cell? ⟨g, 1, none⟩ = some (.slice m.O m.os.length m.co)) ∧ W.cell? ⟨gd, 0, none⟩ = some (.slice a0 n0 c0) ∧ W.cell? ⟨gd, 1, none⟩ = some (.slice a1 n1 c1) ∧ W.cell? ⟨gd, 2, none⟩ = some (.slice a2 n2 c2) ∧ W.cell? ⟨gd, 3, none⟩ = some (.slice a3 n3 c3)) (first | with_reducible exact HS.out _ hN4 y4 | with_reducible exact HS.out _ hN3 y | with_reducible exact hS5) (first
    | (go_at_call 72; refine (HCL.out _ hN3).mono ?_; rintro e w4 ⟨A', ca', O', co', rfl, hn, hb4⟩; have hN4 := hN3.below hb4; have y4 := y.below hb4; have HF := hideP (HFIN.out w4 hN4 A' ca' O' co' (hn.mono hN3.mh.be.size)); have hS5 := HS.out _ (hN4.below ((Below.refl _ _).alloc (Nat.le_refl _) (.cells #[.slice A' m.cs.length ca', .slice O' m.os.length co', .slice a0 n0 c0, .slice a1 n1 c1, .slice a2 n2 c2, .slice a3 n3 c3] 120))) (y4.alloc _)))
  all_goals
    go_wp2_with fail
    go_ret2
    exact HF.out
end Go.Proofs.YtefdipjhjgmokaaGreat

set_option linter.unusedVariables false
set_option linter.unusedSimpArgs false
namespace Go.Proofs.YtefdipjhjgmokaaGreat
open Go.RowKit

theorem bconcat1 (w : World) (g : Nat) (hg : g = w.heap.size) (A1 : Option Addr) (n1 c1 : Nat) (l1 : List Bool) (e1 : n1 = l1.length) (p1 : VS w A1 (l1.map Value.bool)) (hn : l1.length ≤ 1000000) :
    Calls Tryz.prog 37 #[.slice (some ⟨g, 0, none⟩) 1 1] (w.alloc (.cells #[.slice A1 n1 c1] 44)) fun e w' => ∃ A c, e = .returned (.slice A n1 c) ∧ OR w' w.heap.size 4 A c (l1.map Value.bool) ∧ Below w.heap.size w w' := by
  subst hg e1
  have hb := (Below.refl w.heap.size w).alloc (Nat.le_refl _) (.cells #[.slice A1 l1.length c1] 44)
  have h := bconcat_any w.heap.size 0 1 [⟨A1, c1, l1⟩] (w.alloc (.cells #[.slice A1 l1.length c1] 44))
    ⟨by simp, fun j s hj => by
      match j with
      | 0 => simp at hj; subst hj; simp
      | j + 1 => simp at hj, fun s hs => by
      simp at hs
      subst hs
      exact p1.below hb⟩ (by simp [catB]; omega) (by simp)
  have e : catB [⟨A1, c1, l1⟩] = l1 := by simp [catB]
  rw [e] at h
  exact h.mono fun e w' ⟨A, c, h1, h2, h3⟩ => ⟨A, c, h1, h2.mono hb.size, hb.trans (h3.mono hb.size)⟩
set_option maxRecDepth 100000 in
theorem cdone_any (c : Cs) (B : Nat) (i : Nat) (r : Rp) (w : World) (h : c.Ok w B) (hi : c.rs[i]? = some r) :
    Calls Tryz.prog 11 #[.pointer (some ⟨c.s.g, 0, none⟩), .int .i64 (i : Int)] w fun e w' => ∃ A cp, e = .returned (.tuple #[.slice A r.bs.length cp, .int .i64 0]) ∧ OR w' w.heap.size 4 A cp (r.bs.map Value.bool) ∧ Below w.heap.size w w' := by
  have hil := (List.getElem?_eq_some_iff.1 hi).1
  have HH := hideP (chas_any c B (i : Int) w h)
  rw [dec_in hil] at HH
  have c0 := h.c2
  obtain ⟨gr, hAR, _, q0, q1⟩ := h.at_ hi
  rw [hAR] at c0
  have HA := hideP (bconcat1 w w.heap.size rfl r.A _ r.c r.bs rfl (h.ro i r hi).ob.vs (by have := h.small hi; omega))
  have g1 : (0 : Int) ≤ (i : Int) := by omega
  have g2 : (i : Int) < (c.rs.length : Int) := by omega
  generalize c.s.g = g at c0 HH ⊢
  generalize c.rs.length = n at c0 g2
  generalize r.bs.map Value.bool = bv at HA ⊢
  generalize r.bs.length = bl at HA q1 ⊢
  clear h hi hAR hil
  go_enter Tryz.func11, Tryz.ntmps11
  go_wp2_with fail
  refine HH.out.mono ?_
  rintro e w' ⟨rfl, rfl⟩
  go_wp2_with fail
  refine HA.out.mono ?_
  rintro e w1 ⟨A, cp, rfl, ho, hb⟩
  go_wp2_with fail
  go_ret2
  exact ⟨A, cp, rfl, ho, hb⟩
/-- while a replica is copied -/
structure CkH (w : World) (B gr ri : Nat) (r : Rp) (wr : World) : Prop where
  ro : RO wr B r
  x : Box wr w.heap.size 76 #[.pointer none, .slice none 0 0]
  c0 : wr.cell? ⟨gr, ri, none⟩ = some (.pointer (some ⟨r.g, 0, none⟩))
  c1 : wr.cell? ⟨gr, ri + 1, none⟩ = some (.slice r.A r.bs.length r.c)
  lt : gr < wr.heap.size
  be : Below w.heap.size w wr
theorem CkH.below {w wr w' : World} {B gr ri : Nat} {r : Rp} (h : CkH w B gr ri r wr) (hb : Below wr.heap.size wr w') : CkH w B gr ri r w' :=
  ⟨h.ro.below hb, h.x.below hb, (hb.cell (p := ⟨gr, ri, none⟩) h.lt).trans h.c0, (hb.cell (p := ⟨gr, ri + 1, none⟩) h.lt).trans h.c1, Nat.lt_of_lt_of_le h.lt hb.size, h.be.trans (hb.mono h.be.size)⟩
/-- a copy of a replica -/
def RetCk (w : World) (r : Rp) (e : Ending) (w' : World) : Prop := ∃ r' : Rp, e = .returned (rpV r') ∧ RO w' w.heap.size r' ∧ r'.st = r.st ∧ Below w.heap.size w w'
set_option maxHeartbeats 2000000 in
set_option maxRecDepth 100000 in
theorem ckclone_any (gr ri B : Nat) (r : Rp) (w : World) (h : RO w B r) (hc0 : w.cell? ⟨gr, ri, none⟩ = some (.pointer (some ⟨r.g, 0, none⟩))) (hc1 : w.cell? ⟨gr, ri + 1, none⟩ = some (.slice r.A r.bs.length r.c)) (hn : r.bs.length ≤ 1000000) :
    Calls Tryz.prog 47 #[.pointer (some ⟨gr, ri, none⟩)] w (RetCk w r) := by
  have hgr : gr < w.heap.size := cell_lt hc0
  have b0 := (Below.refl w.heap.size w).alloc (Nat.le_refl _) (.cells #[.pointer none, .slice none 0 0] 76)
  have hK : CkH w B gr ri r _ := ⟨h.below b0, Box.new w 76 #[.pointer none, .slice none 0 0], (b0.cell (p := ⟨gr, ri, none⟩) hgr).trans hc0, (b0.cell (p := ⟨gr, ri + 1, none⟩) hgr).trans hc1, Nat.lt_of_lt_of_le hgr b0.size, b0⟩
  have HM := hideP (fun (W : World) (h : CkH w B gr ri r W) => map_ok B r.g r.m r.l r.q W h.ro.pb)
  have HA := hideP (fun (W : World) (h : CkH w B gr ri r W) => all_ok B r.g r.m r.l r.q W h.ro.pb)
  have HN := hideP (fun (W : World) (h : CkH w B gr ri r W) (B1 B2 : Nat) (A' : Option Addr) (ca' : Nat) (O' : Option Addr) (co' : Nat) (Aa : Option Addr) (cc : Nat) (h1 : MO W B1 ⟨A', ca', r.m.cs, O', co', r.m.os⟩) (h2 : OV W B2 Aa cc r.l) => show Calls Tryz.prog 42 #[.agg #[.slice A' r.m.cs.length ca', .slice O' r.m.os.length co'], .slice Aa r.l.length cc] W (RetNw W r.m.cs r.m.os r.l) from new_ok ⟨A', ca', r.m.cs, O', co', r.m.os⟩ Aa cc r.l W h1.ms h2.sv.ps h.ro.pb.okm h.ro.pb.ok)
  have HC := hideP (fun (W : World) (h : CkH w B gr ri r W) => bconcat1 W W.heap.size rfl r.A _ r.c r.bs rfl h.ro.ob.vs hn)
  have HS := hideP (fun (W : World) (h : CkH w B gr ri r W) => h.c0)
  have HS1 := hideP (fun (W : World) (h : CkH w B gr ri r W) => h.c1)
  -- the end
  have HF := hideP (fun (W : World) (hW : CkH w B gr ri r W) (g' : Nat) (m' : Mp) (q' : Dv) (hm : m'.cs = r.m.cs ∧ m'.os = r.m.os) (hp : PB W w.heap.size g' m' r.l q') (A : Option Addr) (cp : Nat) (ho : OR W w.heap.size 4 A cp (r.bs.map Value.bool)) =>
    show RetCk w r (.returned (.agg #[.pointer (some ⟨g', 0, none⟩), .slice A r.bs.length cp])) ((W.setCell ⟨w.heap.size, 0, none⟩ (.pointer (some ⟨g', 0, none⟩))).setCell ⟨w.heap.size, 1, none⟩ (.slice A r.bs.length cp)) from by
      have f3 : Fr (fun k => k = w.heap.size) W ((W.setCell ⟨w.heap.size, 0, none⟩ (.pointer (some ⟨g', 0, none⟩))).setCell ⟨w.heap.size, 1, none⟩ (.slice A r.bs.length cp)) := Fr.comp (F := fun k => k = w.heap.size) (Fr.of_set _ _ _ rfl) (Fr.of_set _ _ _ rfl)
      have tr := hW.x.ty
      have of3 : ∀ {t : TypeId}, t ≠ 76 → Off (fun k => k = w.heap.size) W t := fun hn k hk _ => ⟨_, by rw [hk]; exact tr, hn⟩
      refine ⟨⟨g', m', r.l, q', A, cp, r.bs⟩, rfl, RO.fr ⟨hp, ho⟩ f3 (fun e => absurd ((show Ty W g' 76 by have e' : g' = w.heap.size := e; rw [e']; exact tr).inj hp.box.ty) (by decide)) (fun k hk e => absurd ((own_ty ho (bo _ _ hk)).inj (show Ty W k 76 by rw [e]; exact tr)) (by decide)) (of3 (by decide)) (of3 (by decide)) (of3 (by decide)), by simp [Rp.st, hm.1, hm.2], ?_⟩
      exact f3.below (fun k hk => by rw [hk]; exact Nat.le_refl _) hW.be.size hW.be)
  clear h hc0 hc1 b0
  go_enter Tryz.func47, Tryz.ntmps47
  go_wp2_with fail
  generalize w.alloc _ = w1 at hK ⊢
  replace hK := hK.below (Below.refl _ _).drew
  generalize hgx : w.heap.size = gx at HF ⊢
  have hx0 := hK.c0
  go_region_held3 (fun W => W.cell? ⟨gr, ri, none⟩ = some (.pointer (some ⟨r.g, 0, none⟩))) (first | with_reducible exact HS.out _ hKc | with_reducible exact HS.out _ hKb | with_reducible exact HS.out _ hKa | with_reducible exact HS.out _ hK) (first
    | (go_at_call 77
       first
         | (refine (HM.out _ hKa).mono ?_; rintro e wb ⟨A', ca', O', co', rfl, hmo, hbb⟩; have hKb := hKa.below hbb; have hov2 := hov.below hbb)
         | (refine (HM.out _ hK).mono ?_; rintro e wa ⟨A', ca', O', co', rfl, hmo, hba⟩; have hKa := hK.below hba))
    | (go_at_call 24
       first
         | (refine (HA.out _ hKa).mono ?_; rintro e wb ⟨Aa, cc, rfl, hov, hbb⟩; have hKb := hKa.below hbb; have hmo2 := hmo.below hbb)
         | (refine (HA.out _ hK).mono ?_; rintro e wa ⟨Aa, cc, rfl, hov, hba⟩; have hKa := hK.below hba))
    | (go_at_call 42
       first
         | refine (HN.out _ hKb _ _ A' ca' O' co' Aa cc hmo hov2).mono ?_
         | refine (HN.out _ hKb _ _ A' ca' O' co' Aa cc hmo2 hov).mono ?_
       rintro e wc ⟨g', A2, ca2, O2, co2, q', rfl, hPB, hbc⟩
       have hKc := hKb.below hbc))
  all_goals
    have hPB' := hPB.mono hKb.be.size
    have z1 := HS1.out _ hKc
    have HCC := hideP (HC.out _ hKc)
    go_wp2_with fail
    refine HCC.out.mono ?_
    rintro e wd ⟨A, cp, rfl, ho, hbd⟩
    have hKd := hKc.below hbd
    have x := hKd.x
    rw [hgx] at x
    have hPB2 := hPB'.below hbd
    have ho2 := ho.mono hKc.be.size
    rw [hgx] at hPB2 ho2
    have HFF := hideP (HF.out wd hKd g' ⟨A2, ca2, r.m.cs, O2, co2, r.m.os⟩ q' ⟨rfl, rfl⟩ hPB2 A cp ho2)
    have f0 := x.frozen 0
    have f1 := (x.set 0 (.pointer (some ⟨g', 0, none⟩))).frozen 1
    have d0 := x.cell 0 (v := .pointer none) rfl
    have d1 := (x.set 0 (.pointer (some ⟨g', 0, none⟩))).cell 1 (v := .slice none 0 0) rfl
    have o2 := (x.set 0 (.pointer (some ⟨g', 0, none⟩))).set 1 (.slice A r.bs.length cp)
    have k0 := o2.cell 0 (v := .pointer (some ⟨g', 0, none⟩)) rfl
    have k1 := o2.cell 1 (v := .slice A r.bs.length cp) rfl
    clear o2 x hKd hKc hKb hKa hK hPB' hPB hPB2 ho2 HCC HM HA HN HC HS HS1 HF z1 hx0 ho
    go_wp2_with fail
    exact bodyPost_ret (v := .agg #[.pointer (some ⟨g', 0, none⟩), .slice A r.bs.length cp]) (by simp [results, Tryz.results47, go_sem, k0, k1]) rfl HFF.out
end Go.Proofs.YtefdipjhjgmokaaGreat

set_option linter.unusedVariables false
set_option linter.unusedSimpArgs false
namespace Go.Proofs.YtefdipjhjgmokaaGreat
open Go.RowKit

set_option maxHeartbeats 2000000 in
set_option maxRecDepth 100000 in
theorem ctake_any (c : Cs) (B : Nat) (i k : Int) (w : World) (h : c.Ok w B) :
    Calls Tryz.prog 20 #[.pointer (some ⟨c.s.g, 0, none⟩), .int .i64 i, .int .i64 k] w fun e w' => ∃ c', e = .returned (.int .i64 (ctQ c.st i k)) ∧ c.To w B c' w' c.s.ct (ctS c.st i k) := by
  have HI := hideP (chas_any c B i w h)
  have HK := hideP (chas_any c B k w h)
  have hlen : c.st.length = c.rs.length := by simp [Cs.st]
  by_cases hin : 0 ≤ i ∧ i < (c.rs.length : Int)
  · rw [decide_eq_true hin] at HI
    by_cases hkn : 0 ≤ k ∧ k < (c.rs.length : Int)
    · rw [decide_eq_true hkn] at HK
      obtain ⟨n, rfl⟩ : ∃ n : Nat, i = n := ⟨i.toNat, by omega⟩
      obtain ⟨j, rfl⟩ : ∃ j : Nat, k = j := ⟨k.toNat, by omega⟩
      have hn : n < c.rs.length := by omega
      have hj : j < c.rs.length := by omega
      obtain ⟨r, hr⟩ : ∃ r, c.rs[n]? = some r := ⟨_, List.getElem?_eq_getElem hn⟩
      obtain ⟨q, hq⟩ : ∃ q, c.rs[j]? = some q := ⟨_, List.getElem?_eq_getElem hj⟩
      have hst : c.st[n]? = some r.st := by simp [Cs.st, hr]
      have hsq : c.st[j]? = some q.st := by simp [Cs.st, hq]
      obtain ⟨gr, hAR, hgl, r0, r1⟩ := h.at_ hr
      obtain ⟨gr', e, _, q0, q1⟩ := h.at_ hq
      rw [hAR] at e; injection e with e; injection e with e; subst e
      have c2 := h.c2
      rw [hAR] at c2
      have g1 : (0 : Int) ≤ (n : Int) := by omega
      have g2 : (n : Int) < (c.rs.length : Int) := by omega
      have g3 : (0 : Int) ≤ (j : Int) := by omega
      have g4 : (j : Int) < (c.rs.length : Int) := by omega
      by_cases hlt : q.bs.length < r.bs.length
      · obtain ⟨e1, e2⟩ := ct_wait hst hsq hlt
        rw [e1, e2]
        have HT := hideP (fun (W : World) (hb : Below w.heap.size w W) => Cs.To.same h hb)
        have d1 : (q.bs.length : Int) < (r.bs.length : Int) := by omega
        have hb0 := Below.refl w.heap.size w
        generalize c.s.g = g at c2 HI HK ⊢
        generalize c.rs.length = rn at c2 HI HK g2 g4
        clear h hin hkn hlen hst hsq hn hj e1 e2 hlt hAR
        go_enter Tryz.func20, Tryz.ntmps20
        go_wp2_with fail
        refine HI.out.mono ?_
        rintro e w' ⟨rfl, rfl⟩
        go_wp2_with fail
        refine HK.out.mono ?_
        rintro e w' ⟨rfl, rfl⟩
        go_wp2_with fail
        go_region
        all_goals
          go_wp2_with fail
          go_ret
          exact ⟨c, rfl, HT.out _ (by first | exact hb0.drew | exact hb0)⟩
      · obtain ⟨e1, e2⟩ := ct_go hst hsq (show r.st.bs.length ≤ q.st.bs.length from by simp only [Rp.st]; omega)
        rw [e1, e2]
        have d1 : ¬ (q.bs.length : Int) < (r.bs.length : Int) := by omega
        have hW1 := h.below (Below.refl _ w).drew
        have hW2 := hW1.below (Below.refl _ _).drew
        have b2 : Below w.heap.size w w.drew.drew := ((Below.refl _ w).drew).drew
        have HC2 := hideP (fun (W : World) (hW : c.Ok W B) => show W.cell? ⟨c.s.g, 2, none⟩ = some (.slice (some ⟨gr, 0, none⟩) c.rs.length c.cR) from by rw [← hAR]; exact hW.c2)
        have hsm := h.small hq
        have hle := h.le j q hq
        have HCK := hideP (fun (W : World) (hW : c.Ok W B) => show Calls Tryz.prog 47 #[.pointer (some ⟨gr, j * 2, none⟩)] W (RetCk W q) from by
          obtain ⟨gr', e, _, q0, q1⟩ := hW.at_ hq
          rw [hAR] at e; injection e with e; injection e with e; subst e
          exact ckclone_any gr (j * 2) B q W (hW.ro j q hq) q0 q1 (by omega))
        have HTK := hideP (fun (W W1 : World) (hbw : Below w.heap.size w W) (hW : c.Ok W B) (hb : Below W.heap.size W W1) (r' : Rp) (hr' : RO W1 W.heap.size r') (hs : r'.st = q.st) =>
          show W1.frozen? ⟨gr, n * 2, none⟩ = false ∧ (W1.setCell ⟨gr, n * 2, none⟩ (.pointer (some ⟨r'.g, 0, none⟩))).frozen? ⟨gr, n * 2 + 1, none⟩ = false ∧
            W1.cell? ⟨gr, n * 2, none⟩ = some (.pointer (some ⟨r.g, 0, none⟩)) ∧ (W1.setCell ⟨gr, n * 2, none⟩ (.pointer (some ⟨r'.g, 0, none⟩))).cell? ⟨gr, n * 2 + 1, none⟩ = some (.slice r.A r.bs.length r.c) ∧
            ∃ cc, c.To w B cc ((W1.setCell ⟨gr, n * 2, none⟩ (.pointer (some ⟨r'.g, 0, none⟩))).setCell ⟨gr, n * 2 + 1, none⟩ (.slice r'.A r'.bs.length r'.c)) c.s.ct (c.st.set n q.st) from by
          obtain ⟨gr', e, f0, f1, k0, k1, T⟩ := hW.took hr hb hr' (by have : r'.bs = q.bs := congrArg Sr.bs hs; rw [this]; exact hle)
          rw [hAR] at e; injection e with e; injection e with e; subst e
          rw [hs] at T
          exact ⟨f0, f1, k0, k1, _, T.pre hbw⟩)
        have c2a := HC2.out _ hW2
        generalize c.s.g = g at c2 c2a HC2 HI HK ⊢
        generalize c.rs.length = rn at c2 c2a HC2 HI HK g2 g4
        clear h hin hkn hlen hst hsq hn hj e1 e2 hlt hAR hsm hle
        go_enter Tryz.func20, Tryz.ntmps20
        go_wp2_with fail
        refine HI.out.mono ?_
        rintro e w' ⟨rfl, rfl⟩
        go_wp2_with fail
        refine HK.out.mono ?_
        rintro e w' ⟨rfl, rfl⟩
        go_wp2_with fail
        go_region
        all_goals
          clear q0 q1 r0 r1
          go_wp2_with fail
          go_region_law (
            (go_simp
             go_at_call 47
             refine (HCK.out _ hW2).mono ?_
             rintro e w2 ⟨r', rfl, hr', hs, hb2⟩
             have c2b := HC2.out _ (hW2.below hb2)
             obtain ⟨f0, f1, k0, k1, cc, T⟩ := HTK.out _ _ b2 hW2 hb2 r' hr' hs
             have HT := hideP T
             unfold rpV
             clear T hr' hs hb2))
          all_goals
            go_wp2_with fail
            go_ret
            exact ⟨cc, rfl, HT.out⟩
    · rw [decide_eq_false hkn] at HK
      obtain ⟨q1, q2⟩ := ct_none (st := c.st) (i := i) (k := k) (by rw [hlen]; exact fun e => hkn e.2)
      rw [q1, q2]
      have HT := hideP (Cs.To.same h (Below.refl _ _))
      clear h hin hkn q1 q2 hlen
      go_enter Tryz.func20, Tryz.ntmps20
      go_wp2_with fail
      refine HI.out.mono ?_
      rintro e w' ⟨rfl, rfl⟩
      go_wp2_with fail
      refine HK.out.mono ?_
      rintro e w' ⟨rfl, rfl⟩
      go_wp2_with fail
      go_ret
      exact ⟨c, rfl, HT.out⟩
  · rw [decide_eq_false hin] at HI
    obtain ⟨q1, q2⟩ := ct_none (st := c.st) (i := i) (k := k) (by rw [hlen]; exact fun e => hin e.1)
    rw [q1, q2]
    have HT := hideP (Cs.To.same h (Below.refl _ _))
    clear h hin q1 q2 hlen HK
    go_enter Tryz.func20, Tryz.ntmps20
    go_wp2_with fail
    refine HI.out.mono ?_
    rintro e w' ⟨rfl, rfl⟩
    go_wp2_with fail
    go_ret
    exact ⟨c, rfl, HT.out⟩
end Go.Proofs.YtefdipjhjgmokaaGreat
