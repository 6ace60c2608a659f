/-
  (*copies.replica).clone, (*copies.Copies).Done, Take.
  (*copies.Copies).Take.
  merge.New.
-/
import Derived.Test.YtefdipjhjgmokaaGreatDoorBy19
import Derived.Test.YtefdipjhjgmokaaGreatDoorBy17
import Derived.Test.YtefdipjhjgmokaaGreatDoorBy24
import Derived.Deep.RegionLaw
import Derived.Deep.RegionHeld3
import Derived.Test.YtefdipjhjgmokaaGreatDoorBy6
import Derived.Laws.MakeOwn
set_option linter.unusedVariables false
set_option linter.unusedSimpArgs false
namespace Go.Proofs.YtefdipjhjgmokaaGreatDoor
open Go.RowKit

theorem bconcat1 (w : World) (g : Nat) (hg : g = w.heap.size) (A1 : Option Addr) (n1 c1 : Nat) (l1 : List Bool) (e1 : n1 = l1.length) (p1 : VS w A1 (l1.map Value.bool)) (hn : l1.length ≤ 1000000) :
    Calls Tryz.prog 103 #[.slice (some ⟨g, 0, none⟩) 1 1] (w.alloc (.cells #[.slice A1 n1 c1] 90)) fun e w' => ∃ A c, e = .returned (.slice A n1 c) ∧ OR w' w.heap.size 4 A c (l1.map Value.bool) ∧ Below w.heap.size w w' := by
  subst hg e1
  have hb := (Below.refl w.heap.size w).alloc (Nat.le_refl _) (.cells #[.slice A1 l1.length c1] 90)
  have h := bconcat_any w.heap.size 0 1 [⟨A1, c1, l1⟩] (w.alloc (.cells #[.slice A1 l1.length c1] 90))
    ⟨by simp, fun j s hj => by
      match j with
      | 0 => simp at hj; subst hj; simp
      | j + 1 => simp at hj, fun s hs => by
      simp at hs
      subst hs
      exact p1.below hb⟩ (by simp [catB]; omega) (by simp)
  have e : catB [⟨A1, c1, l1⟩] = l1 := by simp [catB]
  rw [e] at h
  exact h.mono fun e w' ⟨A, c, h1, h2, h3⟩ => ⟨A, c, h1, h2.mono hb.size, hb.trans (h3.mono hb.size)⟩
set_option maxRecDepth 100000 in
theorem cdone_any (c : Cs) (B : Nat) (i : Nat) (r : Rp) (w : World) (h : c.Ok w B) (hi : c.rs[i]? = some r) :
    Calls Tryz.prog 42 #[.pointer (some ⟨c.s.g, 0, none⟩), .int .i64 (i : Int)] w fun e w' => ∃ A cp, e = .returned (.tuple #[.slice A r.bs.length cp, .int .i64 0]) ∧ OR w' w.heap.size 4 A cp (r.bs.map Value.bool) ∧ Below w.heap.size w w' := by
  have hil := (List.getElem?_eq_some_iff.1 hi).1
  have HH := hideP (chas_any c B (i : Int) w h)
  rw [dec_in hil] at HH
  have c0 := h.c2
  obtain ⟨gr, hAR, _, q0, q1⟩ := h.at_ hi
  rw [hAR] at c0
  have HA := hideP (bconcat1 w w.heap.size rfl r.A _ r.c r.bs rfl (h.ro i r hi).ob.vs (by have := h.small hi; omega))
  have g1 : (0 : Int) ≤ (i : Int) := by omega
  have g2 : (i : Int) < (c.rs.length : Int) := by omega
  generalize c.s.g = g at c0 HH ⊢
  generalize c.rs.length = n at c0 g2
  generalize r.bs.map Value.bool = bv at HA ⊢
  generalize r.bs.length = bl at HA q1 ⊢
  clear h hi hAR hil
  go_enter Tryz.func42, Tryz.ntmps42
  go_wp2_with fail
  refine HH.out.mono ?_
  rintro e w' ⟨rfl, rfl⟩
  go_wp2_with fail
  refine HA.out.mono ?_
  rintro e w1 ⟨A, cp, rfl, ho, hb⟩
  go_wp2_with fail
  go_ret2
  exact ⟨A, cp, rfl, ho, hb⟩
/-- while a replica is copied -/
structure CkH (w : World) (B gr ri : Nat) (r : Rp) (wr : World) : Prop where
  ro : RO wr B r
  x : Box wr w.heap.size 141 #[.pointer none, .slice none 0 0]
  c0 : wr.cell? ⟨gr, ri, none⟩ = some (.pointer (some ⟨r.g, 0, none⟩))
  c1 : wr.cell? ⟨gr, ri + 1, none⟩ = some (.slice r.A r.bs.length r.c)
  lt : gr < wr.heap.size
  be : Below w.heap.size w wr
theorem CkH.below {w wr w' : World} {B gr ri : Nat} {r : Rp} (h : CkH w B gr ri r wr) (hb : Below wr.heap.size wr w') : CkH w B gr ri r w' :=
  ⟨h.ro.below hb, h.x.below hb, (hb.cell (p := ⟨gr, ri, none⟩) h.lt).trans h.c0, (hb.cell (p := ⟨gr, ri + 1, none⟩) h.lt).trans h.c1, Nat.lt_of_lt_of_le h.lt hb.size, h.be.trans (hb.mono h.be.size)⟩
/-- a copy of a replica -/
def RetCk (w : World) (r : Rp) (e : Ending) (w' : World) : Prop := ∃ r' : Rp, e = .returned (rpV r') ∧ RO w' w.heap.size r' ∧ r'.st = r.st ∧ Below w.heap.size w w'
set_option maxHeartbeats 2000000 in
set_option maxRecDepth 100000 in
theorem ckclone_any (gr ri B : Nat) (r : Rp) (w : World) (h : RO w B r) (hc0 : w.cell? ⟨gr, ri, none⟩ = some (.pointer (some ⟨r.g, 0, none⟩))) (hc1 : w.cell? ⟨gr, ri + 1, none⟩ = some (.slice r.A r.bs.length r.c)) (hn : r.bs.length ≤ 1000000) :
    Calls Tryz.prog 104 #[.pointer (some ⟨gr, ri, none⟩)] w (RetCk w r) := by
  have hgr : gr < w.heap.size := cell_lt hc0
  have b0 := (Below.refl w.heap.size w).alloc (Nat.le_refl _) (.cells #[.pointer none, .slice none 0 0] 141)
  have hK : CkH w B gr ri r _ := ⟨h.below b0, Box.new w 141 #[.pointer none, .slice none 0 0], (b0.cell (p := ⟨gr, ri, none⟩) hgr).trans hc0, (b0.cell (p := ⟨gr, ri + 1, none⟩) hgr).trans hc1, Nat.lt_of_lt_of_le hgr b0.size, b0⟩
  have HM := hideP (fun (W : World) (h : CkH w B gr ri r W) => map_ok B r.g r.m r.l r.q W h.ro.pb)
  have HA := hideP (fun (W : World) (h : CkH w B gr ri r W) => all_ok B r.g r.m r.l r.q W h.ro.pb)
  have HN := hideP (fun (W : World) (h : CkH w B gr ri r W) (B1 B2 : Nat) (A' : Option Addr) (ca' : Nat) (O' : Option Addr) (co' : Nat) (Aa : Option Addr) (cc : Nat) (h1 : MO W B1 ⟨A', ca', r.m.cs, O', co', r.m.os⟩) (h2 : OV W B2 Aa cc r.l) => show Calls Tryz.prog 84 #[.agg #[.slice A' r.m.cs.length ca', .slice O' r.m.os.length co'], .slice Aa r.l.length cc] W (RetNw W r.m.cs r.m.os r.l) from new_ok ⟨A', ca', r.m.cs, O', co', r.m.os⟩ Aa cc r.l W h1.ms h2.sv.ps h.ro.pb.okm h.ro.pb.ok)
  have HC := hideP (fun (W : World) (h : CkH w B gr ri r W) => bconcat1 W W.heap.size rfl r.A _ r.c r.bs rfl h.ro.ob.vs hn)
  have HS := hideP (fun (W : World) (h : CkH w B gr ri r W) => h.c0)
  have HS1 := hideP (fun (W : World) (h : CkH w B gr ri r W) => h.c1)
  -- the end
  have HF := hideP (fun (W : World) (hW : CkH w B gr ri r W) (g' : Nat) (m' : Mp) (q' : Dv) (hm : m'.cs = r.m.cs ∧ m'.os = r.m.os) (hp : PB W w.heap.size g' m' r.l q') (A : Option Addr) (cp : Nat) (ho : OR W w.heap.size 4 A cp (r.bs.map Value.bool)) =>
    show RetCk w r (.returned (.agg #[.pointer (some ⟨g', 0, none⟩), .slice A r.bs.length cp])) ((W.setCell ⟨w.heap.size, 0, none⟩ (.pointer (some ⟨g', 0, none⟩))).setCell ⟨w.heap.size, 1, none⟩ (.slice A r.bs.length cp)) from by
      have f3 : Fr (fun k => k = w.heap.size) W ((W.setCell ⟨w.heap.size, 0, none⟩ (.pointer (some ⟨g', 0, none⟩))).setCell ⟨w.heap.size, 1, none⟩ (.slice A r.bs.length cp)) := Fr.comp (F := fun k => k = w.heap.size) (Fr.of_set _ _ _ rfl) (Fr.of_set _ _ _ rfl)
      have tr := hW.x.ty
      have of3 : ∀ {t : TypeId}, t ≠ 141 → Off (fun k => k = w.heap.size) W t := fun hn k hk _ => ⟨_, by rw [hk]; exact tr, hn⟩
      refine ⟨⟨g', m', r.l, q', A, cp, r.bs⟩, rfl, RO.fr ⟨hp, ho⟩ f3 (fun e => absurd ((show Ty W g' 141 by have e' : g' = w.heap.size := e; rw [e']; exact tr).inj hp.box.ty) (by decide)) (fun k hk e => absurd ((own_ty ho (bo _ _ hk)).inj (show Ty W k 141 by rw [e]; exact tr)) (by decide)) (of3 (by decide)) (of3 (by decide)) (of3 (by decide)), by simp [Rp.st, hm.1, hm.2], ?_⟩
      exact f3.below (fun k hk => by rw [hk]; exact Nat.le_refl _) hW.be.size hW.be)
  clear h hc0 hc1 b0
  go_enter Tryz.func104, Tryz.ntmps104
  go_wp2_with fail
  generalize w.alloc _ = w1 at hK ⊢
  replace hK := hK.below (Below.refl _ _).drew
  generalize hgx : w.heap.size = gx at HF ⊢
  have hx0 := hK.c0
  go_region_held3 (fun W => W.cell? ⟨gr, ri, none⟩ = some (.pointer (some ⟨r.g, 0, none⟩))) (first | with_reducible exact HS.out _ hKc | with_reducible exact HS.out _ hKb | with_reducible exact HS.out _ hKa | with_reducible exact HS.out _ hK) (first
    | (go_at_call 152
       first
         | (refine (HM.out _ hKa).mono ?_; rintro e wb ⟨A', ca', O', co', rfl, hmo, hbb⟩; have hKb := hKa.below hbb; have hov2 := hov.below hbb)
         | (refine (HM.out _ hK).mono ?_; rintro e wa ⟨A', ca', O', co', rfl, hmo, hba⟩; have hKa := hK.below hba))
    | (go_at_call 94
       first
         | (refine (HA.out _ hKa).mono ?_; rintro e wb ⟨Aa, cc, rfl, hov, hbb⟩; have hKb := hKa.below hbb; have hmo2 := hmo.below hbb)
         | (refine (HA.out _ hK).mono ?_; rintro e wa ⟨Aa, cc, rfl, hov, hba⟩; have hKa := hK.below hba))
    | (go_at_call 84
       first
         | refine (HN.out _ hKb _ _ A' ca' O' co' Aa cc hmo hov2).mono ?_
         | refine (HN.out _ hKb _ _ A' ca' O' co' Aa cc hmo2 hov).mono ?_
       rintro e wc ⟨g', A2, ca2, O2, co2, q', rfl, hPB, hbc⟩
       have hKc := hKb.below hbc))
  all_goals
    have hPB' := hPB.mono hKb.be.size
    have z1 := HS1.out _ hKc
    have HCC := hideP (HC.out _ hKc)
    go_wp2_with fail
    refine HCC.out.mono ?_
    rintro e wd ⟨A, cp, rfl, ho, hbd⟩
    have hKd := hKc.below hbd
    have x := hKd.x
    rw [hgx] at x
    have hPB2 := hPB'.below hbd
    have ho2 := ho.mono hKc.be.size
    rw [hgx] at hPB2 ho2
    have HFF := hideP (HF.out wd hKd g' ⟨A2, ca2, r.m.cs, O2, co2, r.m.os⟩ q' ⟨rfl, rfl⟩ hPB2 A cp ho2)
    have f0 := x.frozen 0
    have f1 := (x.set 0 (.pointer (some ⟨g', 0, none⟩))).frozen 1
    have d0 := x.cell 0 (v := .pointer none) rfl
    have d1 := (x.set 0 (.pointer (some ⟨g', 0, none⟩))).cell 1 (v := .slice none 0 0) rfl
    have o2 := (x.set 0 (.pointer (some ⟨g', 0, none⟩))).set 1 (.slice A r.bs.length cp)
    have k0 := o2.cell 0 (v := .pointer (some ⟨g', 0, none⟩)) rfl
    have k1 := o2.cell 1 (v := .slice A r.bs.length cp) rfl
    clear o2 x hKd hKc hKb hKa hK hPB' hPB hPB2 ho2 HCC HM HA HN HC HS HS1 HF z1 hx0 ho
    go_wp2_with fail
    exact bodyPost_ret (v := .agg #[.pointer (some ⟨g', 0, none⟩), .slice A r.bs.length cp]) (by simp [results, Tryz.results104, go_sem, k0, k1]) rfl HFF.out
end Go.Proofs.YtefdipjhjgmokaaGreatDoor

set_option linter.unusedVariables false
set_option linter.unusedSimpArgs false
namespace Go.Proofs.YtefdipjhjgmokaaGreatDoor
open Go.RowKit

set_option maxHeartbeats 2000000 in
set_option maxRecDepth 100000 in
theorem ctake_any (c : Cs) (B : Nat) (i k : Int) (w : World) (h : c.Ok w B) :
    Calls Tryz.prog 45 #[.pointer (some ⟨c.s.g, 0, none⟩), .int .i64 i, .int .i64 k] w fun e w' => ∃ c', e = .returned (.int .i64 (ctQ c.st i k)) ∧ c.To w B c' w' c.s.ct (ctS c.st i k) := by
  have HI := hideP (chas_any c B i w h)
  have HK := hideP (chas_any c B k w h)
  have hlen : c.st.length = c.rs.length := by simp [Cs.st]
  by_cases hin : 0 ≤ i ∧ i < (c.rs.length : Int)
  · rw [decide_eq_true hin] at HI
    by_cases hkn : 0 ≤ k ∧ k < (c.rs.length : Int)
    · rw [decide_eq_true hkn] at HK
      obtain ⟨n, rfl⟩ : ∃ n : Nat, i = n := ⟨i.toNat, by omega⟩
      obtain ⟨j, rfl⟩ : ∃ j : Nat, k = j := ⟨k.toNat, by omega⟩
      have hn : n < c.rs.length := by omega
      have hj : j < c.rs.length := by omega
      obtain ⟨r, hr⟩ : ∃ r, c.rs[n]? = some r := ⟨_, List.getElem?_eq_getElem hn⟩
      obtain ⟨q, hq⟩ : ∃ q, c.rs[j]? = some q := ⟨_, List.getElem?_eq_getElem hj⟩
      have hst : c.st[n]? = some r.st := by simp [Cs.st, hr]
      have hsq : c.st[j]? = some q.st := by simp [Cs.st, hq]
      obtain ⟨gr, hAR, hgl, r0, r1⟩ := h.at_ hr
      obtain ⟨gr', e, _, q0, q1⟩ := h.at_ hq
      rw [hAR] at e; injection e with e; injection e with e; subst e
      have c2 := h.c2
      rw [hAR] at c2
      have g1 : (0 : Int) ≤ (n : Int) := by omega
      have g2 : (n : Int) < (c.rs.length : Int) := by omega
      have g3 : (0 : Int) ≤ (j : Int) := by omega
      have g4 : (j : Int) < (c.rs.length : Int) := by omega
      by_cases hlt : q.bs.length < r.bs.length
      · obtain ⟨e1, e2⟩ := ct_wait hst hsq hlt
        rw [e1, e2]
        have HT := hideP (fun (W : World) (hb : Below w.heap.size w W) => Cs.To.same h hb)
        have d1 : (q.bs.length : Int) < (r.bs.length : Int) := by omega
        have hb0 := Below.refl w.heap.size w
        generalize c.s.g = g at c2 HI HK ⊢
        generalize c.rs.length = rn at c2 HI HK g2 g4
        clear h hin hkn hlen hst hsq hn hj e1 e2 hlt hAR
        go_enter Tryz.func45, Tryz.ntmps45
        go_wp2_with fail
        refine HI.out.mono ?_
        rintro e w' ⟨rfl, rfl⟩
        go_wp2_with fail
        refine HK.out.mono ?_
        rintro e w' ⟨rfl, rfl⟩
        go_wp2_with fail
        go_region
        all_goals
          go_wp2_with fail
          go_ret
          exact ⟨c, rfl, HT.out _ (by first | exact hb0.drew | exact hb0)⟩
      · obtain ⟨e1, e2⟩ := ct_go hst hsq (show r.st.bs.length ≤ q.st.bs.length from by simp only [Rp.st]; omega)
        rw [e1, e2]
        have d1 : ¬ (q.bs.length : Int) < (r.bs.length : Int) := by omega
        have hW1 := h.below (Below.refl _ w).drew
        have hW2 := hW1.below (Below.refl _ _).drew
        have b2 : Below w.heap.size w w.drew.drew := ((Below.refl _ w).drew).drew
        have HC2 := hideP (fun (W : World) (hW : c.Ok W B) => show W.cell? ⟨c.s.g, 2, none⟩ = some (.slice (some ⟨gr, 0, none⟩) c.rs.length c.cR) from by rw [← hAR]; exact hW.c2)
        have hsm := h.small hq
        have hle := h.le j q hq
        have HCK := hideP (fun (W : World) (hW : c.Ok W B) => show Calls Tryz.prog 104 #[.pointer (some ⟨gr, j * 2, none⟩)] W (RetCk W q) from by
          obtain ⟨gr', e, _, q0, q1⟩ := hW.at_ hq
          rw [hAR] at e; injection e with e; injection e with e; subst e
          exact ckclone_any gr (j * 2) B q W (hW.ro j q hq) q0 q1 (by omega))
        have HTK := hideP (fun (W W1 : World) (hbw : Below w.heap.size w W) (hW : c.Ok W B) (hb : Below W.heap.size W W1) (r' : Rp) (hr' : RO W1 W.heap.size r') (hs : r'.st = q.st) =>
          show W1.frozen? ⟨gr, n * 2, none⟩ = false ∧ (W1.setCell ⟨gr, n * 2, none⟩ (.pointer (some ⟨r'.g, 0, none⟩))).frozen? ⟨gr, n * 2 + 1, none⟩ = false ∧
            W1.cell? ⟨gr, n * 2, none⟩ = some (.pointer (some ⟨r.g, 0, none⟩)) ∧ (W1.setCell ⟨gr, n * 2, none⟩ (.pointer (some ⟨r'.g, 0, none⟩))).cell? ⟨gr, n * 2 + 1, none⟩ = some (.slice r.A r.bs.length r.c) ∧
            ∃ cc, c.To w B cc ((W1.setCell ⟨gr, n * 2, none⟩ (.pointer (some ⟨r'.g, 0, none⟩))).setCell ⟨gr, n * 2 + 1, none⟩ (.slice r'.A r'.bs.length r'.c)) c.s.ct (c.st.set n q.st) from by
          obtain ⟨gr', e, f0, f1, k0, k1, T⟩ := hW.took hr hb hr' (by have : r'.bs = q.bs := congrArg Sr.bs hs; rw [this]; exact hle)
          rw [hAR] at e; injection e with e; injection e with e; subst e
          rw [hs] at T
          exact ⟨f0, f1, k0, k1, _, T.pre hbw⟩)
        have c2a := HC2.out _ hW2
        generalize c.s.g = g at c2 c2a HC2 HI HK ⊢
        generalize c.rs.length = rn at c2 c2a HC2 HI HK g2 g4
        clear h hin hkn hlen hst hsq hn hj e1 e2 hlt hAR hsm hle
        go_enter Tryz.func45, Tryz.ntmps45
        go_wp2_with fail
        refine HI.out.mono ?_
        rintro e w' ⟨rfl, rfl⟩
        go_wp2_with fail
        refine HK.out.mono ?_
        rintro e w' ⟨rfl, rfl⟩
        go_wp2_with fail
        go_region
        all_goals
          clear q0 q1 r0 r1
          go_wp2_with fail
          go_region_law (
            (go_simp
             go_at_call 104
             refine (HCK.out _ hW2).mono ?_
             rintro e w2 ⟨r', rfl, hr', hs, hb2⟩
             have c2b := HC2.out _ (hW2.below hb2)
             obtain ⟨f0, f1, k0, k1, cc, T⟩ := HTK.out _ _ b2 hW2 hb2 r' hr' hs
             have HT := hideP T
             unfold rpV
             clear T hr' hs hb2))
          all_goals
            go_wp2_with fail
            go_ret
            exact ⟨cc, rfl, HT.out⟩
    · rw [decide_eq_false hkn] at HK
      obtain ⟨q1, q2⟩ := ct_none (st := c.st) (i := i) (k := k) (by rw [hlen]; exact fun e => hkn e.2)
      rw [q1, q2]
      have HT := hideP (Cs.To.same h (Below.refl _ _))
      clear h hin hkn q1 q2 hlen
      go_enter Tryz.func45, Tryz.ntmps45
      go_wp2_with fail
      refine HI.out.mono ?_
      rintro e w' ⟨rfl, rfl⟩
      go_wp2_with fail
      refine HK.out.mono ?_
      rintro e w' ⟨rfl, rfl⟩
      go_wp2_with fail
      go_ret
      exact ⟨c, rfl, HT.out⟩
  · rw [decide_eq_false hin] at HI
    obtain ⟨q1, q2⟩ := ct_none (st := c.st) (i := i) (k := k) (by rw [hlen]; exact fun e => hin e.1)
    rw [q1, q2]
    have HT := hideP (Cs.To.same h (Below.refl _ _))
    clear h hin q1 q2 hlen HK
    go_enter Tryz.func45, Tryz.ntmps45
    go_wp2_with fail
    refine HI.out.mono ?_
    rintro e w' ⟨rfl, rfl⟩
    go_wp2_with fail
    go_ret
    exact ⟨c, rfl, HT.out⟩
end Go.Proofs.YtefdipjhjgmokaaGreatDoor

set_option linter.unusedVariables false
set_option linter.unusedSimpArgs false
namespace Go.Proofs.YtefdipjhjgmokaaGreatDoor
open Go.RowKit

theorem inpInfo : (Tryz.prog.info? 146).map (fun i => (i.zero, i.size, i.bytes)) = some (some (.slice none 0 0), 1, 24) := by kernel_rfl
theorem made_nils (n : Nat) : (madeCells (Value.slice none 0 0).cells (n * 1)).toList = List.replicate n (.slice none 0 0) := by
  rw [Nat.mul_one, madeCells, Array.toList_map]
  apply List.ext_getElem?
  intro i
  simp [Value.cells, Nat.mod_one]
  by_cases h : i < n <;> simp [h, List.getElem?_replicate]
theorem run_make_one (w : World) : (Instr.makeSlice 146 (.int .i64 1) (.int .i64 1)).run Tryz.prog w = .ok (.slice (some ⟨w.heap.size, 0, none⟩) 1 1) (w.alloc (.cells #[.slice none 0 0] 144)) := by
  obtain ⟨i0, hi0, hz0, hz1, hz2⟩ := info_parts batInfo
  have h := run_make (P := Tryz.prog) w 146 144 i0 _ Tryz.underlying146 hi0 hz0 .i64 .i64 1 1 (by decide) (by decide) (by rw [hz2]; decide) (by decide)
  rw [hz1] at h
  have e : madeCells (Value.slice none 0 0).cells (1 * 1) = #[.slice none 0 0] := Array.toList_inj.1 (made_nils 1)
  have e2 : (Int.toNat 1 : Nat) = 1 := rfl
  rw [e2, e] at h
  exact h
theorem OR.of_boxM {w : World} {g B : Nat} {t : TypeId} {v : Value} (h : Box w g t #[v]) (hB : B ≤ g) : OR w B t (some ⟨g, 0, none⟩) 1 [v] :=
  ⟨rfl, .inr ⟨g, 1, #[v], rfl, hB, h, Nat.le_refl _, by unfold maxLen; decide, rfl, rfl⟩⟩
/-- while the inputs are made -/
structure NwM (w : World) (g gi n : Nat) (rows : List In) (wr : World) : Prop where
  box : Box wr g 48 #[.slice (some ⟨gi, 0, none⟩) n n, .int .i64 0]
  low : w.heap.size ≤ g
  row : OR wr w.heap.size 146 (some ⟨gi, 0, none⟩) n (rows.map inV ++ List.replicate (n - rows.length) (.slice none 0 0))
  inp : ∀ x ∈ rows, x.bs = [bt0] ∧ OR wr w.heap.size 144 x.A x.c [.slice none 0 0]
  ap : rows.Pairwise fun x y => blk x.A ≠ blk y.A
  len : rows.length ≤ n
  be : Below w.heap.size w wr
/-- one input more -/
theorem NwM.step {w wr : World} {g gi n : Nat} {rows : List In} (h : NwM w g gi n rows wr) (hl : rows.length < n) :
    (wr.alloc (.cells #[.slice none 0 0] 144)).cell? ⟨g, 0, none⟩ = some (.slice (some ⟨gi, 0, none⟩) n n) ∧
      (wr.alloc (.cells #[.slice none 0 0] 144)).frozen? ⟨gi, rows.length, none⟩ = false ∧ (wr.alloc (.cells #[.slice none 0 0] 144)).cell? ⟨gi, rows.length, none⟩ = some (.slice none 0 0) ∧
      NwM w g gi n (rows ++ [⟨some ⟨wr.heap.size, 0, none⟩, 1, [bt0]⟩]) ((wr.alloc (.cells #[.slice none 0 0] 144)).setCell ⟨gi, rows.length, none⟩ (.slice (some ⟨wr.heap.size, 0, none⟩) 1 1)) := by
  have al := (Below.refl wr.heap.size wr).alloc (Nat.le_refl _) (.cells #[.slice none 0 0] 144)
  have hbx := h.box.below al
  have hrow := h.row.below al
  have hnew := OR.of_boxM (Box.new wr 144 #[.slice none 0 0]) h.be.size
  have hll : (rows.map inV ++ List.replicate (n - rows.length) (Value.slice none 0 0)).length = n := by simp; omega
  have hs := hrow.set_ (k := rows.length) (by rw [hll]; exact hl) (.slice (some ⟨wr.heap.size, 0, none⟩) 1 1)
  have ti : Ty (wr.alloc (.cells #[.slice none 0 0] 144)) gi 146 := own_ty hrow rfl
  have gs := grown_set (wr.alloc (.cells #[.slice none 0 0] 144)) gi rows.length (.slice (some ⟨wr.heap.size, 0, none⟩) 1 1)
  have gne : g ≠ gi := fun e => absurd (hbx.ty.inj (show Ty _ g 146 by rw [e]; exact ti)) (by decide)
  have hlo : w.heap.size ≤ gi := (World.ownsRow.lt h.row gi rfl).1
  refine ⟨hbx.cell 0 rfl, hrow.frozen_ _, ?_, hbx.grown gs (fun e => gne (by injection e)), h.low, ?_, fun x hx => ?_, ?_, by simp; omega, (h.be.trans (al.mono h.be.size)).setCell (p := ⟨gi, rows.length, none⟩) hlo _⟩
  · obtain ⟨b', o', e, _, hc⟩ := hrow.vs rows.length (.slice none 0 0) (by rw [List.getElem?_append_right (by simp), List.length_map, Nat.sub_self, List.getElem?_replicate, if_pos (by omega)])
    injection e with e
    injection e with e1 e2 _
    subst e1; subst e2
    rw [Nat.zero_add] at hc
    exact hc
  · have e : (rows.map inV ++ List.replicate (n - rows.length) (Value.slice none 0 0)).set rows.length (.slice (some ⟨wr.heap.size, 0, none⟩) 1 1) = (rows ++ [(⟨some ⟨wr.heap.size, 0, none⟩, 1, [bt0]⟩ : In)]).map inV ++ List.replicate (n - (rows ++ [(⟨some ⟨wr.heap.size, 0, none⟩, 1, [bt0]⟩ : In)]).length) (.slice none 0 0) := by
      obtain ⟨m, hm⟩ : ∃ m, n - rows.length = m + 1 := ⟨n - rows.length - 1, by omega⟩
      rw [List.set_append_right _ _ (by simp), hm, List.length_append, List.length_singleton, show n - (rows.length + 1) = m by omega, List.map_append, List.append_assoc]
      simp [List.replicate_succ, inV]
    rw [← e]; exact hs
  · rcases List.mem_append.1 hx with hx | hx
    · exact ⟨(h.inp x hx).1, own_keep ((h.inp x hx).2.below al) gs fun q hq => by injection hq with hq; subst hq; exact ⟨_, ti, by decide⟩⟩
    · rw [List.mem_singleton] at hx
      subst hx
      exact ⟨rfl, own_keep hnew gs fun q hq => by injection hq with hq; subst hq; exact ⟨_, ti, by decide⟩⟩
  · rw [List.pairwise_append]
    refine ⟨h.ap, List.pairwise_singleton _ _, fun x hx y hy e => ?_⟩
    rw [List.mem_singleton] at hy
    subst hy
    have := (World.ownsRow.lt (h.inp x hx).2 wr.heap.size (by rw [ownBlock_slice, e]; rfl)).2
    omega
/-- all inputs are made -/
theorem NwM.done {w wr : World} {g gi n : Nat} {rows : List In} (h : NwM w g gi n rows wr) (hl : rows.length = n) (h1 : 1 ≤ n) (h4 : n ≤ 4) :
    (⟨g, mTx, some ⟨gi, 0, none⟩, n, rows, 0⟩ : Ms).Ok wr w.heap.size ∧ ctM rows = List.replicate n [[]] := by
  have hat : ∀ {i : Nat} {x : In}, rows[i]? = some x → x.bs = [bt0] ∧ OR wr w.heap.size 144 x.A x.c [.slice none 0 0] := fun hi => h.inp _ (List.mem_of_getElem? hi)
  have hb1 : ∀ {i k : Nat} {x : In} {b : Bt}, rows[i]? = some x → x.bs[k]? = some b → b = bt0 := fun hi hk => by
    rw [(hat hi).1] at hk
    have := List.mem_of_getElem? hk
    simpa using this
  have hct : ctM rows = List.replicate n [[]] := by
    rw [← hl]
    refine List.eq_replicate_iff.2 ⟨by simp [ctM], fun b hb => ?_⟩
    obtain ⟨x, hx, rfl⟩ := List.mem_map.1 hb
    unfold ctI
    rw [(h.inp x hx).1]; rfl
  refine ⟨⟨⟨?_, h.low, ?_, fun i x hi => ?_, fun i x hi e => ?_, fun i x k b hi hk => ?_, fun i j x y hi hj e => ?_, fun i j k l x y a b hi hj hk hl2 hnn => ?_, fun i x k b hi hk e he => ?_⟩, ⟨fun e => ?_, by simp only; omega, fun i x hi => ?_, ?_, by simp only; omega⟩⟩, hct⟩
  · have := h.box
    simp only [hl]
    exact this
  · have := h.row
    rw [hl, Nat.sub_self, List.replicate_zero, List.append_nil] at this
    exact this
  · rw [(hat hi).1]; exact (hat hi).2
  · rw [(hat hi).1] at e; cases e
  · rw [hb1 hi hk]; exact EW.nil _ _
  · rcases Nat.lt_trichotomy i j with hlt | rfl | hgt
    · obtain ⟨hi', rfl⟩ := List.getElem?_eq_some_iff.1 hi
      obtain ⟨hj', rfl⟩ := List.getElem?_eq_some_iff.1 hj
      exact absurd e (List.pairwise_iff_getElem.1 h.ap i j hi' hj' hlt)
    · rfl
    · obtain ⟨hi', rfl⟩ := List.getElem?_eq_some_iff.1 hi
      obtain ⟨hj', rfl⟩ := List.getElem?_eq_some_iff.1 hj
      exact absurd e.symm (List.pairwise_iff_getElem.1 h.ap j i hj' hi' hgt)
  · rw [hb1 hi hk] at hnn; exact absurd rfl hnn
  · rw [hb1 hi hk] at he; simp [bt0] at he
  · simp only at e; rw [e] at hl; simp at hl; omega
  · simp only at hi; rw [(hat hi).1]; simp
  · simp only
    rw [hct]
    clear hct hl h h1 h4 hat hb1
    induction n with
    | zero => rfl
    | succ n ih => simp only [totM, List.replicate_succ, List.map_cons, List.sum_cons] at ih ⊢; rw [← ih]; rfl
def NwI (w : World) (g gi n : Nat) (i : Value) (wr : World) : Prop := ∃ rows : List In, i = .int .i64 (rows.length : Nat) ∧ NwM w g gi n rows wr
theorem NwM.below {w wr w' : World} {g gi n : Nat} {rows : List In} (h : NwM w g gi n rows wr) (hb : Below wr.heap.size wr w') : NwM w g gi n rows w' :=
  ⟨h.box.below hb, h.low, h.row.below hb, fun x hx => ⟨(h.inp x hx).1, (h.inp x hx).2.below hb⟩, h.ap, h.len, h.be.trans (hb.mono h.be.size)⟩
theorem NwI.drew_ {w wr : World} {g gi n : Nat} {i i' : Value} (h : NwI w g gi n i wr) (hi : i' = i) : NwI w g gi n i' wr.drew := by
  obtain ⟨rows, e, h⟩ := h
  exact ⟨rows, hi.trans e, h.below (Below.refl _ _).drew⟩
/-- a Merge is handed back -/
def RetNm (w : World) (n : Nat) (e : Ending) (w' : World) : Prop := ∃ s : Ms, e = .returned (.tuple #[.pointer (some ⟨s.g, 0, none⟩), .int .i64 0]) ∧ s.x = mTx ∧ s.Ok w' w.heap.size ∧ s.ct = List.replicate n [[]] ∧ Below w.heap.size w w'
set_option maxHeartbeats 1000000 in
set_option maxRecDepth 100000 in
theorem mnew_bad (n : Int) (w : World) (h : ¬ (1 ≤ n ∧ n ≤ 4)) :
    Calls Tryz.prog 23 #[.int .i64 n] w fun e w' => e = .returned (.tuple #[.pointer none, .int .i64 1]) ∧ w = w' := by
  by_cases h1 : n < 1
  · go_enter Tryz.func23, Tryz.ntmps23
    go_wp2_with fail
    go_ret2
    exact ⟨rfl, rfl⟩
  · have h2 : 4 < n := by omega
    have h3 : decide (n < 1) = false := decide_eq_false h1
    go_enter Tryz.func23, Tryz.ntmps23
    go_wp2_with fail
    go_ret2
    exact ⟨rfl, rfl⟩
set_option maxHeartbeats 1000000 in
set_option maxRecDepth 100000 in
theorem mnew_ok (n : Nat) (w : World) (h1 : 1 ≤ n) (h4 : n ≤ 4) :
    Calls Tryz.prog 23 #[.int .i64 (n : Int)] w (RetNm w n) := by
  obtain ⟨i0, hi0, hz0, hz1, hz2⟩ := info_parts inpInfo
  obtain ⟨w2, hmk, hown, hg2⟩ := run_make_full (P := Tryz.prog) w w.heap.size 46 146 i0 _ 1 Tryz.underlying46 hi0 hz0 hz1 .i64 .i64 n (by rw [hz2]; omega) (by unfold maxLen; omega) (Nat.le_refl _)
  rw [made_nils] at hown
  have hb2 : Below w.heap.size w w2 := ⟨hg2.os, hg2.tape, hg2.output, hg2.size, fun k hk => hg2.block k hk (by simp)⟩
  have al := hb2.alloc hb2.size (.cells #[.slice (some ⟨w.heap.size, 0, none⟩) n n, .int .i64 0] 48)
  have hN : NwM w w2.heap.size w.heap.size n [] (w2.alloc (.cells #[.slice (some ⟨w.heap.size, 0, none⟩) n n, .int .i64 0] 48)) :=
    ⟨Box.new _ _ _, hb2.size, by
      have : OR w2 w.heap.size 146 (some ⟨w.heap.size, 0, none⟩) n (List.replicate n (.slice none 0 0)) := by unfold OR; rw [List.length_replicate]; exact hown
      exact this.below ((Below.refl w2.heap.size w2).alloc (Nat.le_refl _) _), by simp, .nil, Nat.zero_le _, al⟩
  have HN := hideP (show NwI w w2.heap.size w.heap.size n (.int .i64 0) _ from ⟨[], rfl, hN⟩)
  have c0 := hN.box.cell 0 (v := .slice (some ⟨w.heap.size, 0, none⟩) n n) rfl
  have g1 : ¬ ((n : Int) < 1) := by omega
  have g2 : ¬ ((4 : Int) < (n : Int)) := by omega
  have d1 : decide ((n : Int) < 1) = false := decide_eq_false g1
  clear hown hg2 hb2 al hN hi0 hz0 hz1 hz2
  have hm1 := run_make_one
  have HB := hideP h1
  have HB4 := hideP h4
  generalize hgi : w.heap.size = gi at HN hmk c0
  have HGI := hideP hgi
  clear hgi
  go_enter Tryz.func23, Tryz.ntmps23
  go_wp2_with fail
  generalize w2.heap.size = g at HN c0 ⊢
  generalize w2.alloc _ = w3 at HN c0 ⊢
  go_wp2_with fail
  go_loopw [21] (NwI w g gi n) (fun i _ => n - (intOf i).toNat)
  case atStart => exact HN.out
  case round =>
    obtain ⟨rows, rfl, hN⟩ := hrel
    clear HN c0 hmk
    by_cases hlt : rows.length < n
    · have hl := hN.len
      obtain ⟨c0a, fz, c1a, hS⟩ := hN.step hlt
      have c0 := hN.box.cell 0 (v := .slice (some ⟨gi, 0, none⟩) n n) rfl
      have HS := hideP (show NwI w g gi n (.int .i64 ((rows.length + 1 : Nat) : Int)) _ from ⟨_, by simp, hS⟩)
      have g3 : (0 : Int) ≤ (rows.length : Int) := by omega
      have g4 : (rows.length : Int) < (n : Int) := by omega
      have HNN := hideP (show NwI w g gi n (.int .i64 ((rows.length : Nat) : Int)) wr from ⟨_, rfl, hN⟩)
      clear hN hS
      generalize rows.length = k at c0a fz c1a HS g3 g4 hlt hl HNN ⊢
      go_wp2_with fail
      go_region
      all_goals
        go_wp2_with fail
        go_roundw
        case rel => exact HS.out.drew_ (by go_num)
        case measure => simp [intOf]; omega
    · obtain ⟨hS, hct⟩ := hN.done (by have := hN.len; omega) HB.out HB4.out
      have HF := hideP (show RetNm w n (.returned (.tuple #[.pointer (some ⟨g, 0, none⟩), .int .i64 0])) wr from ⟨_, rfl, rfl, hS, hct, hN.be⟩)
      have hrl : rows.length = n := by have := hN.len; omega
      rw [hrl]
      clear hN hS hct hlt hrl
      go_wp2_with fail
      go_ret2
      exact HF.out
end Go.Proofs.YtefdipjhjgmokaaGreatDoor
