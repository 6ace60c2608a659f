/-
  (*copies.Copies).Step.
  (*copies.Copies).Take.
-/
import Derived.Test.YtefdipjhjgmokaaGreatDoorBx18
import Derived.Test.YtefdipjhjgmokaaGreatDoorBx17
import Derived.Test.YtefdipjhjgmokaaGreatDoorBx25
import Derived.Deep.RegionHeld3
import Derived.Test.YtefdipjhjgmokaaGreatDoorBx20
set_option linter.unusedVariables false
set_option linter.unusedSimpArgs false
namespace Go.Proofs.YtefdipjhjgmokaaGreatDoor
open Go.RowKit

set_option maxHeartbeats 2000000 in
set_option maxRecDepth 100000 in
theorem cstep_any (c : Cs) (B : Nat) (i : Int) (w : World) (h : c.Ok w B) :
    Calls Tryz.prog 18 #[.pointer (some ⟨c.s.g, 0, none⟩), .int .i64 i] w fun e w' => ∃ c', e = .returned (.tuple #[.bool (cpB (logM c.s.ct) c.st i), .int .i64 (cpQ (logM c.s.ct) c.st i)]) ∧ c.To w B c' w' c.s.ct (cpS (logM c.s.ct) c.st i) := by
  have HH := hideP (chas_any c B i w h)
  have hlen : c.st.length = c.rs.length := by simp [Cs.st]
  by_cases hin : 0 ≤ i ∧ i < (c.rs.length : Int)
  · rw [decide_eq_true hin] at HH
    obtain ⟨n, rfl⟩ : ∃ n : Nat, i = n := ⟨i.toNat, by omega⟩
    have hn : n < c.rs.length := by omega
    obtain ⟨r, hr⟩ : ∃ r, c.rs[n]? = some r := ⟨_, List.getElem?_eq_getElem hn⟩
    have hst : c.st[n]? = some r.st := by simp [Cs.st, hr]
    have bd := (Below.refl w.heap.size w).drew
    have hW := h.below bd
    obtain ⟨gr, hAR, hgl, q0, q1⟩ := h.at_ hr
    have c2 := hW.c2
    rw [hAR] at c2
    have HL := hideP (clog_any c B _ hW)
    have g1 : (0 : Int) ≤ (n : Int) := by omega
    have g2 : (n : Int) < (c.rs.length : Int) := by omega
    have HC2 := hideP (fun (W : World) (hW : c.Ok W B) => show W.cell? ⟨c.s.g, 2, none⟩ = some (.slice (some ⟨gr, 0, none⟩) c.rs.length c.cR) from by rw [← hAR]; exact hW.c2)
    have HOK := hideP (fun (W : World) (hb : Below w.drew.heap.size w.drew W) => hW.below hb)
    have HAT := hideP (fun (W : World) (hW : c.Ok W B) => show W.cell? ⟨gr, n * 2 + 1, none⟩ = some (.slice r.A r.bs.length r.c) from by
      obtain ⟨gr', e, _, _, q1⟩ := hW.at_ hr
      rw [hAR] at e; injection e with e; injection e with e; subst e
      exact q1)
    have hsm := h.small hr
    have HX := hideP (fun (W : World) (hW : c.Ok W B) (x : Em) (hx : ES W x) (hk : chkE (entOf x) = 0) => show Calls Tryz.prog 93 #[.pointer (some ⟨gr, n * 2, none⟩), emV x] W (RetEx W B r.g r.m r.l (entOf x)) from by
      obtain ⟨gr', e, _, q0, _⟩ := hW.at_ hr
      rw [hAR] at e; injection e with e; injection e with e; subst e
      exact exec_any gr (n * 2) B r.g r.m r.l r.q x W (hW.ro n r hr).pb q0 hx hk)
    have HCK := hideP (fun (x : Ent) (hx : x ∈ logM c.s.ct) => h.ms.log_chk hx)
    have HWT := hideP (fun (W : World) (hb : Below w.drew.heap.size w.drew W) (hle : (logM c.s.ct).length ≤ r.bs.length) => show cpQ (logM c.s.ct) c.st (n : Int) = 6 ∧ cpB (logM c.s.ct) c.st (n : Int) = false ∧ c.To w B c W c.s.ct (cpS (logM c.s.ct) c.st (n : Int)) from by
      obtain ⟨e1, e2, e3⟩ := cp_wait hst hle
      exact ⟨e1, e2, by rw [e3]; exact Cs.To.same h (bd.trans (hb.mono bd.size))⟩)
    -- what comes of an entry that is there
    have HGO := hideP (fun (x : Em) (hx : (logM c.s.ct)[r.bs.length]? = some (entOf x)) (W W3 : World) (hb : Below w.drew.heap.size w.drew W) (m' : Mp) (l' : List Pr) (q' : Dv) (hp : PB W3 B r.g m' l' q') (hg : W.grownBy W3 (some r.g)) (hO : blk m'.O = blk r.m.O ∨ ∀ k, blk m'.O = some k → W.heap.size ≤ k)
        (hs : ∀ bs, stepR ⟨valOf r.l, r.m.cs, r.m.os, bs⟩ (entOf x) = ⟨valOf l', m'.cs, m'.os, bs ++ [doneE (valOf r.l) (entOf x)]⟩) (ty : TypeId) =>
      show W3.cell? ⟨gr, n * 2 + 1, none⟩ = some (.slice r.A r.bs.length r.c) ∧ cpQ (logM c.s.ct) c.st (n : Int) = 0 ∧ cpB (logM c.s.ct) c.st (n : Int) = doneE (valOf r.l) (entOf x) ∧
        ∃ A' c' w2 m, (Builtin.append_ #[90, 90] ty #[.slice r.A r.bs.length r.c, .slice (some ⟨W3.heap.size, 0, none⟩) 1 1]).run Tryz.prog (W3.alloc (.cells #[.bool (doneE (valOf r.l) (entOf x))] 4)) = .ok (.slice A' m c') w2 ∧
          w2.cell? ⟨gr, n * 2 + 1, none⟩ = some (.slice r.A r.bs.length r.c) ∧ w2.frozen? ⟨gr, n * 2 + 1, none⟩ = false ∧ ∃ cc, c.To w B cc (w2.setCell ⟨gr, n * 2 + 1, none⟩ (.slice A' m c')) c.s.ct (cpS (logM c.s.ct) c.st (n : Int)) from by
      have hW := h.below (bd.trans (hb.mono bd.size))
      have T1 := hW.part hr hp hg hO
      have hr3 : (c.rs.set n ⟨r.g, m', l', q', r.A, r.c, r.bs⟩)[n]? = some ⟨r.g, m', l', q', r.A, r.c, r.bs⟩ := by rw [List.getElem?_set, if_pos rfl, if_pos hn]
      obtain ⟨A', c', w2, gr', hrun, e, k1, k2, T2⟩ := T1.ok.told hr3 (doneE (valOf r.l) (entOf x)) (List.getElem?_eq_some_iff.1 hx).1 ty
      simp only at e
      rw [hAR] at e; injection e with e; injection e with e; subst e
      obtain ⟨gr', e, _, _, k3⟩ := T1.ok.at_ hr3
      simp only at e
      rw [hAR] at e; injection e with e; injection e with e; subst e
      obtain ⟨e1, e2, e3⟩ := cp_go hst hx
      have T := (T1.trans T2).pre (bd.trans (hb.mono bd.size))
      have e4 : (Cs.st ⟨c.s, c.AR, c.cR, c.rs.set n ⟨r.g, m', l', q', r.A, r.c, r.bs⟩⟩).set n ⟨valOf l', m'.cs, m'.os, r.bs ++ [doneE (valOf r.l) (entOf x)]⟩ = cpS (logM c.s.ct) c.st (n : Int) := by
        rw [e3, show stepR r.st (entOf x) = _ from hs r.bs]
        simp [Cs.st, List.map_set]
      have T' := T
      rw [e4] at T'
      exact ⟨k3, e1, e2, A', c', w2, _, hrun, k1, k2, _, T'⟩)
    generalize hlg : logM c.s.ct = lg at HL HCK HWT HGO ⊢
    generalize c.s.g = g at c2 HC2 HH HL ⊢
    generalize hst2 : c.st = st at HWT HGO ⊢
    have hcl : c.rs.length ≤ 4 := h.few
    generalize c.rs.length = rn at c2 HC2 HH g2 hcl
    clear h hin hlen hst hn hlg hst2 q0 q1 hAR
    go_enter Tryz.func18, Tryz.ntmps18
    go_wp2_with fail
    refine HH.out.mono ?_
    rintro e w' ⟨rfl, rfl⟩
    go_wp2_with fail
    go_region_held3 (fun W => W.cell? ⟨g, 2, none⟩ = some (.slice (some ⟨gr, 0, none⟩) rn c.cR)) (first | with_reducible exact c2b | with_reducible exact c2) (
      (go_at_call 36; refine HL.out.mono ?_; rintro e w2 ⟨A, cc, xs, rfl, hxs, hew, hb2⟩; have h2 := HOK.out w2 hb2; have c2b := HC2.out w2 h2))
    all_goals
      have hxl : xs.length = lg.length := by rw [← hxs, List.length_map]
      have q1 := HAT.out w2 h2
      by_cases hle : lg.length ≤ r.bs.length
      · obtain ⟨e1, e2, T⟩ := HWT.out w2 hb2 hle
        have HE := hideP (And.intro e1 e2)
        have d1 : (xs.length : Int) ≤ (r.bs.length : Int) := by omega
        have HT := hideP T
        clear T e1 e2 hle hew hxs hxl
        go_wp2_with fail
        go_ret2
        exact ⟨c, by rw [HE.out.1, HE.out.2]; rfl, HT.out⟩
      · have hlt : r.bs.length < xs.length := by omega
        obtain ⟨bb, oo, hA, hbl, p0, p1, p2, p3⟩ := hew.el.cells r.bs.length xs[r.bs.length] (List.getElem?_eq_getElem hlt)
        have hes := hew.el.es _ (List.getElem_mem hlt)
        have hxe : lg[r.bs.length]? = some (entOf xs[r.bs.length]) := by rw [← hxs, List.getElem?_map, List.getElem?_eq_getElem hlt]; rfl
        generalize xs[r.bs.length] = x at p0 p1 p2 p3 hes hxe
        have HXX := hideP (HX.out w2 h2 x hes (HCK.out _ (List.mem_of_getElem? hxe)))
        have d1 : ¬ (xs.length : Int) ≤ (r.bs.length : Int) := by omega
        have g3 : (0 : Int) ≤ (r.bs.length : Int) := by omega
        have g4 : (r.bs.length : Int) < (xs.length : Int) := by omega
        subst hA
        unfold emV emC at HXX
        have HGG := hideP (HGO.out x hxe w2)
        have HB2 := hideP hb2
        clear hew hxs hxl hle hlt hes hxe HX HGO HWT hb2 h2 c2b HCK
        generalize r.bs.length = bl at q1 p0 p1 p2 p3 d1 g3 g4 HGG hsm
        go_wp2_with fail
        refine HXX.out.mono ?_
        clear HXX
        rintro e w3 ⟨rfl, m', l', q', hp, hg, hs, hO⟩
        obtain ⟨k3, e1, e2, A', c', w4, m4, hrun, k1, k2, cc', T⟩ := HGG.out w3 HB2.out m' l' q' hp hg hO hs 90
        have HE := hideP (And.intro e1 e2)
        have HR := hideP hrun
        have HT := hideP T
        clear hrun T e1 e2 hp hg hs hO HGG p0 p1 p2 p3 q1
        generalize doneE (valOf r.l) (entOf x) = dn at HR HE ⊢
        go_wp2_with (at_builtin; refine Lib.wpList_append_run _ rfl _ _ _ _ rfl _ _ rfl rfl _ _ HR.out ?_)
        go_ret2
        exact ⟨cc', by rw [HE.out.1, HE.out.2]; rfl, HT.out⟩
  · rw [decide_eq_false hin] at HH
    obtain ⟨q1, q2, q3⟩ := cp_none (log := logM c.s.ct) (st := c.st) (i := i) (by rw [hlen]; exact hin)
    rw [q1, q2, q3]
    have HT := hideP (Cs.To.same h (Below.refl _ _))
    clear h hin q1 q2 q3 hlen
    go_enter Tryz.func18, Tryz.ntmps18
    go_wp2_with fail
    refine HH.out.mono ?_
    rintro e w' ⟨rfl, rfl⟩
    go_wp2_with fail
    go_ret2
    exact ⟨c, rfl, HT.out⟩
end Go.Proofs.YtefdipjhjgmokaaGreatDoor

set_option linter.unusedVariables false
set_option linter.unusedSimpArgs false
namespace Go.Proofs.YtefdipjhjgmokaaGreatDoor
open Go.RowKit

set_option maxHeartbeats 2000000 in
set_option maxRecDepth 100000 in
theorem ctake_any (c : Cs) (B : Nat) (i k : Int) (w : World) (h : c.Ok w B) :
    Calls Tryz.prog 45 #[.pointer (some ⟨c.s.g, 0, none⟩), .int .i64 i, .int .i64 k] w fun e w' => ∃ c', e = .returned (.int .i64 (ctQ c.st i k)) ∧ c.To w B c' w' c.s.ct (ctS c.st i k) := by
  have HI := hideP (chas_any c B i w h)
  have HK := hideP (chas_any c B k w h)
  have hlen : c.st.length = c.rs.length := by simp [Cs.st]
  by_cases hin : 0 ≤ i ∧ i < (c.rs.length : Int)
  · rw [decide_eq_true hin] at HI
    by_cases hkn : 0 ≤ k ∧ k < (c.rs.length : Int)
    · rw [decide_eq_true hkn] at HK
      obtain ⟨n, rfl⟩ : ∃ n : Nat, i = n := ⟨i.toNat, by omega⟩
      obtain ⟨j, rfl⟩ : ∃ j : Nat, k = j := ⟨k.toNat, by omega⟩
      have hn : n < c.rs.length := by omega
      have hj : j < c.rs.length := by omega
      obtain ⟨r, hr⟩ : ∃ r, c.rs[n]? = some r := ⟨_, List.getElem?_eq_getElem hn⟩
      obtain ⟨q, hq⟩ : ∃ q, c.rs[j]? = some q := ⟨_, List.getElem?_eq_getElem hj⟩
      have hst : c.st[n]? = some r.st := by simp [Cs.st, hr]
      have hsq : c.st[j]? = some q.st := by simp [Cs.st, hq]
      obtain ⟨gr, hAR, hgl, r0, r1⟩ := h.at_ hr
      obtain ⟨gr', e, _, q0, q1⟩ := h.at_ hq
      rw [hAR] at e; injection e with e; injection e with e; subst e
      have c2 := h.c2
      rw [hAR] at c2
      have g1 : (0 : Int) ≤ (n : Int) := by omega
      have g2 : (n : Int) < (c.rs.length : Int) := by omega
      have g3 : (0 : Int) ≤ (j : Int) := by omega
      have g4 : (j : Int) < (c.rs.length : Int) := by omega
      by_cases hlt : q.bs.length < r.bs.length
      · obtain ⟨e1, e2⟩ := ct_wait hst hsq hlt
        rw [e1, e2]
        have HT := hideP (fun (W : World) (hb : Below w.heap.size w W) => Cs.To.same h hb)
        have d1 : (q.bs.length : Int) < (r.bs.length : Int) := by omega
        have hb0 := Below.refl w.heap.size w
        generalize c.s.g = g at c2 HI HK ⊢
        generalize c.rs.length = rn at c2 HI HK g2 g4
        clear h hin hkn hlen hst hsq hn hj e1 e2 hlt hAR
        go_enter Tryz.func45, Tryz.ntmps45
        go_wp2_with fail
        refine HI.out.mono ?_
        rintro e w' ⟨rfl, rfl⟩
        go_wp2_with fail
        refine HK.out.mono ?_
        rintro e w' ⟨rfl, rfl⟩
        go_wp2_with fail
        go_region
        all_goals
          go_wp2_with fail
          go_ret
          exact ⟨c, rfl, HT.out _ (by first | exact hb0.drew | exact hb0)⟩
      · obtain ⟨e1, e2⟩ := ct_go hst hsq (show r.st.bs.length ≤ q.st.bs.length from by simp only [Rp.st]; omega)
        rw [e1, e2]
        have d1 : ¬ (q.bs.length : Int) < (r.bs.length : Int) := by omega
        have hW1 := h.below (Below.refl _ w).drew
        have hW2 := hW1.below (Below.refl _ _).drew
        have b2 : Below w.heap.size w w.drew.drew := ((Below.refl _ w).drew).drew
        have HC2 := hideP (fun (W : World) (hW : c.Ok W B) => show W.cell? ⟨c.s.g, 2, none⟩ = some (.slice (some ⟨gr, 0, none⟩) c.rs.length c.cR) from by rw [← hAR]; exact hW.c2)
        have hsm := h.small hq
        have hle := h.le j q hq
        have HCK := hideP (fun (W : World) (hW : c.Ok W B) => show Calls Tryz.prog 104 #[.pointer (some ⟨gr, j * 2, none⟩)] W (RetCk W q) from by
          obtain ⟨gr', e, _, q0, q1⟩ := hW.at_ hq
          rw [hAR] at e; injection e with e; injection e with e; subst e
          exact ckclone_any gr (j * 2) B q W (hW.ro j q hq) q0 q1 (by omega))
        have HTK := hideP (fun (W W1 : World) (hbw : Below w.heap.size w W) (hW : c.Ok W B) (hb : Below W.heap.size W W1) (r' : Rp) (hr' : RO W1 W.heap.size r') (hs : r'.st = q.st) =>
          show W1.frozen? ⟨gr, n * 2, none⟩ = false ∧ (W1.setCell ⟨gr, n * 2, none⟩ (.pointer (some ⟨r'.g, 0, none⟩))).frozen? ⟨gr, n * 2 + 1, none⟩ = false ∧
            W1.cell? ⟨gr, n * 2, none⟩ = some (.pointer (some ⟨r.g, 0, none⟩)) ∧ (W1.setCell ⟨gr, n * 2, none⟩ (.pointer (some ⟨r'.g, 0, none⟩))).cell? ⟨gr, n * 2 + 1, none⟩ = some (.slice r.A r.bs.length r.c) ∧
            ∃ cc, c.To w B cc ((W1.setCell ⟨gr, n * 2, none⟩ (.pointer (some ⟨r'.g, 0, none⟩))).setCell ⟨gr, n * 2 + 1, none⟩ (.slice r'.A r'.bs.length r'.c)) c.s.ct (c.st.set n q.st) from by
          obtain ⟨gr', e, f0, f1, k0, k1, T⟩ := hW.took hr hb hr' (by have : r'.bs = q.bs := congrArg Sr.bs hs; rw [this]; exact hle)
          rw [hAR] at e; injection e with e; injection e with e; subst e
          rw [hs] at T
          exact ⟨f0, f1, k0, k1, _, T.pre hbw⟩)
        have c2a := HC2.out _ hW2
        generalize c.s.g = g at c2 c2a HC2 HI HK ⊢
        generalize c.rs.length = rn at c2 c2a HC2 HI HK g2 g4
        clear h hin hkn hlen hst hsq hn hj e1 e2 hlt hAR hsm hle
        go_enter Tryz.func45, Tryz.ntmps45
        go_wp2_with fail
        refine HI.out.mono ?_
        rintro e w' ⟨rfl, rfl⟩
        go_wp2_with fail
        refine HK.out.mono ?_
        rintro e w' ⟨rfl, rfl⟩
        go_wp2_with fail
        go_region
        all_goals
          clear q0 q1 r0 r1
          go_wp2_with fail
          go_region_law (
            (go_simp
             go_at_call 104
             refine (HCK.out _ hW2).mono ?_
             rintro e w2 ⟨r', rfl, hr', hs, hb2⟩
             have c2b := HC2.out _ (hW2.below hb2)
             obtain ⟨f0, f1, k0, k1, cc, T⟩ := HTK.out _ _ b2 hW2 hb2 r' hr' hs
             have HT := hideP T
             unfold rpV
             clear T hr' hs hb2))
          all_goals
            go_wp2_with fail
            go_ret
            exact ⟨cc, rfl, HT.out⟩
    · rw [decide_eq_false hkn] at HK
      obtain ⟨q1, q2⟩ := ct_none (st := c.st) (i := i) (k := k) (by rw [hlen]; exact fun e => hkn e.2)
      rw [q1, q2]
      have HT := hideP (Cs.To.same h (Below.refl _ _))
      clear h hin hkn q1 q2 hlen
      go_enter Tryz.func45, Tryz.ntmps45
      go_wp2_with fail
      refine HI.out.mono ?_
      rintro e w' ⟨rfl, rfl⟩
      go_wp2_with fail
      refine HK.out.mono ?_
      rintro e w' ⟨rfl, rfl⟩
      go_wp2_with fail
      go_ret
      exact ⟨c, rfl, HT.out⟩
  · rw [decide_eq_false hin] at HI
    obtain ⟨q1, q2⟩ := ct_none (st := c.st) (i := i) (k := k) (by rw [hlen]; exact fun e => hin e.1)
    rw [q1, q2]
    have HT := hideP (Cs.To.same h (Below.refl _ _))
    clear h hin q1 q2 hlen HK
    go_enter Tryz.func45, Tryz.ntmps45
    go_wp2_with fail
    refine HI.out.mono ?_
    rintro e w' ⟨rfl, rfl⟩
    go_wp2_with fail
    go_ret
    exact ⟨c, rfl, HT.out⟩
end Go.Proofs.YtefdipjhjgmokaaGreatDoor
