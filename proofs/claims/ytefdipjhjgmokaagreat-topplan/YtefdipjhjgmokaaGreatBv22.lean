/-
  (*merge.Merge).Add.
-/
import Derived.Test.YtefdipjhjgmokaaGreatBv18
import Derived.Test.YtefdipjhjgmokaaGreatBv21
set_option linter.unusedVariables false
set_option linter.unusedSimpArgs false
namespace Go.Proofs.YtefdipjhjgmokaaGreat
open Go.RowKit

theorem below_dn {B : Nat} {a w : World} (h : Below B a w) (n : Nat) : Below B a (w.drewN n) := ⟨h.os, h.tape, h.output, h.size, h.block⟩
theorem addQ_none {ct : List (List (List Ent))} {i : Int} {x : Ent} (h : ¬ (0 ≤ i ∧ i < (ct.length : Int))) : addQ ct i x = 4 ∧ addC ct i x = ct := by
  have hq : addQ ct i x = 4 := by unfold addQ; rw [if_neg h]
  exact ⟨hq, by unfold addC; rw [if_neg (by rw [hq]; decide)]⟩
theorem addQ_bad {ct : List (List (List Ent))} {i : Int} {x : Ent} (h : 0 ≤ i ∧ i < (ct.length : Int)) (hc : chkE x ≠ 0) : addQ ct i x = chkE x ∧ addC ct i x = ct := by
  have hq : addQ ct i x = chkE x := by unfold addQ; rw [if_pos h, if_neg hc]
  exact ⟨hq, by unfold addC; rw [if_neg (by rw [hq]; exact hc)]⟩
theorem addQ_full {ct : List (List (List Ent))} {i : Int} {x : Ent} (h : 0 ≤ i ∧ i < (ct.length : Int)) (hc : chkE x = 0) (ht : 60 ≤ totM ct) : addQ ct i x = 2 ∧ addC ct i x = ct := by
  have hq : addQ ct i x = 2 := by unfold addQ; rw [if_pos h, if_pos hc, if_pos ht]
  exact ⟨hq, by unfold addC; rw [if_neg (by rw [hq]; decide)]⟩
theorem addQ_ok {ct : List (List (List Ent))} {i : Nat} {x : Ent} (h : i < ct.length) (hc : chkE x = 0) (ht : totM ct < 60) : addQ ct (i : Int) x = 0 ∧ addC ct (i : Int) x = addM ct i (dropE x) := by
  have hq : addQ ct (i : Int) x = 0 := by unfold addQ; rw [if_pos (by omega), if_pos hc, if_neg (by omega)]
  exact ⟨hq, by unfold addC; rw [if_pos hq, Int.toNat_natCast]⟩
theorem Gm.add {ins : List In} {added i k : Nat} {x : In} {b : Bt} (h : Gm ins added) (hi : ins[i]? = some x) (hk : x.bs[k]? = some b) (hkl : k = x.bs.length - 1) (ha : added < 60) (A : Option Addr) (c : Nat) (y : Em) : Gm (ins.set i ⟨x.A, x.c, x.bs.set k ⟨A, c, b.es ++ [y]⟩⟩) (added + 1) :=
  ⟨fun e => h.ne (by have := congrArg List.length e; simp at this; exact this), by simpa using h.few, fun j z hz => by
    rw [List.getElem?_set] at hz
    by_cases e : i = j
    · subst e
      rw [if_pos rfl, if_pos (List.getElem?_eq_some_iff.1 hi).1] at hz
      injection hz with hz
      subst hz
      simpa using h.bs i x hi
    · rw [if_neg e] at hz; exact h.bs j z hz, by
    rw [ct_add hi hk hkl, tot_add (b := ctI x) (entOf y) (by simp [ctM, hi]) (fun e => by have := congrArg List.length e; simp [ctI] at this; rw [this] at hk; simp at hk), h.cnt], by omega⟩
set_option maxHeartbeats 4000000 in
set_option maxRecDepth 100000 in
theorem madd_any (s : Ms) (B : Nat) (i : Int) (x : Em) (w : World) (h : s.Ok w B) (hx : ES w x) :
    Calls Tryz.prog 18 #[.pointer (some ⟨s.g, 0, none⟩), .int .i64 i, emV x] w fun e w' => ∃ s', e = .returned (.int .i64 (addQ s.ct i (entOf x))) ∧ s.To w B s' w' (addC s.ct i (entOf x)) := by
  have b0 := (Below.refl w.heap.size w).alloc (Nat.le_refl _) (.cells (emC x) 37)
  have x0 := Box.new w 37 (emC x)
  have hx1 := hx.below b0
  have h1 := h.below b0
  have HH := hideP (has_any B s.g s.x s.AI s.cI s.ins s.added i _ h1.mg)
  have hlen : s.ct.length = s.ins.length := by simp [Ms.ct, ctM]
  have e0 := x0.cell 0 (v := .slice x.D x.d.length x.c) rfl
  have e1 := x0.cell 1 (v := .bool x.isM) rfl
  have e2 := x0.cell 2 (v := .slice x.m.A x.m.cs.length x.m.ca) rfl
  have e3 := x0.cell 3 (v := .slice x.m.O x.m.os.length x.m.co) rfl
  by_cases hin : 0 ≤ i ∧ i < (s.ins.length : Int)
  · rw [decide_eq_true hin] at HH
    have HK := hideP (mcheck_any x _ hx1)
    by_cases hck : chkE (entOf x) = 0
    · rw [hck] at HK
      by_cases hful : 60 ≤ s.added
      · obtain ⟨q1, q2⟩ := addQ_full (ct := s.ct) (i := i) (x := entOf x) (by rw [hlen]; exact hin) hck (by have := h.gm.cnt; unfold Ms.ct; omega)
        rw [q1, q2]
        have HT := hideP (fun (w' : World) (hb : Below _ _ w') => show s.To w B s w' s.ct from Ms.To.same h (b0.trans (hb.mono b0.size)))
        have HA := hideP (fun (w' : World) (hb : Below _ _ w') => (h1.below hb).mg.c1)
        have d1 : (60 : Int) ≤ (s.added : Int) := by omega
        clear h h1 hx hx1 hin q1 q2 hlen hck x0 b0
        unfold emV at HK ⊢
        unfold emC at HH HK HT HA e0 e1 e2 e3
        go_enter Tryz.func18, Tryz.ntmps18
        go_wp2_with fail
        refine HH.out.mono ?_
        rintro e w' ⟨rfl, rfl⟩
        go_wp2_with fail
        refine HK.out.mono ?_
        rintro e w2 ⟨rfl, hb2⟩
        have c1 := HA.out w2 hb2
        go_wp2_with fail
        go_ret
        exact ⟨s, rfl, HT.out w2 hb2⟩
      · obtain ⟨n, rfl⟩ : ∃ n : Nat, i = n := ⟨i.toNat, by omega⟩
        have hn : n < s.ins.length := by omega
        obtain ⟨q1, q2⟩ := addQ_ok (ct := s.ct) (i := n) (x := entOf x) (by rw [hlen]; exact hn) hck (by have := h.gm.cnt; unfold Ms.ct; omega)
        rw [q1, q2]
        obtain ⟨xi, hxi⟩ : ∃ x, s.ins[n]? = some x := ⟨_, List.getElem?_eq_getElem hn⟩
        obtain ⟨k, hk⟩ := h.mg.pos hxi
        obtain ⟨b, hbk⟩ : ∃ b, xi.bs[k]? = some b := ⟨_, List.getElem?_eq_getElem (by omega)⟩
        have hxb := h.gm.bs n xi hxi
        have hes := h.gm.es hxi hbk
        obtain ⟨gi, hAI, _⟩ := h.mg.cell_ hxi
        obtain ⟨gx, hXA, _⟩ := h.mg.bcell hxi hbk
        have HC := hideP (fun W => closed_any xi.A xi.bs.length xi.c k hk (by omega) W)
        have g1 : (0 : Int) ≤ (n : Int) := by omega
        have g2 : (n : Int) < (s.ins.length : Int) := by omega
        have g3 : (0 : Int) ≤ (k : Int) := by omega
        have g4 : (k : Int) < (xi.bs.length : Int) := by omega
        have d1 : ¬ (60 : Int) ≤ (s.added : Int) := by omega
        have d2 : IntKind.i64.wrap ((s.added : Int) + 1) = ((s.added + 1 : Nat) : Int) := by simp only [IntKind.wrap_i64]; omega
        -- the cells, in whatever world behind the call
        have HCE := hideP (fun (W : World) (hb : Below w.heap.size w W) => show W.cell? ⟨s.g, 0, none⟩ = some (.slice s.AI s.ins.length s.cI) ∧ W.cell? ⟨s.g, 1, none⟩ = some (.int .i64 (s.added : Int)) ∧ W.cell? ⟨gi, n, none⟩ = some (.slice xi.A xi.bs.length xi.c) ∧ W.cell? ⟨gx, k, none⟩ = some (.slice b.A b.es.length b.c) from by
          have hW := h.below hb
          obtain ⟨_, e, p0⟩ := hW.mg.cell_ hxi
          rw [hAI] at e; injection e with e; injection e with e; subst e
          obtain ⟨_, e, p1⟩ := hW.mg.bcell hxi hbk
          rw [hXA] at e; injection e with e; injection e with e; subst e
          exact ⟨hW.mg.c0, hW.mg.c1, p0, p1⟩)
        have HXE := hideP (fun (W : World) (hb : Below (w.alloc (.cells (emC x) 37)).heap.size (w.alloc (.cells (emC x) 37)) W) => show ((W.cell? ⟨w.heap.size, 0, none⟩ = some (.slice x.D x.d.length x.c) ∧ W.cell? ⟨w.heap.size, 1, none⟩ = some (.bool x.isM)) ∧ W.cell? ⟨w.heap.size, 2, none⟩ = some (.slice x.m.A x.m.cs.length x.m.ca) ∧ W.cell? ⟨w.heap.size, 3, none⟩ = some (.slice x.m.O x.m.os.length x.m.co)) ∧ Below w.heap.size w W from
          ⟨⟨⟨(x0.below hb).cell 0 rfl, (x0.below hb).cell 1 rfl⟩, (x0.below hb).cell 2 rfl, (x0.below hb).cell 3 rfl⟩, b0.trans (hb.mono b0.size)⟩)
        have HCL := hideP (fun (W : World) (hb : Below (w.alloc (.cells (emC x) 37)).heap.size (w.alloc (.cells (emC x) 37)) W) => mclone_any x W (hx1.below hb) hck)
        have HAD := hideP (fun (W : World) (hb : Below w.heap.size w W) (y : Em) (hy : EO W w.heap.size y) (hye : entOf y = dropE (entOf x)) =>
          show ∃ A' c' w5 m1, (Builtin.append_ #[109, 109] 109 #[.slice b.A b.es.length b.c, .slice (some ⟨W.heap.size, 0, none⟩) 1 1]).run Tryz.prog (W.alloc (.cells (emC y) 37)) = .ok (.slice A' m1 c') w5 ∧
            w5.cell? ⟨gx, k, none⟩ = some (.slice b.A b.es.length b.c) ∧ w5.frozen? ⟨gx, k, none⟩ = false ∧
            (w5.setCell ⟨gx, k, none⟩ (.slice A' m1 c')).cell? ⟨s.g, 1, none⟩ = some (.int .i64 (s.added : Int)) ∧ (w5.setCell ⟨gx, k, none⟩ (.slice A' m1 c')).frozen? ⟨s.g, 1, none⟩ = false ∧
            ∃ s' : Ms, s.To w B s' ((w5.setCell ⟨gx, k, none⟩ (.slice A' m1 c')).setCell ⟨s.g, 1, none⟩ (.int .i64 ((s.added + 1 : Nat) : Int))) (addM s.ct n (dropE (entOf x))) from by
          have hb' := hb
          obtain ⟨A', c', w5, gx', hrun, e, q0, q1, q2, q3, hMG, hFr, hF⟩ := (h.below hb').mg.add hxi hbk (h.below hb').size (by omega) y (hy.mono h.size) (fun o ho => hx.bd o (by
            have e : y.d = (dropE (entOf x)).d := congrArg Ent.d hye
            rw [e] at ho
            unfold dropE at ho
            split at ho
            · simp at ho
            · exact ho)) (by rw [hye]; exact ⟨by rw [chkE_drop]; exact hck, dropE_twice _⟩) 109
          rw [hXA] at e; injection e with e; injection e with e; subst e
          have hGm := h.gm.add hxi hbk (by omega) (by omega) A' c' y
          have hct : ctM (s.ins.set n ⟨xi.A, xi.c, xi.bs.set k ⟨A', c', b.es ++ [y]⟩⟩) = addM s.ct n (dropE (entOf x)) := by rw [← hye]; exact ct_add hxi hbk (by omega) A' c' y
          exact ⟨A', c', w5, _, hrun, q0, q1, q2, q3, ⟨s.g, s.x, s.AI, s.cI, s.ins.set n ⟨xi.A, xi.c, xi.bs.set k ⟨A', c', b.es ++ [y]⟩⟩, s.added + 1⟩, rfl, rfl, ⟨hMG, hGm⟩, hct, (Fr.of_below hb').comp hFr, fun q hq => (hF q hq).imp id fun e => Nat.le_trans hb'.size e⟩)
        rw [hAI] at HCE
        clear h h1 hx hx1 hin q1 q2 hlen hck x0 hxi hbk hk hxb hes hAI
        rw [hXA] at HCE HC
        clear hXA
        unfold emV at HK HCL ⊢
        unfold emC at HH HK HCL HXE e0 e1 e2 e3 b0 ⊢
        generalize b.A = bA at HCE HAD
        generalize b.es.length = bn at HCE HAD
        generalize b.c = bc at HCE HAD
        generalize xi.bs.length = xn at HCE HC g4
        generalize xi.c = xc at HCE HC
        go_enter Tryz.func18, Tryz.ntmps18
        go_wp2_with fail
        generalize w.alloc _ = w1 at HH HK HCL HXE e0 e1 e2 e3 b0 ⊢
        refine HH.out.mono ?_
        rintro e w' ⟨rfl, rfl⟩
        go_wp2_with fail
        refine HK.out.mono ?_
        rintro e w2 ⟨rfl, hb2⟩
        clear HH HK e0 e1 e2 e3
        obtain ⟨⟨⟨e0, e1⟩, e2, e3⟩, b2⟩ := HXE.out w2 hb2
        obtain ⟨c0, c1, c2, c3⟩ := HCE.out w2 b2
        go_wp2_with fail
        go_quiet ((go_at_call 45; exact (HC.out _).mono fun e w' h => ⟨h.1, _, h.2.symm⟩))
        have b3 : Below w.heap.size w (w2.drewN nq) := below_dn b2 nq
        have hb3 : Below w1.heap.size w1 (w2.drewN nq) := below_dn hb2 nq
        clear e0 e1 e2 e3 c0 c1 c2 c3 b2 hb2 HC
        generalize w2.drewN nq = w3 at b3 hb3 ⊢
        obtain ⟨⟨⟨e0, e1⟩, e2, e3⟩, _⟩ := HXE.out w3 hb3
        obtain ⟨c0, c1, c2, c3⟩ := HCE.out w3 b3
        have HCL3 := hideP (HCL.out w3.drew hb3.drew)
        have HW4 := hideP (fun (w4 : World) (hb4 : Below w3.drew.heap.size w3.drew w4) => show Below w.heap.size w w4 from b3.drew.trans (hb4.mono b3.drew.size))
        have hsz3 : w.heap.size ≤ w3.drew.heap.size := b3.drew.size
        clear HCL HXE b3 hb3
        go_wp2_with fail
        go_region_law (first
          | (refine step_append_runM _ rfl _ _ _ _ rfl _ _ rfl rfl _ _ HR.out ?_)
          | (go_simp
             go_at_call 46
             refine HCL3.out.mono ?_
             rintro e w4 ⟨y, rfl, hye, hy, hb4⟩
             have b4 := HW4.out w4 hb4
             obtain ⟨A', c', w5, m1, hrun, k1, k2, k3, k4, s', hT⟩ := HAD.out w4 b4 y (hy.mono hsz3) hye
             have HR := hideP hrun
             have HT := hideP hT
             obtain ⟨_, _, _, c4⟩ := HCE.out w4 b4
             obtain ⟨_, _, _, c5⟩ := HCE.out _ (b4.alloc b4.size (.cells (emC y) 37))
             unfold emC at HR c5
             unfold emV emC
             clear hrun hT))
        all_goals
          go_wp2_with fail
          go_ret
          exact ⟨s', rfl, HT.out⟩
    · obtain ⟨q1, q2⟩ := addQ_bad (ct := s.ct) (i := i) (x := entOf x) (by rw [hlen]; exact hin) hck
      rw [q1, q2]
      have HT := hideP (fun (w' : World) (hb : Below _ _ w') => show s.To w B s w' s.ct from Ms.To.same h (b0.trans (hb.mono b0.size)))
      have d1 : (chkE (entOf x) != 0) = true := by simpa using hck
      clear h h1 hx hx1 hin q1 q2 hlen hck x0 b0
      unfold emV at HK ⊢
      unfold emC at HH HK HT e0 e1 e2 e3 ⊢
      generalize chkE (entOf x) = q at HK d1 ⊢
      go_enter Tryz.func18, Tryz.ntmps18
      go_wp2_with fail
      refine HH.out.mono ?_
      rintro e w' ⟨rfl, rfl⟩
      go_wp2_with fail
      refine HK.out.mono ?_
      rintro e w2 ⟨rfl, hb2⟩
      go_wp2_with fail
      go_ret
      exact ⟨s, rfl, HT.out w2 hb2⟩
  · rw [decide_eq_false hin] at HH
    obtain ⟨q1, q2⟩ := addQ_none (ct := s.ct) (i := i) (x := entOf x) (by rw [hlen]; exact hin)
    rw [q1, q2]
    have HT := hideP (show s.To w B s _ s.ct from Ms.To.same h b0)
    clear h h1 hx hx1 hin q1 q2 hlen x0 b0
    unfold emV
    unfold emC at HH HT e0 e1 e2 e3 ⊢
    go_enter Tryz.func18, Tryz.ntmps18
    go_wp2_with fail
    refine HH.out.mono ?_
    rintro e w' ⟨rfl, rfl⟩
    go_wp2_with fail
    go_ret
    exact ⟨s, rfl, HT.out⟩
end Go.Proofs.YtefdipjhjgmokaaGreat
