/-
  (*merge.Merge).Add.
  (*merge.Merge).Log.
-/
import Derived.Test.YtefdipjhjgmokaaGreatDoorBy12
import Derived.Test.YtefdipjhjgmokaaGreatDoorBy15
import Derived.Test.YtefdipjhjgmokaaGreatDoorBy6
set_option linter.unusedVariables false
set_option linter.unusedSimpArgs false
namespace Go.Proofs.YtefdipjhjgmokaaGreatDoor
open Go.RowKit

theorem below_dn {B : Nat} {a w : World} (h : Below B a w) (n : Nat) : Below B a (w.drewN n) := ⟨h.os, h.tape, h.output, h.size, h.block⟩
theorem addQ_none {ct : List (List (List Ent))} {i : Int} {x : Ent} (h : ¬ (0 ≤ i ∧ i < (ct.length : Int))) : addQ ct i x = 4 ∧ addC ct i x = ct := by
  have hq : addQ ct i x = 4 := by unfold addQ; rw [if_neg h]
  exact ⟨hq, by unfold addC; rw [if_neg (by rw [hq]; decide)]⟩
theorem addQ_bad {ct : List (List (List Ent))} {i : Int} {x : Ent} (h : 0 ≤ i ∧ i < (ct.length : Int)) (hc : chkE x ≠ 0) : addQ ct i x = chkE x ∧ addC ct i x = ct := by
  have hq : addQ ct i x = chkE x := by unfold addQ; rw [if_pos h, if_neg hc]
  exact ⟨hq, by unfold addC; rw [if_neg (by rw [hq]; exact hc)]⟩
theorem addQ_full {ct : List (List (List Ent))} {i : Int} {x : Ent} (h : 0 ≤ i ∧ i < (ct.length : Int)) (hc : chkE x = 0) (ht : 60 ≤ totM ct) : addQ ct i x = 2 ∧ addC ct i x = ct := by
  have hq : addQ ct i x = 2 := by unfold addQ; rw [if_pos h, if_pos hc, if_pos ht]
  exact ⟨hq, by unfold addC; rw [if_neg (by rw [hq]; decide)]⟩
theorem addQ_ok {ct : List (List (List Ent))} {i : Nat} {x : Ent} (h : i < ct.length) (hc : chkE x = 0) (ht : totM ct < 60) : addQ ct (i : Int) x = 0 ∧ addC ct (i : Int) x = addM ct i (dropE x) := by
  have hq : addQ ct (i : Int) x = 0 := by unfold addQ; rw [if_pos (by omega), if_pos hc, if_neg (by omega)]
  exact ⟨hq, by unfold addC; rw [if_pos hq, Int.toNat_natCast]⟩
theorem Gm.add {ins : List In} {added i k : Nat} {x : In} {b : Bt} (h : Gm ins added) (hi : ins[i]? = some x) (hk : x.bs[k]? = some b) (hkl : k = x.bs.length - 1) (ha : added < 60) (A : Option Addr) (c : Nat) (y : Em) : Gm (ins.set i ⟨x.A, x.c, x.bs.set k ⟨A, c, b.es ++ [y]⟩⟩) (added + 1) :=
  ⟨fun e => h.ne (by have := congrArg List.length e; simp at this; exact this), by simpa using h.few, fun j z hz => by
    rw [List.getElem?_set] at hz
    by_cases e : i = j
    · subst e
      rw [if_pos rfl, if_pos (List.getElem?_eq_some_iff.1 hi).1] at hz
      injection hz with hz
      subst hz
      simpa using h.bs i x hi
    · rw [if_neg e] at hz; exact h.bs j z hz, by
    rw [ct_add hi hk hkl, tot_add (b := ctI x) (entOf y) (by simp [ctM, hi]) (fun e => by have := congrArg List.length e; simp [ctI] at this; rw [this] at hk; simp at hk), h.cnt], by omega⟩
set_option maxHeartbeats 4000000 in
set_option maxRecDepth 100000 in
theorem madd_any (s : Ms) (B : Nat) (i : Int) (x : Em) (w : World) (h : s.Ok w B) (hx : ES w x) :
    Calls Tryz.prog 14 #[.pointer (some ⟨s.g, 0, none⟩), .int .i64 i, emV x] w fun e w' => ∃ s', e = .returned (.int .i64 (addQ s.ct i (entOf x))) ∧ s.To w B s' w' (addC s.ct i (entOf x)) := by
  have b0 := (Below.refl w.heap.size w).alloc (Nat.le_refl _) (.cells (emC x) 42)
  have x0 := Box.new w 42 (emC x)
  have hx1 := hx.below b0
  have h1 := h.below b0
  have HH := hideP (has_any B s.g s.x s.AI s.cI s.ins s.added i _ h1.mg)
  have hlen : s.ct.length = s.ins.length := by simp [Ms.ct, ctM]
  have e0 := x0.cell 0 (v := .slice x.D x.d.length x.c) rfl
  have e1 := x0.cell 1 (v := .bool x.isM) rfl
  have e2 := x0.cell 2 (v := .slice x.m.A x.m.cs.length x.m.ca) rfl
  have e3 := x0.cell 3 (v := .slice x.m.O x.m.os.length x.m.co) rfl
  by_cases hin : 0 ≤ i ∧ i < (s.ins.length : Int)
  · rw [decide_eq_true hin] at HH
    have HK := hideP (mcheck_any x _ hx1)
    by_cases hck : chkE (entOf x) = 0
    · rw [hck] at HK
      by_cases hful : 60 ≤ s.added
      · obtain ⟨q1, q2⟩ := addQ_full (ct := s.ct) (i := i) (x := entOf x) (by rw [hlen]; exact hin) hck (by have := h.gm.cnt; unfold Ms.ct; omega)
        rw [q1, q2]
        have HT := hideP (fun (w' : World) (hb : Below _ _ w') => show s.To w B s w' s.ct from Ms.To.same h (b0.trans (hb.mono b0.size)))
        have HA := hideP (fun (w' : World) (hb : Below _ _ w') => (h1.below hb).mg.c1)
        have d1 : (60 : Int) ≤ (s.added : Int) := by omega
        clear h h1 hx hx1 hin q1 q2 hlen hck x0 b0
        unfold emV at HK ⊢
        unfold emC at HH HK HT HA e0 e1 e2 e3
        go_enter Tryz.func14, Tryz.ntmps14
        go_wp2_with fail
        refine HH.out.mono ?_
        rintro e w' ⟨rfl, rfl⟩
        go_wp2_with fail
        refine HK.out.mono ?_
        rintro e w2 ⟨rfl, hb2⟩
        have c1 := HA.out w2 hb2
        go_wp2_with fail
        go_ret
        exact ⟨s, rfl, HT.out w2 hb2⟩
      · obtain ⟨n, rfl⟩ : ∃ n : Nat, i = n := ⟨i.toNat, by omega⟩
        have hn : n < s.ins.length := by omega
        obtain ⟨q1, q2⟩ := addQ_ok (ct := s.ct) (i := n) (x := entOf x) (by rw [hlen]; exact hn) hck (by have := h.gm.cnt; unfold Ms.ct; omega)
        rw [q1, q2]
        obtain ⟨xi, hxi⟩ : ∃ x, s.ins[n]? = some x := ⟨_, List.getElem?_eq_getElem hn⟩
        obtain ⟨k, hk⟩ := h.mg.pos hxi
        obtain ⟨b, hbk⟩ : ∃ b, xi.bs[k]? = some b := ⟨_, List.getElem?_eq_getElem (by omega)⟩
        have hxb := h.gm.bs n xi hxi
        have hes := h.gm.es hxi hbk
        obtain ⟨gi, hAI, _⟩ := h.mg.cell_ hxi
        obtain ⟨gx, hXA, _⟩ := h.mg.bcell hxi hbk
        have HC := hideP (fun W => closed_any xi.A xi.bs.length xi.c k hk (by omega) W)
        have g1 : (0 : Int) ≤ (n : Int) := by omega
        have g2 : (n : Int) < (s.ins.length : Int) := by omega
        have g3 : (0 : Int) ≤ (k : Int) := by omega
        have g4 : (k : Int) < (xi.bs.length : Int) := by omega
        have d1 : ¬ (60 : Int) ≤ (s.added : Int) := by omega
        have d2 : IntKind.i64.wrap ((s.added : Int) + 1) = ((s.added + 1 : Nat) : Int) := by simp only [IntKind.wrap_i64]; omega
        -- the cells, in whatever world behind the call
        have HCE := hideP (fun (W : World) (hb : Below w.heap.size w W) => show W.cell? ⟨s.g, 0, none⟩ = some (.slice s.AI s.ins.length s.cI) ∧ W.cell? ⟨s.g, 1, none⟩ = some (.int .i64 (s.added : Int)) ∧ W.cell? ⟨gi, n, none⟩ = some (.slice xi.A xi.bs.length xi.c) ∧ W.cell? ⟨gx, k, none⟩ = some (.slice b.A b.es.length b.c) from by
          have hW := h.below hb
          obtain ⟨_, e, p0⟩ := hW.mg.cell_ hxi
          rw [hAI] at e; injection e with e; injection e with e; subst e
          obtain ⟨_, e, p1⟩ := hW.mg.bcell hxi hbk
          rw [hXA] at e; injection e with e; injection e with e; subst e
          exact ⟨hW.mg.c0, hW.mg.c1, p0, p1⟩)
        have HXE := hideP (fun (W : World) (hb : Below (w.alloc (.cells (emC x) 42)).heap.size (w.alloc (.cells (emC x) 42)) W) => show ((W.cell? ⟨w.heap.size, 0, none⟩ = some (.slice x.D x.d.length x.c) ∧ W.cell? ⟨w.heap.size, 1, none⟩ = some (.bool x.isM)) ∧ W.cell? ⟨w.heap.size, 2, none⟩ = some (.slice x.m.A x.m.cs.length x.m.ca) ∧ W.cell? ⟨w.heap.size, 3, none⟩ = some (.slice x.m.O x.m.os.length x.m.co)) ∧ Below w.heap.size w W from
          ⟨⟨⟨(x0.below hb).cell 0 rfl, (x0.below hb).cell 1 rfl⟩, (x0.below hb).cell 2 rfl, (x0.below hb).cell 3 rfl⟩, b0.trans (hb.mono b0.size)⟩)
        have HCL := hideP (fun (W : World) (hb : Below (w.alloc (.cells (emC x) 42)).heap.size (w.alloc (.cells (emC x) 42)) W) => mclone_any x W (hx1.below hb) hck)
        have HAD := hideP (fun (W : World) (hb : Below w.heap.size w W) (y : Em) (hy : EO W w.heap.size y) (hye : entOf y = dropE (entOf x)) =>
          show ∃ A' c' w5 m1, (Builtin.append_ #[144, 144] 144 #[.slice b.A b.es.length b.c, .slice (some ⟨W.heap.size, 0, none⟩) 1 1]).run Tryz.prog (W.alloc (.cells (emC y) 42)) = .ok (.slice A' m1 c') w5 ∧
            w5.cell? ⟨gx, k, none⟩ = some (.slice b.A b.es.length b.c) ∧ w5.frozen? ⟨gx, k, none⟩ = false ∧
            (w5.setCell ⟨gx, k, none⟩ (.slice A' m1 c')).cell? ⟨s.g, 1, none⟩ = some (.int .i64 (s.added : Int)) ∧ (w5.setCell ⟨gx, k, none⟩ (.slice A' m1 c')).frozen? ⟨s.g, 1, none⟩ = false ∧
            ∃ s' : Ms, s.To w B s' ((w5.setCell ⟨gx, k, none⟩ (.slice A' m1 c')).setCell ⟨s.g, 1, none⟩ (.int .i64 ((s.added + 1 : Nat) : Int))) (addM s.ct n (dropE (entOf x))) from by
          have hb' := hb
          obtain ⟨A', c', w5, gx', hrun, e, q0, q1, q2, q3, hMG, hFr, hF⟩ := (h.below hb').mg.add hxi hbk (h.below hb').size (by omega) y (hy.mono h.size) (fun o ho => hx.bd o (by
            have e : y.d = (dropE (entOf x)).d := congrArg Ent.d hye
            rw [e] at ho
            unfold dropE at ho
            split at ho
            · simp at ho
            · exact ho)) (by rw [hye]; exact ⟨by rw [chkE_drop]; exact hck, dropE_twice _⟩) 144
          rw [hXA] at e; injection e with e; injection e with e; subst e
          have hGm := h.gm.add hxi hbk (by omega) (by omega) A' c' y
          have hct : ctM (s.ins.set n ⟨xi.A, xi.c, xi.bs.set k ⟨A', c', b.es ++ [y]⟩⟩) = addM s.ct n (dropE (entOf x)) := by rw [← hye]; exact ct_add hxi hbk (by omega) A' c' y
          exact ⟨A', c', w5, _, hrun, q0, q1, q2, q3, ⟨s.g, s.x, s.AI, s.cI, s.ins.set n ⟨xi.A, xi.c, xi.bs.set k ⟨A', c', b.es ++ [y]⟩⟩, s.added + 1⟩, rfl, rfl, ⟨hMG, hGm⟩, hct, (Fr.of_below hb').comp hFr, fun q hq => (hF q hq).imp id fun e => Nat.le_trans hb'.size e, fun q hq => by
            obtain ⟨i, j, z, d, e, hz, hd, he, hq⟩ := hq
            simp only at hz
            rw [List.getElem?_set] at hz
            split at hz
            · next en =>
              subst en
              injection hz with hz
              subst hz
              simp only at hd
              rw [List.getElem?_set] at hd
              split at hd
              · next ek =>
                subst ek
                rw [if_pos (List.getElem?_eq_some_iff.1 hbk).1] at hd
                injection hd with hd
                subst hd
                rcases List.mem_append.1 he with he | he
                · exact .inl ⟨_, _, xi, b, e, hxi, hbk, he, hq⟩
                · simp at he
                  subst he
                  rcases hq with hq | hq | hq
                  · exact .inr (World.ownsRow.lt hy.map.own q (bo _ _ hq)).1
                  · exact .inr (World.ownsRow.lt hy.map.cuts q (bo _ _ hq)).1
                  · exact .inr (World.ownsRow.lt hy.ops q (bo _ _ hq)).1
              · exact .inl ⟨_, j, xi, d, e, hxi, hd, he, hq⟩
            · exact .inl ⟨i, j, z, d, e, hz, hd, he, hq⟩⟩)
        rw [hAI] at HCE
        clear h h1 hx hx1 hin q1 q2 hlen hck x0 hxi hbk hk hxb hes hAI
        rw [hXA] at HCE HC
        clear hXA
        unfold emV at HK HCL ⊢
        unfold emC at HH HK HCL HXE e0 e1 e2 e3 b0 ⊢
        generalize b.A = bA at HCE HAD
        generalize b.es.length = bn at HCE HAD
        generalize b.c = bc at HCE HAD
        generalize xi.bs.length = xn at HCE HC g4
        generalize xi.c = xc at HCE HC
        go_enter Tryz.func14, Tryz.ntmps14
        go_wp2_with fail
        generalize w.alloc _ = w1 at HH HK HCL HXE e0 e1 e2 e3 b0 ⊢
        refine HH.out.mono ?_
        rintro e w' ⟨rfl, rfl⟩
        go_wp2_with fail
        refine HK.out.mono ?_
        rintro e w2 ⟨rfl, hb2⟩
        clear HH HK e0 e1 e2 e3
        obtain ⟨⟨⟨e0, e1⟩, e2, e3⟩, b2⟩ := HXE.out w2 hb2
        obtain ⟨c0, c1, c2, c3⟩ := HCE.out w2 b2
        go_wp2_with fail
        go_quiet ((go_at_call 90; exact (HC.out _).mono fun e w' h => ⟨h.1, _, h.2.symm⟩))
        have b3 : Below w.heap.size w (w2.drewN nq) := below_dn b2 nq
        have hb3 : Below w1.heap.size w1 (w2.drewN nq) := below_dn hb2 nq
        clear e0 e1 e2 e3 c0 c1 c2 c3 b2 hb2 HC
        generalize w2.drewN nq = w3 at b3 hb3 ⊢
        obtain ⟨⟨⟨e0, e1⟩, e2, e3⟩, _⟩ := HXE.out w3 hb3
        obtain ⟨c0, c1, c2, c3⟩ := HCE.out w3 b3
        have HCL3 := hideP (HCL.out w3.drew hb3.drew)
        have HW4 := hideP (fun (w4 : World) (hb4 : Below w3.drew.heap.size w3.drew w4) => show Below w.heap.size w w4 from b3.drew.trans (hb4.mono b3.drew.size))
        have hsz3 : w.heap.size ≤ w3.drew.heap.size := b3.drew.size
        clear HCL HXE b3 hb3
        go_wp2_with fail
        go_region_law (first
          | (refine step_append_runM _ rfl _ _ _ _ rfl _ _ rfl rfl _ _ HR.out ?_)
          | (go_simp
             go_at_call 91
             refine HCL3.out.mono ?_
             rintro e w4 ⟨y, rfl, hye, hy, hb4⟩
             have b4 := HW4.out w4 hb4
             obtain ⟨A', c', w5, m1, hrun, k1, k2, k3, k4, s', hT⟩ := HAD.out w4 b4 y (hy.mono hsz3) hye
             have HR := hideP hrun
             have HT := hideP hT
             obtain ⟨_, _, _, c4⟩ := HCE.out w4 b4
             obtain ⟨_, _, _, c5⟩ := HCE.out _ (b4.alloc b4.size (.cells (emC y) 42))
             unfold emC at HR c5
             unfold emV emC
             clear hrun hT))
        all_goals
          go_wp2_with fail
          go_ret
          exact ⟨s', rfl, HT.out⟩
    · obtain ⟨q1, q2⟩ := addQ_bad (ct := s.ct) (i := i) (x := entOf x) (by rw [hlen]; exact hin) hck
      rw [q1, q2]
      have HT := hideP (fun (w' : World) (hb : Below _ _ w') => show s.To w B s w' s.ct from Ms.To.same h (b0.trans (hb.mono b0.size)))
      have d1 : (chkE (entOf x) != 0) = true := by simpa using hck
      clear h h1 hx hx1 hin q1 q2 hlen hck x0 b0
      unfold emV at HK ⊢
      unfold emC at HH HK HT e0 e1 e2 e3 ⊢
      generalize chkE (entOf x) = q at HK d1 ⊢
      go_enter Tryz.func14, Tryz.ntmps14
      go_wp2_with fail
      refine HH.out.mono ?_
      rintro e w' ⟨rfl, rfl⟩
      go_wp2_with fail
      refine HK.out.mono ?_
      rintro e w2 ⟨rfl, hb2⟩
      go_wp2_with fail
      go_ret
      exact ⟨s, rfl, HT.out w2 hb2⟩
  · rw [decide_eq_false hin] at HH
    obtain ⟨q1, q2⟩ := addQ_none (ct := s.ct) (i := i) (x := entOf x) (by rw [hlen]; exact hin)
    rw [q1, q2]
    have HT := hideP (show s.To w B s _ s.ct from Ms.To.same h b0)
    clear h h1 hx hx1 hin q1 q2 hlen x0 b0
    unfold emV
    unfold emC at HH HT e0 e1 e2 e3 ⊢
    go_enter Tryz.func14, Tryz.ntmps14
    go_wp2_with fail
    refine HH.out.mono ?_
    rintro e w' ⟨rfl, rfl⟩
    go_wp2_with fail
    go_ret
    exact ⟨s, rfl, HT.out⟩
end Go.Proofs.YtefdipjhjgmokaaGreatDoor

set_option linter.unusedVariables false
set_option linter.unusedSimpArgs false
namespace Go.Proofs.YtefdipjhjgmokaaGreatDoor
open Go.RowKit

/-- what Log hands back -/
def RetLm (w : World) (l : List Ent) (e : Ending) (w' : World) : Prop := ∃ A c xs, e = .returned (.slice A xs.length c) ∧ xs.map entOf = l ∧ EW w' w.heap.size A c xs ∧ Below w.heap.size w w'
/-- the same, and the rows of operations lie apart -/
def RetLp (w : World) (l : List Ent) (e : Ending) (w' : World) : Prop := ∃ A c xs, e = .returned (.slice A xs.length c) ∧ xs.map entOf = l ∧ EW w' w.heap.size A c xs ∧ Below w.heap.size w w' ∧ (xs : List Em).Pairwise fun x y => ∀ k, blk x.D = some k → blk y.D ≠ some k
/-- what has been copied: r rounds, k inputs of the next one, j entries -/
def lgP (ct : List (List (List Ent))) (r k j : Nat) : List Ent := logUp ct r ++ ((ct.take k).map fun b => (b[r]?).getD []).flatten ++ ((ct[k]?.bind fun b => b[r]?).getD []).take j
theorem lgP_start (ct : List (List (List Ent))) : lgP ct 0 0 0 = [] := by simp [lgP, logUp]
theorem lgP_row (ct : List (List (List Ent))) (r k : Nat) (b : List (List Ent)) (l : List Ent) (hb : ct[k]? = some b) (hl : b[r]? = some l) : lgP ct r k l.length = lgP ct r (k + 1) 0 := by
  unfold lgP
  obtain ⟨hk, rfl⟩ := List.getElem?_eq_some_iff.1 hb
  rw [List.take_succ_eq_append_getElem hk, List.map_append, List.flatten_append]
  simp only [List.getElem?_eq_getElem hk, Option.bind_some, hl, Option.getD_some, List.take_length, List.map_cons, List.map_nil, List.flatten_cons, List.flatten_nil, List.append_nil, List.take_zero, List.append_assoc]
theorem lgP_round (ct : List (List (List Ent))) (r : Nat) : lgP ct r ct.length 0 = lgP ct (r + 1) 0 0 := by
  unfold lgP
  rw [logUp_succ]
  simp [roundL]
theorem lgP_next (ct : List (List (List Ent))) (r k j : Nat) (b : List (List Ent)) (l : List Ent) (x : Ent) (hb : ct[k]? = some b) (hl : b[r]? = some l) (hx : l[j]? = some x) : lgP ct r k (j + 1) = lgP ct r k j ++ [x] := by
  unfold lgP
  rw [hb]
  simp only [Option.bind_some, hl, Option.getD_some]
  obtain ⟨hj, rfl⟩ := List.getElem?_eq_some_iff.1 hx
  rw [List.take_succ_eq_append_getElem hj]
  simp
theorem lgP_end (ct : List (List (List Ent))) : lgP ct (rndM ct) 0 0 = logM ct := by simp [lgP, logM]
/-- a bound of what has been copied -/
def rM (r k j : Nat) : Nat := r * 10000 + k * 100 + j
theorem rM_small {r k j : Nat} (hr : r ≤ 60) (hk : k ≤ 4) (hj : j ≤ 60) : rM r k j ≤ 1000000 := by unfold rM; omega
theorem rM_step (r k j : Nat) : rM r k (j + 1) = rM r k j + 1 := by unfold rM; omega
theorem rM_row (r k : Nat) {j : Nat} (hj : j ≤ 60) : rM r k j ≤ rM r (k + 1) 0 := by unfold rM; omega
theorem rM_round (r : Nat) {k : Nat} (hk : k ≤ 4) : rM r k 0 ≤ rM (r + 1) 0 0 := by unfold rM; omega
/-- while the log is copied -/
structure LmH (w : World) (ct : List (List (List Ent))) (r k j : Nat) (A : Option Addr) (c : Nat) (xs : List Em) (wr : World) : Prop where
  ew : EW wr w.heap.size A c xs
  eq : xs.map entOf = lgP ct r k j
  len : xs.length ≤ rM r k j
  be : Below w.heap.size w wr
  pw : xs.Pairwise fun x y => ∀ k, blk x.D = some k → blk y.D ≠ some k
section
variable {w wr w' : World} {ct : List (List (List Ent))} {r k j : Nat} {A : Option Addr} {c : Nat} {xs : List Em}
theorem LmH.below (h : LmH w ct r k j A c xs wr) (hb : Below wr.heap.size wr w') : LmH w ct r k j A c xs w' := ⟨h.ew.below hb, h.eq, h.len, h.be.trans (hb.mono h.be.size), h.pw⟩
/-- one entry more -/
theorem LmH.add (h : LmH w ct r k j A c xs wr) {b : List (List Ent)} {l : List Ent} {e : Ent} (hb : ct[k]? = some b) (hl : b[r]? = some l) (he : l[j]? = some e) (hr : r ≤ 60) (hk4 : k ≤ 4) (hj : j ≤ 60) (y : Em) (hy : EO wr w.heap.size y) (hye : entOf y = e) (hbd : ∀ o ∈ y.d, -9223372036854775808 ≤ o.n ∧ o.n ≤ 9223372036854775807) (hap : ∀ x ∈ xs, ∀ k, blk x.D = some k → blk y.D ≠ some k) :
    ∃ A' c' xs' w2, (Builtin.append_ #[26, 26] 26 #[.slice A xs.length c, .slice (some ⟨wr.heap.size, 0, none⟩) 1 1]).run Tryz.prog (wr.alloc (.cells (emC y) 42)) = .ok (.slice A' xs'.length c') w2 ∧ LmH w ct r k (j + 1) A' c' xs' w2 := by
  obtain ⟨A', c', w2, hrun, hW, hgr, hbel, _⟩ := app_ent wr w.heap.size 26 A c xs h.ew y hy hbd (by have := h.len; have := rM_small hr hk4 hj; omega) h.be.size
  exact ⟨A', c', _, w2, hrun, hW, by rw [lgP_next ct r k j b l e hb hl he, ← h.eq, ← hye]; simp, by have := h.len; have := rM_step r k j; simp; omega, hbel _ _ (Nat.le_refl _) h.be, List.pairwise_append.2 ⟨h.pw, List.pairwise_singleton _ _, fun x hx z hz => by rw [List.mem_singleton] at hz; subst hz; exact hap x hx⟩⟩
theorem LmH.row (h : LmH w ct r k j A c xs wr) {b : List (List Ent)} {l : List Ent} (hb : ct[k]? = some b) (hl : b[r]? = some l) (hj : j = l.length) (hjl : j ≤ 60) : LmH w ct r (k + 1) 0 A c xs wr :=
  ⟨h.ew, by subst hj; rw [← lgP_row ct r k b l hb hl]; exact h.eq, Nat.le_trans h.len (rM_row r k hjl), h.be, h.pw⟩
theorem LmH.round (h : LmH w ct r k 0 A c xs wr) (hk : k = ct.length) (hk4 : k ≤ 4) : LmH w ct (r + 1) 0 0 A c xs wr :=
  ⟨h.ew, by subst hk; rw [← lgP_round]; exact h.eq, Nat.le_trans h.len (rM_round r hk4), h.be, h.pw⟩
end
def LgI1 (w : World) (ct : List (List (List Ent))) (n : Nat) (s i : Value) (wr : World) : Prop :=
  ∃ (r : Nat) (A : Option Addr) (c : Nat) (xs : List Em), r ≤ n ∧ i = .int .i64 r ∧ s = .slice A xs.length c ∧ LmH w ct r 0 0 A c xs wr
def LgI2 (w : World) (ct : List (List (List Ent))) (r n : Nat) (s i : Value) (wr : World) : Prop :=
  ∃ (k : Nat) (A : Option Addr) (c : Nat) (xs : List Em), k ≤ n ∧ i = .int .i64 k ∧ s = .slice A xs.length c ∧ LmH w ct r k 0 A c xs wr
def LgI3 (w : World) (ct : List (List (List Ent))) (r k n : Nat) (s i : Value) (wr : World) : Prop :=
  ∃ (j : Nat) (A : Option Addr) (c : Nat) (xs : List Em), j ≤ n ∧ i = .int .i64 j ∧ s = .slice A xs.length c ∧ LmH w ct r k j A c xs wr
/-- what one batch of a Merge holds, to be read -/
structure BatR (ins : List In) (r k : Nat) (wr : World) (gx : Nat) (A : Option Addr) (n c : Nat) (Ab : Option Addr) (cb : Nat) (es : List Em) : Prop where
  cell : wr.cell? ⟨gx, r, none⟩ = some (.slice Ab es.length cb)
  rn : r < n
  es60 : es.length ≤ 60
  el : EL wr Ab es
  good : ∀ e ∈ es, chkE (entOf e) = 0 ∧ dropE (entOf e) = entOf e
  bd : ∀ x ∈ es, ∀ o ∈ x.d, -9223372036854775808 ≤ o.n ∧ o.n ≤ 9223372036854775807
set_option maxHeartbeats 4000000 in
set_option maxRecDepth 100000 in
theorem mlog_pw (B g : Nat) (tx : Tx) (AI : Option Addr) (cI : Nat) (ins : List In) (added : Nat) (w : World) (h : MG w B g tx AI cI ins added) (hG : Gm ins added) :
    Calls Tryz.prog 36 #[.pointer (some ⟨g, 0, none⟩)] w (RetLp w (logM (ctM ins))) := by
  have HR := hideP (mrounds_any B g tx AI cI ins added w h hG)
  have hr60 := rnd_60 (ctM ins)
  have hfew := hG.few
  have HLE := hideP (show ∀ (k : Nat) (x : In), ins[k]? = some x → rndM (ctM ins) ≤ x.bs.length - 1 from fun k x hk => by
    have := rnd_le (ctM ins) (b := ctI x) (List.mem_map_of_mem (List.mem_of_getElem? hk))
    simpa [ctI] using this)
  have HST := hideP (lgP_start (ctM ins))
  have HEND := hideP (lgP_end (ctM ins))
  have HLC := hideP (show (ctM ins).length = ins.length by simp [ctM])
  -- a row, to be read
  have HROW := hideP (fun (wr : World) (hb : Below w.heap.size w wr) (k : Nat) (hk : k < ins.length) => show ∃ (gi : Nat) (x : In), AI = some ⟨gi, 0, none⟩ ∧ ins[k]? = some x ∧ wr.cell? ⟨gi, k, none⟩ = some (.slice x.A x.bs.length x.c) from by
    obtain ⟨x, hx⟩ : ∃ x, ins[k]? = some x := ⟨_, List.getElem?_eq_getElem hk⟩
    obtain ⟨gi, e, hc⟩ := (h.below hb).cell_ hx
    exact ⟨gi, x, e, hx, hc⟩)
  have HBK := hideP (fun (k r : Nat) (x : In) (hx : ins[k]? = some x) (hr : r < rndM (ctM ins)) => show ∃ b, x.bs[r]? = some b from by
    have hle := HLE.out k x hx
    exact ⟨_, List.getElem?_eq_getElem (by omega)⟩)
  have HBAT := hideP (fun (wr : World) (hb : Below w.heap.size w wr) (k r : Nat) (x : In) (b : Bt) (hx : ins[k]? = some x) (hbk : x.bs[r]? = some b) => show ∃ (gx : Nat), x.A = some ⟨gx, 0, none⟩ ∧ r < x.bs.length ∧ wr.cell? ⟨gx, r, none⟩ = some (.slice b.A b.es.length b.c) ∧ b.es.length ≤ 60 ∧ (ctM ins)[k]? = some (ctI x) ∧ (ctI x)[r]? = some (b.es.map entOf) from by
    obtain ⟨gx, e, hc⟩ := (h.below hb).bcell hx hbk
    exact ⟨gx, e, (List.getElem?_eq_some_iff.1 hbk).1, hc, hG.es hx hbk, by simp [ctM, hx], by simp [ctI, hbk]⟩)
  have HENT := hideP (fun (wr : World) (hb : Below w.heap.size w wr) (k r : Nat) (x : In) (b : Bt) (hx : ins[k]? = some x) (hbk : x.bs[r]? = some b) => show EL wr b.A b.es ∧ (∀ e ∈ b.es, chkE (entOf e) = 0 ∧ dropE (entOf e) = entOf e) ∧ (∀ y ∈ b.es, ∀ o ∈ y.d, -9223372036854775808 ≤ o.n ∧ o.n ≤ 9223372036854775807) from
    ⟨((h.below hb).bat k x r b hx hbk).el, h.good k x r b hx hbk, ((h.below hb).bat k x r b hx hbk).bd⟩)
  have HC0 := hideP (fun (wr : World) (hb : Below w.heap.size w wr) => (h.below hb).c0)
  generalize ctM ins = ct at HR hr60 HLE HST HEND HLC HBAT HBK ⊢
  generalize hrr : rndM ct = rr at HR hr60 HLE HBK
  rw [hrr] at HEND
  generalize logM ct = lg at HEND ⊢
  clear h hG hrr
  go_enter Tryz.func36, Tryz.ntmps36
  go_wp2_with fail
  refine HR.out.mono ?_
  rintro e w' ⟨rfl, rfl⟩
  clear HR
  go_wp2_with fail
  go_loopw [3, 11] (LgI1 w ct rr) (fun _ i _ => rr - (intOf i).toNat)
  case atStart => exact ⟨0, none, 0, [], Nat.zero_le _, rfl, rfl, EW.nil _ _, by rw [HST.out]; rfl, by simp, Below.refl _ _, .nil⟩
  case round =>
    obtain ⟨r, A, c, xs, hr, rfl, rfl, hH⟩ := hrel
    by_cases hlt : r < rr
    · have c0 := HC0.out wr hH.be
      have g1 : (r : Int) < (rr : Int) := by omega
      go_wp2_with fail
      go_loopw [3, 19] (LgI2 w ct r ins.length) (fun _ i _ => ins.length - (intOf i).toNat)
      case atStart => exact ⟨0, A, c, xs, Nat.zero_le _, rfl, rfl, hH⟩
      case round =>
        clear hH c0
        obtain ⟨k, A, c, xs, hk, rfl, rfl, hH⟩ := hrel
        by_cases hlk : k < ins.length
        · obtain ⟨gi, x, rfl, hx, p0⟩ := HROW.out wr hH.be k hlk
          obtain ⟨b, hbk⟩ := HBK.out k r x hx hlt
          obtain ⟨gx, hxA, hrl, p1, hb60, hct, hcr⟩ := HBAT.out wr hH.be k r x b hx hbk
          have hr60' : r ≤ 60 := by omega
          have hk4 : k ≤ 4 := by omega
          have g2 : (0 : Int) ≤ (k : Int) := by omega
          have g3 : (k : Int) < (ins.length : Int) := by omega
          have g4 : (0 : Int) ≤ (r : Int) := by omega
          have g5 : (r : Int) < (x.bs.length : Int) := by omega
          rw [hxA] at p0
          generalize x.bs.length = xn at p0 g5 hrl
          generalize x.c = xc at p0
          go_wp2_with fail
          go_loopw [3, 28] (LgI3 w ct r k b.es.length) (fun _ i _ => b.es.length - (intOf i).toNat)
          case atStart => exact ⟨0, A, c, xs, Nat.zero_le _, rfl, rfl, hH⟩
          case round =>
            clear hH p0 p1
            obtain ⟨j, A, c, xs, hj, rfl, rfl, hH⟩ := hrel
            by_cases hlj : j < b.es.length
            · obtain ⟨hel, hgood, hbd⟩ := HENT.out wr hH.be k r x b hx hbk
              obtain ⟨bb, oo, hA, hbl, e0, e1, e2, e3⟩ := hel.cells j b.es[j] (List.getElem?_eq_getElem hlj)
              have hes := hel.es _ (List.getElem_mem hlj)
              have hgd := hgood _ (List.getElem_mem hlj)
              have hbd1 := hbd _ (List.getElem_mem hlj)
              have hje : (b.es.map entOf)[j]? = some (entOf b.es[j]) := by rw [List.getElem?_map, List.getElem?_eq_getElem hlj]; rfl
              generalize b.es[j] = x at e0 e1 e2 e3 hes hgd hbd1 hje
              have g6 : (0 : Int) ≤ (j : Int) := by omega
              have g7 : (j : Int) < (b.es.length : Int) := by omega
              rw [hA]
              have al := (Below.refl wr.heap.size wr).alloc (Nat.le_refl _) (.cells (emC x) 42)
              have HCL := hideP (mclone_any x _ (hes.below al) hgd.1)
              have xe := Box.new wr 42 (emC x)
              have q0 := xe.cell 0 (v := .slice x.D x.d.length x.c) rfl
              have q1 := xe.cell 1 (v := .bool x.isM) rfl
              have q2 := xe.cell 2 (v := .slice x.m.A x.m.cs.length x.m.ca) rfl
              have q3 := xe.cell 3 (v := .slice x.m.O x.m.os.length x.m.co) rfl
              have HAD := hideP (fun (w2 : World) (hb2 : Below (wr.alloc (.cells (emC x) 42)).heap.size (wr.alloc (.cells (emC x) 42)) w2) (y : Em) (hye : entOf y = dropE (entOf x)) (hy : EO w2 (wr.alloc (.cells (emC x) 42)).heap.size y) =>
                ((hH.below al).below hb2).add hct hcr hje hr60' hk4 (by omega) y (hy.mono (by have := hH.be.size; simp; omega)) (hye.trans hgd.2) (by
                  have e : y.d = x.d := by have := congrArg Ent.d (hye.trans hgd.2); exact this
                  rw [e]; exact hbd1) (fun x' hx' k' hk' e' => by
                  have h1 := (World.ownsRow.lt (hH.ew.eo x' hx').ops k' (by rw [ownBlock_slice]; exact hk')).2
                  have h2 := (World.ownsRow.lt hy.ops k' (by rw [ownBlock_slice]; exact e')).1
                  simp at h2
                  omega))
              clear hel hgood hbd hes hgd hbd1 hje al xe hH
              unfold emV at HCL
              unfold emC at HCL HAD q0 q1 q2 q3
              go_wp2_with fail
              refine HCL.out.mono ?_
              clear HCL
              rintro e w2 ⟨y, rfl, hye, hy, hb2⟩
              obtain ⟨A', c', xs', w3, hrun, hH3⟩ := HAD.out w2 hb2 y hye hy
              have HRN := hideP hrun
              unfold emC at HRN
              clear hrun HAD q0 q1 q2 q3 hb2 hye hy
              unfold emV emC
              go_wp2_with (at_builtin; refine Lib.wpList_append_run _ rfl _ _ _ _ rfl _ _ rfl rfl _ _ HRN.out ?_)
              go_roundw
              case rel => exact ⟨j + 1, A', c', xs', by omega, by go_num, rfl, hH3⟩
              case measure => simp [intOf]; omega
            · have hje : j = (b.es.map entOf).length := by rw [List.length_map]; omega
              have hH2 := hH.row hct hcr hje (by omega)
              clear hH
              go_wp2_with fail
              go_roundw
              case rel => exact ⟨k + 1, A, c, xs, by omega, by go_num, rfl, hH2⟩
              case measure => simp [intOf]; omega
        · have hH2 := hH.round (by rw [HLC.out]; omega) (by omega)
          go_wp2_with fail
          go_roundw
          case rel => exact ⟨r + 1, A, c, xs, by omega, by go_num, rfl, hH2⟩
          case measure => simp [intOf]; omega
    · obtain rfl : r = rr := by omega
      go_wp2_with fail
      go_ret
      exact ⟨A, c, xs, rfl, by rw [hH.eq, HEND.out], hH.ew, hH.be, hH.pw⟩
theorem mlog_any (B g : Nat) (tx : Tx) (AI : Option Addr) (cI : Nat) (ins : List In) (added : Nat) (w : World) (h : MG w B g tx AI cI ins added) (hG : Gm ins added) :
    Calls Tryz.prog 36 #[.pointer (some ⟨g, 0, none⟩)] w (RetLm w (logM (ctM ins))) :=
  (mlog_pw B g tx AI cI ins added w h hG).mono fun e w' ⟨A, c, xs, h1, h2, h3, h4, _⟩ => ⟨A, c, xs, h1, h2, h3, h4⟩
end Go.Proofs.YtefdipjhjgmokaaGreatDoor
