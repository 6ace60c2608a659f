/-
  (*copies.replica).execute.
  (*copies.Copies).Step.
  slices.Equal at bools.
  slices.Grow of nil at bools; append of what another slice holds.
-/
import Derived.Test.YtcopmdgcjnkiaaaGreatBw23
import Derived.Test.YtcopmdgcjnkiaaaGreatBw35
import Derived.Test.YtcopmdgcjnkiaaaGreatBw37
import Derived.Deep.RegionLaw
import Derived.Test.YtcopmdgcjnkiaaaGreatBw25
import Derived.Test.YtcopmdgcjnkiaaaGreatBw31
import Derived.Deep.RegionHeld3
import Derived.Test.YtcopmdgcjnkiaaaGreatBw8
import Derived.WalkKit
import Derived.WalkSpells
import Derived.WalkLawsBesides
import Derived.Deep.QuietTactic
import Derived.BigQuiet
set_option linter.unusedVariables false
set_option linter.unusedSimpArgs false
namespace Go.Proofs.YtcopmdgcjnkiaaaGreat
open Go.RowKit

/-- what execute hands back, and makes -/
def RetEx (w : World) (B g : Nat) (m : Mp) (l : List Pr) (x : Ent) (e : Ending) (w' : World) : Prop :=
  e = .returned (.bool (doneE (valOf l) x)) ∧ ∃ m' l' q', PB w' B g m' l' q' ∧ w.grownBy w' (some g) ∧ ∀ bs, stepR ⟨valOf l, m.cs, m.os, bs⟩ x = ⟨valOf l', m'.cs, m'.os, bs ++ [doneE (valOf l) x]⟩
set_option maxHeartbeats 1000000 in
set_option maxRecDepth 100000 in
theorem exec_any (gr ri B g : Nat) (m : Mp) (l : List Pr) (q : Dv) (x : Em) (w : World) (h : PB w B g m l q) (hc : w.cell? ⟨gr, ri, none⟩ = some (.pointer (some ⟨g, 0, none⟩))) (hx : ES w x) (hk : chkE (entOf x) = 0) :
    Calls Tryz.prog 41 #[.pointer (some ⟨gr, ri, none⟩), emV x] w (RetEx w B g m l (entOf x)) := by
  have hgr : gr < w.heap.size := cell_lt hc
  have b0 := (Below.refl w.heap.size w).alloc (Nat.le_refl _) (.cells (emC x) 41)
  have x0 := Box.new w 41 (emC x)
  have hx1 := hx.below b0
  have h1 := h.below b0
  have hc1 := (b0.cell (p := ⟨gr, ri, none⟩) hgr).trans hc
  obtain ⟨D, c, d, isM, ⟨A, ca, cs, O, co, os⟩⟩ := x
  unfold emV
  unfold emC at b0 x0 hx1 h1 hc1 ⊢
  simp only at b0 x0 hx1 h1 hc1 ⊢
  have c0 := x0.cell 0 (v := .slice D d.length c) rfl
  have c1 := x0.cell 1 (v := .bool isM) rfl
  have c2 := x0.cell 2 (v := .slice A cs.length ca) rfl
  have c3 := x0.cell 3 (v := .slice O os.length co) rfl
  have HG := hideP (grown_below b0.drew (some g))
  cases isM
  · have HD := hideP (do_ok B g m l q D c d _ (h1.below (Below.refl _ _).drew) (hx1.ops.go (Below.refl _ _).drew) hk)
    have HE := hideP (show doneE (valOf l) (entOf ⟨D, c, d, false, ⟨A, ca, cs, O, co, os⟩⟩) = (doneV (valOf l) d).2 ∧ ∀ bs, stepR ⟨valOf l, m.cs, m.os, bs⟩ (entOf ⟨D, c, d, false, ⟨A, ca, cs, O, co, os⟩⟩) = ⟨(doneV (valOf l) d).1, m.cs, m.os, bs ++ [(doneV (valOf l) d).2]⟩ from ⟨rfl, fun _ => rfl⟩)
    unfold RetEx
    rw [HE.out.1]
    clear h h1 hx hx1 x0 b0 hc hk
    go_enter Tryz.func41, Tryz.ntmps41
    go_wp2_with fail
    go_region_law (
      (go_simp
       go_at_call 65
       refine HD.out.mono ?_
       rintro e w2 ⟨rfl, l', q', hP, hv, hg⟩))
    all_goals
      have HF := hideP (show ∃ m' l' q', PB w2 B g m' l' q' ∧ w.grownBy w2 (some g) ∧ ∀ bs, stepR ⟨valOf l, m.cs, m.os, bs⟩ (entOf ⟨D, c, d, false, ⟨A, ca, cs, O, co, os⟩⟩) = ⟨valOf l', m'.cs, m'.os, bs ++ [(doneV (valOf l) d).2]⟩ from
        ⟨m, l', q', hP, grown_trans HG.out hg, fun bs => by rw [HE.out.2, hv]⟩)
      clear hP hv hg HG HE HD
      go_wp2_with fail
      go_ret
      exact ⟨rfl, HF.out⟩
  · have HT := hideP (turn_ok B g m l q _ _ (h1.below (Below.refl _ _).drew) (hx1.map.below (Below.refl _ _).drew) (chkM_ok.1 hk))
    simp only at HT
    have HE := hideP (show doneE (valOf l) (entOf ⟨D, c, d, true, ⟨A, ca, cs, O, co, os⟩⟩) = true ∧ ∀ bs, stepR ⟨valOf l, m.cs, m.os, bs⟩ (entOf ⟨D, c, d, true, ⟨A, ca, cs, O, co, os⟩⟩) = ⟨valOf l, cs, os, bs ++ [true]⟩ from ⟨rfl, fun _ => rfl⟩)
    unfold RetEx
    rw [HE.out.1]
    clear h h1 hx hx1 x0 b0 hc hk
    go_enter Tryz.func41, Tryz.ntmps41
    go_wp2_with fail
    go_region_law (
      (go_simp
       go_at_call 64
       refine HT.out.mono ?_
       rintro e w2 ⟨rfl, A', ca', O', co', q', hP, hg⟩))
    all_goals
      have HF := hideP (show ∃ m' l' q', PB w2 B g m' l' q' ∧ w.grownBy w2 (some g) ∧ ∀ bs, stepR ⟨valOf l, m.cs, m.os, bs⟩ (entOf ⟨D, c, d, true, ⟨A, ca, cs, O, co, os⟩⟩) = ⟨valOf l', m'.cs, m'.os, bs ++ [true]⟩ from
        ⟨_, l, q', hP, grown_trans HG.out hg, fun bs => by rw [HE.out.2]⟩)
      clear hP hg HG HE HT
      go_wp2_with fail
      go_ret
      exact ⟨rfl, HF.out⟩
end Go.Proofs.YtcopmdgcjnkiaaaGreat

set_option linter.unusedVariables false
set_option linter.unusedSimpArgs false
namespace Go.Proofs.YtcopmdgcjnkiaaaGreat
open Go.RowKit

set_option maxHeartbeats 2000000 in
set_option maxRecDepth 100000 in
theorem cstep_any (c : Cs) (B : Nat) (i : Int) (w : World) (h : c.Ok w B) :
    Calls Tryz.prog 16 #[.pointer (some ⟨c.s.g, 0, none⟩), .int .i64 i] w fun e w' => ∃ c', e = .returned (.tuple #[.bool (cpB (logM c.s.ct) c.st i), .int .i64 (cpQ (logM c.s.ct) c.st i)]) ∧ c.To w B c' w' c.s.ct (cpS (logM c.s.ct) c.st i) := by
  have HH := hideP (chas_any c B i w h)
  have hlen : c.st.length = c.rs.length := by simp [Cs.st]
  by_cases hin : 0 ≤ i ∧ i < (c.rs.length : Int)
  · rw [decide_eq_true hin] at HH
    obtain ⟨n, rfl⟩ : ∃ n : Nat, i = n := ⟨i.toNat, by omega⟩
    have hn : n < c.rs.length := by omega
    obtain ⟨r, hr⟩ : ∃ r, c.rs[n]? = some r := ⟨_, List.getElem?_eq_getElem hn⟩
    have hst : c.st[n]? = some r.st := by simp [Cs.st, hr]
    have bd := (Below.refl w.heap.size w).drew
    have hW := h.below bd
    obtain ⟨gr, hAR, hgl, q0, q1⟩ := h.at_ hr
    have c2 := hW.c2
    rw [hAR] at c2
    have HL := hideP (clog_any c B _ hW)
    have g1 : (0 : Int) ≤ (n : Int) := by omega
    have g2 : (n : Int) < (c.rs.length : Int) := by omega
    have HC2 := hideP (fun (W : World) (hW : c.Ok W B) => show W.cell? ⟨c.s.g, 2, none⟩ = some (.slice (some ⟨gr, 0, none⟩) c.rs.length c.cR) from by rw [← hAR]; exact hW.c2)
    have HOK := hideP (fun (W : World) (hb : Below w.drew.heap.size w.drew W) => hW.below hb)
    have HAT := hideP (fun (W : World) (hW : c.Ok W B) => show W.cell? ⟨gr, n * 2 + 1, none⟩ = some (.slice r.A r.bs.length r.c) from by
      obtain ⟨gr', e, _, _, q1⟩ := hW.at_ hr
      rw [hAR] at e; injection e with e; injection e with e; subst e
      exact q1)
    have hsm := h.small hr
    have HX := hideP (fun (W : World) (hW : c.Ok W B) (x : Em) (hx : ES W x) (hk : chkE (entOf x) = 0) => show Calls Tryz.prog 41 #[.pointer (some ⟨gr, n * 2, none⟩), emV x] W (RetEx W B r.g r.m r.l (entOf x)) from by
      obtain ⟨gr', e, _, q0, _⟩ := hW.at_ hr
      rw [hAR] at e; injection e with e; injection e with e; subst e
      exact exec_any gr (n * 2) B r.g r.m r.l r.q x W (hW.ro n r hr).pb q0 hx hk)
    have HCK := hideP (fun (x : Ent) (hx : x ∈ logM c.s.ct) => h.ms.log_chk hx)
    have HWT := hideP (fun (W : World) (hb : Below w.drew.heap.size w.drew W) (hle : (logM c.s.ct).length ≤ r.bs.length) => show cpQ (logM c.s.ct) c.st (n : Int) = 6 ∧ cpB (logM c.s.ct) c.st (n : Int) = false ∧ c.To w B c W c.s.ct (cpS (logM c.s.ct) c.st (n : Int)) from by
      obtain ⟨e1, e2, e3⟩ := cp_wait hst hle
      exact ⟨e1, e2, by rw [e3]; exact Cs.To.same h (bd.trans (hb.mono bd.size))⟩)
    -- what comes of an entry that is there
    have HGO := hideP (fun (x : Em) (hx : (logM c.s.ct)[r.bs.length]? = some (entOf x)) (W W3 : World) (hb : Below w.drew.heap.size w.drew W) (m' : Mp) (l' : List Pr) (q' : Dv) (hp : PB W3 B r.g m' l' q') (hg : W.grownBy W3 (some r.g))
        (hs : ∀ bs, stepR ⟨valOf r.l, r.m.cs, r.m.os, bs⟩ (entOf x) = ⟨valOf l', m'.cs, m'.os, bs ++ [doneE (valOf r.l) (entOf x)]⟩) (ty : TypeId) =>
      show W3.cell? ⟨gr, n * 2 + 1, none⟩ = some (.slice r.A r.bs.length r.c) ∧ cpQ (logM c.s.ct) c.st (n : Int) = 0 ∧ cpB (logM c.s.ct) c.st (n : Int) = doneE (valOf r.l) (entOf x) ∧
        ∃ A' c' w2 m, (Builtin.append_ #[55, 55] ty #[.slice r.A r.bs.length r.c, .slice (some ⟨W3.heap.size, 0, none⟩) 1 1]).run Tryz.prog (W3.alloc (.cells #[.bool (doneE (valOf r.l) (entOf x))] 4)) = .ok (.slice A' m c') w2 ∧
          w2.cell? ⟨gr, n * 2 + 1, none⟩ = some (.slice r.A r.bs.length r.c) ∧ w2.frozen? ⟨gr, n * 2 + 1, none⟩ = false ∧ ∃ cc, c.To w B cc (w2.setCell ⟨gr, n * 2 + 1, none⟩ (.slice A' m c')) c.s.ct (cpS (logM c.s.ct) c.st (n : Int)) from by
      have hW := h.below (bd.trans (hb.mono bd.size))
      have T1 := hW.part hr hp hg
      have hr3 : (c.rs.set n ⟨r.g, m', l', q', r.A, r.c, r.bs⟩)[n]? = some ⟨r.g, m', l', q', r.A, r.c, r.bs⟩ := by rw [List.getElem?_set, if_pos rfl, if_pos hn]
      obtain ⟨A', c', w2, gr', hrun, e, k1, k2, T2⟩ := T1.ok.told hr3 (doneE (valOf r.l) (entOf x)) (List.getElem?_eq_some_iff.1 hx).1 ty
      simp only at e
      rw [hAR] at e; injection e with e; injection e with e; subst e
      obtain ⟨gr', e, _, _, k3⟩ := T1.ok.at_ hr3
      simp only at e
      rw [hAR] at e; injection e with e; injection e with e; subst e
      obtain ⟨e1, e2, e3⟩ := cp_go hst hx
      have T := (T1.trans T2).pre (bd.trans (hb.mono bd.size))
      have e4 : (Cs.st ⟨c.s, c.AR, c.cR, c.rs.set n ⟨r.g, m', l', q', r.A, r.c, r.bs⟩⟩).set n ⟨valOf l', m'.cs, m'.os, r.bs ++ [doneE (valOf r.l) (entOf x)]⟩ = cpS (logM c.s.ct) c.st (n : Int) := by
        rw [e3, show stepR r.st (entOf x) = _ from hs r.bs]
        simp [Cs.st, List.map_set]
      have T' := T
      rw [e4] at T'
      exact ⟨k3, e1, e2, A', c', w2, _, hrun, k1, k2, _, T'⟩)
    generalize hlg : logM c.s.ct = lg at HL HCK HWT HGO ⊢
    generalize c.s.g = g at c2 HC2 HH HL ⊢
    generalize hst2 : c.st = st at HWT HGO ⊢
    have hcl : c.rs.length ≤ 4 := h.few
    generalize c.rs.length = rn at c2 HC2 HH g2 hcl
    clear h hin hlen hst hn hlg hst2 q0 q1 hAR
    go_enter Tryz.func16, Tryz.ntmps16
    go_wp2_with fail
    refine HH.out.mono ?_
    rintro e w' ⟨rfl, rfl⟩
    go_wp2_with fail
    go_region_held3 (fun W => W.cell? ⟨g, 2, none⟩ = some (.slice (some ⟨gr, 0, none⟩) rn c.cR)) (first | with_reducible exact c2b | with_reducible exact c2) (
      (go_at_call 40; refine HL.out.mono ?_; rintro e w2 ⟨A, cc, xs, rfl, hxs, hew, hb2⟩; have h2 := HOK.out w2 hb2; have c2b := HC2.out w2 h2))
    all_goals
      have hxl : xs.length = lg.length := by rw [← hxs, List.length_map]
      have q1 := HAT.out w2 h2
      by_cases hle : lg.length ≤ r.bs.length
      · obtain ⟨e1, e2, T⟩ := HWT.out w2 hb2 hle
        have HE := hideP (And.intro e1 e2)
        have d1 : (xs.length : Int) ≤ (r.bs.length : Int) := by omega
        have HT := hideP T
        clear T e1 e2 hle hew hxs hxl
        go_wp2_with fail
        go_ret2
        exact ⟨c, by rw [HE.out.1, HE.out.2]; rfl, HT.out⟩
      · have hlt : r.bs.length < xs.length := by omega
        obtain ⟨bb, oo, hA, hbl, p0, p1, p2, p3⟩ := hew.el.cells r.bs.length xs[r.bs.length] (List.getElem?_eq_getElem hlt)
        have hes := hew.el.es _ (List.getElem_mem hlt)
        have hxe : lg[r.bs.length]? = some (entOf xs[r.bs.length]) := by rw [← hxs, List.getElem?_map, List.getElem?_eq_getElem hlt]; rfl
        generalize xs[r.bs.length] = x at p0 p1 p2 p3 hes hxe
        have HXX := hideP (HX.out w2 h2 x hes (HCK.out _ (List.mem_of_getElem? hxe)))
        have d1 : ¬ (xs.length : Int) ≤ (r.bs.length : Int) := by omega
        have g3 : (0 : Int) ≤ (r.bs.length : Int) := by omega
        have g4 : (r.bs.length : Int) < (xs.length : Int) := by omega
        subst hA
        unfold emV emC at HXX
        have HGG := hideP (HGO.out x hxe w2)
        have HB2 := hideP hb2
        clear hew hxs hxl hle hlt hes hxe HX HGO HWT hb2 h2 c2b HCK
        generalize r.bs.length = bl at q1 p0 p1 p2 p3 d1 g3 g4 HGG hsm
        go_wp2_with fail
        refine HXX.out.mono ?_
        clear HXX
        rintro e w3 ⟨rfl, m', l', q', hp, hg, hs⟩
        obtain ⟨k3, e1, e2, A', c', w4, m4, hrun, k1, k2, cc', T⟩ := HGG.out w3 HB2.out m' l' q' hp hg hs 55
        have HE := hideP (And.intro e1 e2)
        have HR := hideP hrun
        have HT := hideP T
        clear hrun T e1 e2 hp hg hs HGG p0 p1 p2 p3 q1
        generalize doneE (valOf r.l) (entOf x) = dn at HR HE ⊢
        go_wp2_with (at_builtin; refine Lib.wpList_append_run _ rfl _ _ _ _ rfl _ _ rfl rfl _ _ HR.out ?_)
        go_ret2
        exact ⟨cc', by rw [HE.out.1, HE.out.2]; rfl, HT.out⟩
  · rw [decide_eq_false hin] at HH
    obtain ⟨q1, q2, q3⟩ := cp_none (log := logM c.s.ct) (st := c.st) (i := i) (by rw [hlen]; exact hin)
    rw [q1, q2, q3]
    have HT := hideP (Cs.To.same h (Below.refl _ _))
    clear h hin q1 q2 q3 hlen
    go_enter Tryz.func16, Tryz.ntmps16
    go_wp2_with fail
    refine HH.out.mono ?_
    rintro e w' ⟨rfl, rfl⟩
    go_wp2_with fail
    go_ret2
    exact ⟨c, rfl, HT.out⟩
end Go.Proofs.YtcopmdgcjnkiaaaGreat

set_option linter.unusedVariables false
set_option linter.unusedSimpArgs false
namespace Go.Proofs.YtcopmdgcjnkiaaaGreat
open Go.RowKit

set_option maxHeartbeats 400000 in
set_option maxRecDepth 100000 in
theorem bequal_same (A1 A2 : Option Addr) (c1 c2 : Nat) (l : List Bool) (w : World) (h1 : VS w A1 (l.map Value.bool)) (h2 : VS w A2 (l.map Value.bool)) (hl : l.length < 4611686018427387904) :
    Calls Tryz.prog 21 #[.slice A1 l.length c1, .slice A2 l.length c2] w fun e w' => e = .returned (.bool true) ∧ Below w.heap.size w w' := by
  have d0 : ((l.length : Int) != (l.length : Int)) = false := by simp
  go_enter Tryz.func21, Tryz.ntmps21
  go_wp2_with fail
  go_loopw [13] (fun i wr => ∃ k : Nat, k ≤ l.length ∧ i = .int .i64 k ∧ Below w.heap.size w wr) (fun i _ => l.length - (intOf i).toNat)
  case atStart => exact ⟨0, Nat.zero_le _, rfl, Below.refl _ _⟩
  case round =>
    obtain ⟨k, hk, rfl, hb⟩ := hrel
    by_cases hlt : k < l.length
    · obtain ⟨b, o, rfl, hbl, q1⟩ := h1.below hb k (.bool l[k]) (by simp [hlt])
      obtain ⟨b', o', rfl, hbl', q2⟩ := h2.below hb k (.bool l[k]) (by simp [hlt])
      clear h1 h2
      generalize l[k] = p at q1 q2
      have g1 : (0 : Int) ≤ (k : Int) := by omega
      have g2 : (k : Int) < (l.length : Int) := by omega
      have dp : (p != p) = false := by simp
      go_wp2_with fail
      go_quiet (fail)
      go_wp2_with fail
      go_roundw
      case rel => exact ⟨k + 1, by omega, by go_num, ⟨hb.os, hb.tape, hb.output, hb.size, hb.block⟩⟩
      case measure => simp [intOf]; omega
    · go_wp2_with fail
      go_ret
      exact ⟨rfl, hb⟩
end Go.Proofs.YtcopmdgcjnkiaaaGreat

set_option linter.unusedVariables false
set_option linter.unusedSimpArgs false
namespace Go.Proofs.YtcopmdgcjnkiaaaGreat
open Go.RowKit

set_option maxHeartbeats 400000 in
set_option maxRecDepth 100000 in
theorem bgrow_any (n : Nat) (w : World) (hn : n ≤ 140737488355328) :
    Calls Tryz.prog 66 #[.slice none 0 0, .int .i64 n] w fun e w' => ∃ v, e = .returned v ∧ w'.ownsRow w.heap.size 4 1 v 0 [] ∧ Below w.heap.size w w' := by
  have h1 : ¬ ((n : Int) < 0) := by omega
  rcases Nat.eq_zero_or_pos n with h0 | h0
  · subst h0
    go_enter Tryz.func66, Tryz.ntmps66
    go_wp2
    go_ret
    exact ⟨_, rfl, World.ownsRow_nil w _ _ _, Below.refl _ _⟩
  · obtain ⟨i0, hi, hz0, hz1, hz2⟩ := info_parts boolInfo
    have hrz : ∀ ty, (Builtin.append_ #[55, 3] ty #[.slice none 0 0, .int .i64 n]).run Tryz.prog w = _ := fun ty =>
      Lib.run_append_grow_zeros w 55 3 ty 4 i0 _ .i64 .i64 Tryz.underlying55 Tryz.underlying3 hi hz0 none 0 0 [] (run_firstCells_none w.drew i0.size 0 0 0) n h0 (by omega) (by omega) (by omega) (by rw [hz2]; omega)
        (growslice_fits (by omega) (by rw [hz2]; omega))
    have hGn : 0 + n ≤ grownCap w (0 + n) 0 4 := grownCap_ge w _ _ _
    have hGm := grownCap_le_maxLen w (0 + n) 0 4 (by unfold maxLen; omega)
    generalize grownCap w (0 + n) 0 4 = G at hrz hGn hGm
    obtain ⟨cur, hcur, hcs⟩ : ∃ cur : Array Value, ((([] : List Value).toArray ++ Builtin.zeroCells (Value.bool false).cells n ++ Builtin.zeroCells (Value.bool false).cells (G - (0 + n)))) = cur ∧ cur.size = G * 1 := by
      refine ⟨_, rfl, ?_⟩
      simp only [Array.size_append, size_zeroCells]
      simp [Value.cells]
      omega
    rw [hcur] at hrz
    have hrz' := fun ty => hideP (hrz ty)
    clear hrz hcur
    have hb : Below w.heap.size w (w.drew.alloc (.cells cur 4)) := (Below.refl _ w).drew.alloc (Nat.le_refl _) _
    have hG : G ≤ 9223372036854775807 := by unfold maxLen at hGm; omega
    go_enter Tryz.func66, Tryz.ntmps66
    go_wp2_with (at_builtin; refine Lib.wpList_append_run _ rfl _ _ _ _ rfl _ _ rfl rfl _ _ (hrz' _).out ?_)
    go_ret
    exact ⟨_, rfl, ⟨rfl, .inr ⟨w.heap.size, G, cur, rfl, Nat.le_refl _, heap_alloc_new w.drew _, Nat.zero_le _, hGm, hcs, rfl⟩⟩, hb⟩
/-- append of what another slice holds onto a row of the call's own -/
theorem app_src {P : Program} {st t : TypeId} {z : Value} {bytes : Nat} (hS : P.underlying st = some (.slice t)) (hI : (P.info? t).map (fun i => (i.zero, i.size, i.bytes)) = some (some z, 1, bytes)) (hz : z.cells.size = 1)
    (w : World) (base : Nat) (ty : TypeId) (A : Option Addr) (c : Nat) (xs : List Value) (hown : OR w base t A c xs) (A2 : Option Addr) (c2 : Nat) (news : List Value) (h2 : VS w A2 news) (h1 : ∀ u ∈ news, u.oneCell' = true)
    (h63 : (xs.length + news.length) * bytes ≤ 140737488355328) (hby : 1 ≤ bytes) (hbase : base ≤ w.heap.size) :
    ∃ A' c' w', (Builtin.append_ #[st, st] ty #[.slice A xs.length c, .slice A2 news.length c2]).run P w = .ok (.slice A' (xs ++ news).length c') w' ∧ OR w' base t A' c' (xs ++ news) ∧ w.grownBy w' (Value.slice A xs.length c).ownBlock := by
  obtain ⟨i0, hi, hz0, hz1, hz2⟩ := info_parts hI
  have hle : xs.length + news.length ≤ 140737488355328 := Nat.le_trans (Nat.le_mul_of_pos_right _ hby) h63
  have hm : xs.length + news.length ≤ maxLen := by unfold maxLen; omega
  cases A2 with
  | none =>
    have h0 : news = [] := by
      cases news with
      | nil => rfl
      | cons q r => obtain ⟨_, _, e, _⟩ := h2 0 q rfl; cases e
    subst h0
    refine ⟨A, c, w, ?_, by simpa using hown, ⟨rfl, rfl, rfl, Nat.le_refl _, fun _ _ _ => rfl⟩⟩
    rcases hown.2 with ⟨hv, h0⟩ | ⟨g, cap, cur, hv, _, _, hnc, _⟩
    · injection hv with a b d
      subst a; subst d
      simp [Builtin.append_, run_underlying hS, sizeOf, typeInfo, hi, Builtin.lenOf, Builtin.firstCells, h0]
    · injection hv with a b d
      subst a; subst d
      simp [Builtin.append_, run_underlying hS, sizeOf, typeInfo, hi, Builtin.lenOf, Builtin.firstCells, hnc, storeCells]
  | some ad =>
    have hc : ∀ j u, news[j]? = some u → w.cell? (ad.add j) = some u := by
      intro j u hu
      obtain ⟨b, o, e, _, hcc⟩ := h2 j u hu
      injection e with e
      subst e
      rw [Addr.add_lit]
      exact hcc
    obtain ⟨v', w', hrun, h3, h4, _, _⟩ := run_append_own_at (P := P) w base st ty t i0 _ 1 bytes hS hi hz0 hz1 hz2 hz (by decide) _ xs.length xs hown ad news.length c2 news (by simp) hc h1 hm h63 hbase
    rw [← List.length_append] at h3
    obtain ⟨A', c', rfl, ho⟩ := OR.of_own h3
    exact ⟨A', c', w', hrun, ho, h4⟩
end Go.Proofs.YtcopmdgcjnkiaaaGreat
