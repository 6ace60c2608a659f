/-
  (*copies.Copies).Step.
  slices.Grow of nil at bools; append of what another slice holds.
  slices.Concat of two, at bools.
  (*parts.Parts).Map.
  parts.New and Map.
-/
import Derived.Test.YtefdipjhjgmokaaGreatDoorBy19
import Derived.Test.YtefdipjhjgmokaaGreatDoorBy17
import Derived.Test.YtefdipjhjgmokaaGreatDoorBy23
import Derived.Deep.RegionHeld3
import Derived.Test.YtefdipjhjgmokaaGreatDoorBy1
import Derived.WalkKit
import Derived.WalkSpells
import Derived.WalkLawsBesides
import Derived.Deep.QuietTactic
import Derived.BigQuiet
import Derived.Test.YtefdipjhjgmokaaGreatDoorBy9
import Derived.Test.YtefdipjhjgmokaaGreatDoorBy21
set_option linter.unusedVariables false
set_option linter.unusedSimpArgs false
namespace Go.Proofs.YtefdipjhjgmokaaGreatDoor
open Go.RowKit

set_option maxHeartbeats 2000000 in
set_option maxRecDepth 100000 in
theorem cstep_any (c : Cs) (B : Nat) (i : Int) (w : World) (h : c.Ok w B) :
    Calls Tryz.prog 18 #[.pointer (some ⟨c.s.g, 0, none⟩), .int .i64 i] w fun e w' => ∃ c', e = .returned (.tuple #[.bool (cpB (logM c.s.ct) c.st i), .int .i64 (cpQ (logM c.s.ct) c.st i)]) ∧ c.To w B c' w' c.s.ct (cpS (logM c.s.ct) c.st i) := by
  have HH := hideP (chas_any c B i w h)
  have hlen : c.st.length = c.rs.length := by simp [Cs.st]
  by_cases hin : 0 ≤ i ∧ i < (c.rs.length : Int)
  · rw [decide_eq_true hin] at HH
    obtain ⟨n, rfl⟩ : ∃ n : Nat, i = n := ⟨i.toNat, by omega⟩
    have hn : n < c.rs.length := by omega
    obtain ⟨r, hr⟩ : ∃ r, c.rs[n]? = some r := ⟨_, List.getElem?_eq_getElem hn⟩
    have hst : c.st[n]? = some r.st := by simp [Cs.st, hr]
    have bd := (Below.refl w.heap.size w).drew
    have hW := h.below bd
    obtain ⟨gr, hAR, hgl, q0, q1⟩ := h.at_ hr
    have c2 := hW.c2
    rw [hAR] at c2
    have HL := hideP (clog_any c B _ hW)
    have g1 : (0 : Int) ≤ (n : Int) := by omega
    have g2 : (n : Int) < (c.rs.length : Int) := by omega
    have HC2 := hideP (fun (W : World) (hW : c.Ok W B) => show W.cell? ⟨c.s.g, 2, none⟩ = some (.slice (some ⟨gr, 0, none⟩) c.rs.length c.cR) from by rw [← hAR]; exact hW.c2)
    have HOK := hideP (fun (W : World) (hb : Below w.drew.heap.size w.drew W) => hW.below hb)
    have HAT := hideP (fun (W : World) (hW : c.Ok W B) => show W.cell? ⟨gr, n * 2 + 1, none⟩ = some (.slice r.A r.bs.length r.c) from by
      obtain ⟨gr', e, _, _, q1⟩ := hW.at_ hr
      rw [hAR] at e; injection e with e; injection e with e; subst e
      exact q1)
    have hsm := h.small hr
    have HX := hideP (fun (W : World) (hW : c.Ok W B) (x : Em) (hx : ES W x) (hk : chkE (entOf x) = 0) => show Calls Tryz.prog 93 #[.pointer (some ⟨gr, n * 2, none⟩), emV x] W (RetEx W B r.g r.m r.l (entOf x)) from by
      obtain ⟨gr', e, _, q0, _⟩ := hW.at_ hr
      rw [hAR] at e; injection e with e; injection e with e; subst e
      exact exec_any gr (n * 2) B r.g r.m r.l r.q x W (hW.ro n r hr).pb q0 hx hk)
    have HCK := hideP (fun (x : Ent) (hx : x ∈ logM c.s.ct) => h.ms.log_chk hx)
    have HWT := hideP (fun (W : World) (hb : Below w.drew.heap.size w.drew W) (hle : (logM c.s.ct).length ≤ r.bs.length) => show cpQ (logM c.s.ct) c.st (n : Int) = 6 ∧ cpB (logM c.s.ct) c.st (n : Int) = false ∧ c.To w B c W c.s.ct (cpS (logM c.s.ct) c.st (n : Int)) from by
      obtain ⟨e1, e2, e3⟩ := cp_wait hst hle
      exact ⟨e1, e2, by rw [e3]; exact Cs.To.same h (bd.trans (hb.mono bd.size))⟩)
    -- what comes of an entry that is there
    have HGO := hideP (fun (x : Em) (hx : (logM c.s.ct)[r.bs.length]? = some (entOf x)) (W W3 : World) (hb : Below w.drew.heap.size w.drew W) (m' : Mp) (l' : List Pr) (q' : Dv) (hp : PB W3 B r.g m' l' q') (hg : W.grownBy W3 (some r.g)) (hO : (blk m'.O = blk r.m.O ∧ blk m'.A = blk r.m.A) ∨ ∀ k, blk m'.O = some k ∨ blk m'.A = some k → W.heap.size ≤ k)
        (hs : ∀ bs, stepR ⟨valOf r.l, r.m.cs, r.m.os, bs⟩ (entOf x) = ⟨valOf l', m'.cs, m'.os, bs ++ [doneE (valOf r.l) (entOf x)]⟩) (ty : TypeId) =>
      show W3.cell? ⟨gr, n * 2 + 1, none⟩ = some (.slice r.A r.bs.length r.c) ∧ cpQ (logM c.s.ct) c.st (n : Int) = 0 ∧ cpB (logM c.s.ct) c.st (n : Int) = doneE (valOf r.l) (entOf x) ∧
        ∃ A' c' w2 m, (Builtin.append_ #[90, 90] ty #[.slice r.A r.bs.length r.c, .slice (some ⟨W3.heap.size, 0, none⟩) 1 1]).run Tryz.prog (W3.alloc (.cells #[.bool (doneE (valOf r.l) (entOf x))] 4)) = .ok (.slice A' m c') w2 ∧
          w2.cell? ⟨gr, n * 2 + 1, none⟩ = some (.slice r.A r.bs.length r.c) ∧ w2.frozen? ⟨gr, n * 2 + 1, none⟩ = false ∧ ∃ cc, c.To w B cc (w2.setCell ⟨gr, n * 2 + 1, none⟩ (.slice A' m c')) c.s.ct (cpS (logM c.s.ct) c.st (n : Int)) from by
      have hW := h.below (bd.trans (hb.mono bd.size))
      have T1 := hW.part hr hp hg hO
      have hr3 : (c.rs.set n ⟨r.g, m', l', q', r.A, r.c, r.bs⟩)[n]? = some ⟨r.g, m', l', q', r.A, r.c, r.bs⟩ := by rw [List.getElem?_set, if_pos rfl, if_pos hn]
      obtain ⟨A', c', w2, gr', hrun, e, k1, k2, T2⟩ := T1.ok.told hr3 (doneE (valOf r.l) (entOf x)) (List.getElem?_eq_some_iff.1 hx).1 ty
      simp only at e
      rw [hAR] at e; injection e with e; injection e with e; subst e
      obtain ⟨gr', e, _, _, k3⟩ := T1.ok.at_ hr3
      simp only at e
      rw [hAR] at e; injection e with e; injection e with e; subst e
      obtain ⟨e1, e2, e3⟩ := cp_go hst hx
      have T := (T1.trans T2).pre (bd.trans (hb.mono bd.size))
      have e4 : (Cs.st ⟨c.s, c.AR, c.cR, c.rs.set n ⟨r.g, m', l', q', r.A, r.c, r.bs⟩⟩).set n ⟨valOf l', m'.cs, m'.os, r.bs ++ [doneE (valOf r.l) (entOf x)]⟩ = cpS (logM c.s.ct) c.st (n : Int) := by
        rw [e3, show stepR r.st (entOf x) = _ from hs r.bs]
        simp [Cs.st, List.map_set]
      have T' := T
      rw [e4] at T'
      exact ⟨k3, e1, e2, A', c', w2, _, hrun, k1, k2, _, T'⟩)
    generalize hlg : logM c.s.ct = lg at HL HCK HWT HGO ⊢
    generalize c.s.g = g at c2 HC2 HH HL ⊢
    generalize hst2 : c.st = st at HWT HGO ⊢
    have hcl : c.rs.length ≤ 4 := h.few
    generalize c.rs.length = rn at c2 HC2 HH g2 hcl
    clear h hin hlen hst hn hlg hst2 q0 q1 hAR
    go_enter Tryz.func18, Tryz.ntmps18
    go_wp2_with fail
    refine HH.out.mono ?_
    rintro e w' ⟨rfl, rfl⟩
    go_wp2_with fail
    go_region_held3 (fun W => W.cell? ⟨g, 2, none⟩ = some (.slice (some ⟨gr, 0, none⟩) rn c.cR)) (first | with_reducible exact c2b | with_reducible exact c2) (
      (go_at_call 36; refine HL.out.mono ?_; rintro e w2 ⟨A, cc, xs, rfl, hxs, hew, hb2⟩; have h2 := HOK.out w2 hb2; have c2b := HC2.out w2 h2))
    all_goals
      have hxl : xs.length = lg.length := by rw [← hxs, List.length_map]
      have q1 := HAT.out w2 h2
      by_cases hle : lg.length ≤ r.bs.length
      · obtain ⟨e1, e2, T⟩ := HWT.out w2 hb2 hle
        have HE := hideP (And.intro e1 e2)
        have d1 : (xs.length : Int) ≤ (r.bs.length : Int) := by omega
        have HT := hideP T
        clear T e1 e2 hle hew hxs hxl
        go_wp2_with fail
        go_ret2
        exact ⟨c, by rw [HE.out.1, HE.out.2]; rfl, HT.out⟩
      · have hlt : r.bs.length < xs.length := by omega
        obtain ⟨bb, oo, hA, hbl, p0, p1, p2, p3⟩ := hew.el.cells r.bs.length xs[r.bs.length] (List.getElem?_eq_getElem hlt)
        have hes := hew.el.es _ (List.getElem_mem hlt)
        have hxe : lg[r.bs.length]? = some (entOf xs[r.bs.length]) := by rw [← hxs, List.getElem?_map, List.getElem?_eq_getElem hlt]; rfl
        generalize xs[r.bs.length] = x at p0 p1 p2 p3 hes hxe
        have HXX := hideP (HX.out w2 h2 x hes (HCK.out _ (List.mem_of_getElem? hxe)))
        have d1 : ¬ (xs.length : Int) ≤ (r.bs.length : Int) := by omega
        have g3 : (0 : Int) ≤ (r.bs.length : Int) := by omega
        have g4 : (r.bs.length : Int) < (xs.length : Int) := by omega
        subst hA
        unfold emV emC at HXX
        have HGG := hideP (HGO.out x hxe w2)
        have HB2 := hideP hb2
        clear hew hxs hxl hle hlt hes hxe HX HGO HWT hb2 h2 c2b HCK
        generalize r.bs.length = bl at q1 p0 p1 p2 p3 d1 g3 g4 HGG hsm
        go_wp2_with fail
        refine HXX.out.mono ?_
        clear HXX
        rintro e w3 ⟨rfl, m', l', q', hp, hg, hs, hO⟩
        obtain ⟨k3, e1, e2, A', c', w4, m4, hrun, k1, k2, cc', T⟩ := HGG.out w3 HB2.out m' l' q' hp hg hO hs 90
        have HE := hideP (And.intro e1 e2)
        have HR := hideP hrun
        have HT := hideP T
        clear hrun T e1 e2 hp hg hs hO HGG p0 p1 p2 p3 q1
        generalize doneE (valOf r.l) (entOf x) = dn at HR HE ⊢
        go_wp2_with (at_builtin; refine Lib.wpList_append_run _ rfl _ _ _ _ rfl _ _ rfl rfl _ _ HR.out ?_)
        go_ret2
        exact ⟨cc', by rw [HE.out.1, HE.out.2]; rfl, HT.out⟩
  · rw [decide_eq_false hin] at HH
    obtain ⟨q1, q2, q3⟩ := cp_none (log := logM c.s.ct) (st := c.st) (i := i) (by rw [hlen]; exact hin)
    rw [q1, q2, q3]
    have HT := hideP (Cs.To.same h (Below.refl _ _))
    clear h hin q1 q2 q3 hlen
    go_enter Tryz.func18, Tryz.ntmps18
    go_wp2_with fail
    refine HH.out.mono ?_
    rintro e w' ⟨rfl, rfl⟩
    go_wp2_with fail
    go_ret2
    exact ⟨c, rfl, HT.out⟩
end Go.Proofs.YtefdipjhjgmokaaGreatDoor

set_option linter.unusedVariables false
set_option linter.unusedSimpArgs false
namespace Go.Proofs.YtefdipjhjgmokaaGreatDoor
open Go.RowKit

set_option maxHeartbeats 400000 in
set_option maxRecDepth 100000 in
theorem bgrow_any (n : Nat) (w : World) (hn : n ≤ 140737488355328) :
    Calls Tryz.prog 151 #[.slice none 0 0, .int .i64 n] w fun e w' => ∃ v, e = .returned v ∧ w'.ownsRow w.heap.size 4 1 v 0 [] ∧ Below w.heap.size w w' := by
  have h1 : ¬ ((n : Int) < 0) := by omega
  rcases Nat.eq_zero_or_pos n with h0 | h0
  · subst h0
    go_enter Tryz.func151, Tryz.ntmps151
    go_wp2
    go_ret
    exact ⟨_, rfl, World.ownsRow_nil w _ _ _, Below.refl _ _⟩
  · obtain ⟨i0, hi, hz0, hz1, hz2⟩ := info_parts boolInfo
    have hrz : ∀ ty, (Builtin.append_ #[90, 3] ty #[.slice none 0 0, .int .i64 n]).run Tryz.prog w = _ := fun ty =>
      Lib.run_append_grow_zeros w 90 3 ty 4 i0 _ .i64 .i64 Tryz.underlying90 Tryz.underlying3 hi hz0 none 0 0 [] (run_firstCells_none w.drew i0.size 0 0 0) n h0 (by omega) (by omega) (by omega) (by rw [hz2]; omega)
        (growslice_fits (by omega) (by rw [hz2]; omega))
    have hGn : 0 + n ≤ grownCap w (0 + n) 0 4 := grownCap_ge w _ _ _
    have hGm := grownCap_le_maxLen w (0 + n) 0 4 (by unfold maxLen; omega)
    generalize grownCap w (0 + n) 0 4 = G at hrz hGn hGm
    obtain ⟨cur, hcur, hcs⟩ : ∃ cur : Array Value, ((([] : List Value).toArray ++ Builtin.zeroCells (Value.bool false).cells n ++ Builtin.zeroCells (Value.bool false).cells (G - (0 + n)))) = cur ∧ cur.size = G * 1 := by
      refine ⟨_, rfl, ?_⟩
      simp only [Array.size_append, size_zeroCells]
      simp [Value.cells]
      omega
    rw [hcur] at hrz
    have hrz' := fun ty => hideP (hrz ty)
    clear hrz hcur
    have hb : Below w.heap.size w (w.drew.alloc (.cells cur 4)) := (Below.refl _ w).drew.alloc (Nat.le_refl _) _
    have hG : G ≤ 9223372036854775807 := by unfold maxLen at hGm; omega
    go_enter Tryz.func151, Tryz.ntmps151
    go_wp2_with (at_builtin; refine Lib.wpList_append_run _ rfl _ _ _ _ rfl _ _ rfl rfl _ _ (hrz' _).out ?_)
    go_ret
    exact ⟨_, rfl, ⟨rfl, .inr ⟨w.heap.size, G, cur, rfl, Nat.le_refl _, heap_alloc_new w.drew _, Nat.zero_le _, hGm, hcs, rfl⟩⟩, hb⟩
/-- append of what another slice holds onto a row of the call's own -/
theorem app_src {P : Program} {st t : TypeId} {z : Value} {bytes : Nat} (hS : P.underlying st = some (.slice t)) (hI : (P.info? t).map (fun i => (i.zero, i.size, i.bytes)) = some (some z, 1, bytes)) (hz : z.cells.size = 1)
    (w : World) (base : Nat) (ty : TypeId) (A : Option Addr) (c : Nat) (xs : List Value) (hown : OR w base t A c xs) (A2 : Option Addr) (c2 : Nat) (news : List Value) (h2 : VS w A2 news) (h1 : ∀ u ∈ news, u.oneCell' = true)
    (h63 : (xs.length + news.length) * bytes ≤ 140737488355328) (hby : 1 ≤ bytes) (hbase : base ≤ w.heap.size) :
    ∃ A' c' w', (Builtin.append_ #[st, st] ty #[.slice A xs.length c, .slice A2 news.length c2]).run P w = .ok (.slice A' (xs ++ news).length c') w' ∧ OR w' base t A' c' (xs ++ news) ∧ w.grownBy w' (Value.slice A xs.length c).ownBlock := by
  obtain ⟨i0, hi, hz0, hz1, hz2⟩ := info_parts hI
  have hle : xs.length + news.length ≤ 140737488355328 := Nat.le_trans (Nat.le_mul_of_pos_right _ hby) h63
  have hm : xs.length + news.length ≤ maxLen := by unfold maxLen; omega
  cases A2 with
  | none =>
    have h0 : news = [] := by
      cases news with
      | nil => rfl
      | cons q r => obtain ⟨_, _, e, _⟩ := h2 0 q rfl; cases e
    subst h0
    refine ⟨A, c, w, ?_, by simpa using hown, ⟨rfl, rfl, rfl, Nat.le_refl _, fun _ _ _ => rfl⟩⟩
    rcases hown.2 with ⟨hv, h0⟩ | ⟨g, cap, cur, hv, _, _, hnc, _⟩
    · injection hv with a b d
      subst a; subst d
      simp [Builtin.append_, run_underlying hS, sizeOf, typeInfo, hi, Builtin.lenOf, Builtin.firstCells, h0]
    · injection hv with a b d
      subst a; subst d
      simp [Builtin.append_, run_underlying hS, sizeOf, typeInfo, hi, Builtin.lenOf, Builtin.firstCells, hnc, storeCells]
  | some ad =>
    have hc : ∀ j u, news[j]? = some u → w.cell? (ad.add j) = some u := by
      intro j u hu
      obtain ⟨b, o, e, _, hcc⟩ := h2 j u hu
      injection e with e
      subst e
      rw [Addr.add_lit]
      exact hcc
    obtain ⟨v', w', hrun, h3, h4, _, _⟩ := run_append_own_at (P := P) w base st ty t i0 _ 1 bytes hS hi hz0 hz1 hz2 hz (by decide) _ xs.length xs hown ad news.length c2 news (by simp) hc h1 hm h63 hbase
    rw [← List.length_append] at h3
    obtain ⟨A', c', rfl, ho⟩ := OR.of_own h3
    exact ⟨A', c', w', hrun, ho, h4⟩
end Go.Proofs.YtefdipjhjgmokaaGreatDoor

set_option linter.unusedVariables false
set_option linter.unusedSimpArgs false
namespace Go.Proofs.YtefdipjhjgmokaaGreatDoor
open Go.RowKit

/-- a slice of bools: where, its capacity, what it reads as -/
structure Bl where
  A : Option Addr
  c : Nat
  l : List Bool
def catB (ss : List Bl) : List Bool := ss.flatMap (·.l)
theorem catB_take (ss : List Bl) (k : Nat) (h : k < ss.length) : catB (ss.take (k + 1)) = catB (ss.take k) ++ (ss[k]).l := by
  unfold catB; rw [List.take_succ_eq_append_getElem h, List.flatMap_append]; simp
theorem catB_le (ss : List Bl) (k : Nat) : (catB (ss.take k)).length ≤ (catB ss).length := by
  have : catB ss = catB (ss.take k) ++ catB (ss.drop k) := by unfold catB; rw [← List.flatMap_append, List.take_append_drop]
  rw [this, List.length_append]; omega
structure Bls (w : World) (g o : Nat) (ss : List Bl) : Prop where
  lt : g < w.heap.size
  cell : ∀ j s, ss[j]? = some s → w.cell? ⟨g, o + j, none⟩ = some (.slice s.A s.l.length s.c)
  vs : ∀ s ∈ ss, VS w s.A (s.l.map Value.bool)
def BInv (w : World) (ss : List Bl) (v i : Value) (wr : World) : Prop :=
  ∃ (k : Nat) (A : Option Addr) (c : Nat), k ≤ ss.length ∧ i = .int .i64 k ∧ v = .slice A (catB (ss.take k)).length c ∧ OR wr w.heap.size 4 A c ((catB (ss.take k)).map Value.bool) ∧ Below w.heap.size w wr

set_option maxHeartbeats 400000 in
set_option maxRecDepth 100000 in
theorem bconcat_any (g o c : Nat) (ss : List Bl) (w : World) (hS : Bls w g o ss) (hn : (catB ss).length ≤ 1000000) (hs : ss.length ≤ 1000) :
    Calls Tryz.prog 103 #[.slice (some ⟨g, o, none⟩) ss.length c] w fun e w' => ∃ A c, e = .returned (.slice A (catB ss).length c) ∧ OR w' w.heap.size 4 A c ((catB ss).map Value.bool) ∧ Below w.heap.size w w' := by
  go_enter Tryz.func103, Tryz.ntmps103
  go_wp2_with fail
  go_loop [3, 11] (fun z i => ∃ k : Nat, k ≤ ss.length ∧ i = .int .i64 k ∧ z = .int .i64 ((catB (ss.take k)).length : Nat)) (fun _ i => ss.length - (intOf i).toNat)
  case atStart => exact ⟨0, Nat.zero_le _, rfl, rfl⟩
  case round =>
    obtain ⟨k, hk, rfl, rfl⟩ := hrel
    by_cases hlt : k < ss.length
    · have c1 := hS.cell k _ (List.getElem?_eq_getElem hlt)
      have h1 := catB_le ss (k + 1)
      have h2 := hideP (show (catB (ss.take (k + 1))).length = (catB (ss.take k)).length + (ss[k]).l.length by rw [catB_take ss k hlt, List.length_append])
      rw [catB_take ss k hlt, List.length_append] at h1
      generalize ss[k] = s at c1 h1 h2
      generalize (catB (ss.take k)).length = z at h1 h2 ⊢
      go_wp2_with fail
      go_round
      case rel => exact ⟨k + 1, by omega, by go_num, by rw [h2.out]; go_num⟩
      case measure => simp [intOf]; omega
    · have hz : (catB (ss.take k)).length = (catB ss).length := by rw [List.take_of_length_le (by omega)]
      rw [hz]
      clear hz
      go_wp2_with fail
      refine (bgrow_any _ _ (by omega)).mono ?_
      rintro e w0 ⟨v0, rfl, hown0, hb0⟩
      obtain ⟨A0, c0, rfl, hO0⟩ := OR.of_own hown0
      go_wp2_with fail
      go_loopw [6, 27] (BInv w ss) (fun _ i _ => ss.length - (intOf i).toNat)
      case atStart => exact ⟨0, A0, c0, Nat.zero_le _, rfl, rfl, hO0, hb0⟩
      case round =>
        obtain ⟨k, Ak, ck, hk, rfl, rfl, hown, hb⟩ := hrel
        by_cases hlt : k < ss.length
        · have c1 := (hb.cell (p := ⟨g, o + k, none⟩) hS.lt).trans (hS.cell k _ (List.getElem?_eq_getElem hlt))
          have hvs := (hS.vs _ (List.getElem_mem hlt)).below hb
          have hle := catB_le ss (k + 1)
          rw [catB_take ss k hlt, List.length_append] at hle
          obtain ⟨A', c', w1, hrun, hown', hg'⟩ := app_src (P := Tryz.prog) Tryz.underlying90 boolInfo rfl wr w.heap.size 90 Ak ck _ hown (ss[k]).A (ss[k]).c _ hvs (by intro u hu; obtain ⟨x, _, rfl⟩ := List.mem_map.1 hu; rfl) (by simp; omega) (by decide) hb.size
          have hb1 : Below w.heap.size w w1 := hb.grown hg' hb.size (fun j hj => (World.ownsRow.lt hown j hj).1)
          rw [← List.map_append, ← catB_take ss k hlt] at hrun hown'
          simp only [List.length_map] at hrun
          have HR := hideP hrun
          clear hrun hown hvs hS hg'
          generalize ss[k] = s at c1 HR hle
          go_wp2_with (at_builtin; refine Lib.wpList_append_run _ rfl _ _ _ _ rfl _ _ rfl rfl _ _ HR.out ?_)
          go_roundw
          case rel => exact ⟨k + 1, A', c', by omega, by go_num, rfl, hown', hb1⟩
          case measure => simp [intOf]; omega
        · rw [List.take_of_length_le (by omega)] at hown ⊢
          go_wp2_with fail
          go_ret
          exact ⟨Ak, ck, rfl, hown, hb⟩
theorem bconcat2 (w : World) (g : Nat) (hg : g = w.heap.size) (A1 A2 : Option Addr) (n1 n2 c1 c2 : Nat) (l1 l2 : List Bool) (e1 : n1 = l1.length) (e2 : n2 = l2.length)
    (p1 : VS w A1 (l1.map Value.bool)) (p2 : VS w A2 (l2.map Value.bool)) (hn : l1.length + l2.length ≤ 1000000) :
    Calls Tryz.prog 103 #[.slice (some ⟨g, 0, none⟩) 2 2] (w.alloc (.cells #[.slice A1 n1 c1, .slice A2 n2 c2] 90)) fun e w' => ∃ A c, e = .returned (.slice A (l1 ++ l2).length c) ∧ OR w' w.heap.size 4 A c ((l1 ++ l2).map Value.bool) ∧ Below w.heap.size w w' := by
  subst hg e1 e2
  have hb := (Below.refl w.heap.size w).alloc (Nat.le_refl _) (.cells #[.slice A1 l1.length c1, .slice A2 l2.length c2] 90)
  have h := bconcat_any w.heap.size 0 2 [⟨A1, c1, l1⟩, ⟨A2, c2, l2⟩] (w.alloc (.cells #[.slice A1 l1.length c1, .slice A2 l2.length c2] 90))
    ⟨by simp, fun j s hj => by
      match j with
      | 0 => simp at hj; subst hj; simp
      | 1 => simp at hj; subst hj; simp
      | j + 2 => simp at hj, fun s hs => by
      simp at hs
      rcases hs with rfl | rfl
      · exact p1.below hb
      · exact p2.below hb⟩ (by simp [catB]; omega) (by simp)
  have e : catB [⟨A1, c1, l1⟩, ⟨A2, c2, l2⟩] = l1 ++ l2 := by simp [catB]
  rw [e] at h
  exact h.mono fun e w' ⟨A, c, h1, h2, h3⟩ => ⟨A, c, h1, h2.mono hb.size, hb.trans (h3.mono hb.size)⟩
end Go.Proofs.YtefdipjhjgmokaaGreatDoor

set_option linter.unusedVariables false
set_option linter.unusedSimpArgs false
namespace Go.Proofs.YtefdipjhjgmokaaGreatDoor
open Go.RowKit

set_option maxHeartbeats 400000 in
set_option maxRecDepth 100000 in
theorem map_ok (B g : Nat) (m : Mp) (l : List Pr) (q : Dv) (w : World) (h : PB w B g m l q) :
    Calls Tryz.prog 152 #[.pointer (some ⟨g, 0, none⟩)] w
      fun e w' => ∃ A ca O co, e = .returned (.agg #[.slice A m.cs.length ca, .slice O m.os.length co]) ∧ MO w' w.heap.size ⟨A, ca, m.cs, O, co, m.os⟩ ∧ Below w.heap.size w w' := by
  have hb0 := (Below.refl w.heap.size w).alloc (Nat.le_refl _) (.cells #[.slice none 0 0, .slice none 0 0] 34)
  have hP := h.below hb0
  have hfew := h.okm.few
  have hlen := h.okm.len
  have HCL := hideP (fun (W : World) (h : PB W B g m l q) => clone_any m W h.mo.ms (by omega) (by omega))
  have x := Box.new w 34 #[.slice none 0 0, .slice none 0 0]
  have z1 := hP.c0
  have z2 := hP.c1
  clear h hfew hlen
  go_enter Tryz.func152, Tryz.ntmps152
  go_wp2_with fail
  refine (HCL.out _ hP).mono ?_
  rintro e w2 ⟨A', ca', O', co', rfl, hn, hb2⟩
  have hb3 := hb0.trans (hb2.mono hb0.size)
  replace x := x.below hb2
  have f0 := x.frozen 0
  have f1 := (x.set 0 (.slice A' m.cs.length ca')).frozen 1
  have d0 := x.cell 0 (v := .slice none 0 0) rfl
  have d1 := (x.set 0 (.slice A' m.cs.length ca')).cell 1 (v := .slice none 0 0) rfl
  have o2 := (x.set 0 (.slice A' m.cs.length ca')).set 1 (.slice O' m.os.length co')
  have q0 := o2.cell 0 (v := .slice A' m.cs.length ca') rfl
  have q1 := o2.cell 1 (v := .slice O' m.os.length co') rfl
  have HF := hideP (res_set (w := w) x (Nat.le_refl _) (hn.mono hb0.size) hb3 (.slice A' m.cs.length ca') (.slice O' m.os.length co'))
  clear HCL hP hn hb2 hb3 hb0 z1 z2 x o2
  go_wp2_with fail
  exact bodyPost_ret (v := .agg #[.slice A' m.cs.length ca', .slice O' m.os.length co']) (by simp [results, Tryz.results152, go_sem, q0, q1]) rfl ⟨A', ca', O', co', rfl, HF.out.1, HF.out.2⟩
end Go.Proofs.YtefdipjhjgmokaaGreatDoor

set_option linter.unusedVariables false
set_option linter.unusedSimpArgs false
namespace Go.Proofs.YtefdipjhjgmokaaGreatDoor
open Go.RowKit

/-- while New runs -/
structure NwH (w : World) (g : Nat) (m : Mp) (l : List Pr) (q : Dv) (wr : World) : Prop where
  mh : MH w g m wr
  own : q.Own wr w.heap.size m.cs m.os l 4
  low : w.heap.size ≤ g
theorem NwH.below {w wr w' : World} {g : Nat} {m : Mp} {l : List Pr} {q : Dv} (h : NwH w g m l q wr) (hb : Below wr.heap.size wr w') : NwH w g m l q w' := ⟨h.mh.below hb, h.own.below hb, h.low⟩
/-- a partitioned store is handed back -/
def RetNw (w : World) (cs : List ByteArray) (os : List Int) (l : List Pr) (e : Ending) (w' : World) : Prop :=
  ∃ (g : Nat) (A : Option Addr) (ca : Nat) (O : Option Addr) (co : Nat) (q : Dv), e = .returned (.tuple #[.pointer (some ⟨g, 0, none⟩), .int .i64 0]) ∧ PB w' w.heap.size g ⟨A, ca, cs, O, co, os⟩ l q ∧ Below w.heap.size w w'

set_option maxHeartbeats 2000000 in
set_option maxRecDepth 100000 in
theorem new_ok (m : Mp) (A : Option Addr) (c : Nat) (l : List Pr) (w : World) (hm : MS w m) (hA : PS w w.heap.size A l) (hok : OkM m.cs m.os) (hokl : Ok l) :
    Calls Tryz.prog 84 #[.agg #[.slice m.A m.cs.length m.ca, .slice m.O m.os.length m.co], .slice A l.length c] w (RetNw w m.cs m.os l) := by
  have hH := MH.new hm
  have hps := (hA.below hH.be).more hH.be.size
  obtain ⟨z1, z2⟩ := hH.c
  go_enter Tryz.func84, Tryz.ntmps84
  go_wp2_with fail
  generalize w.alloc _ = w1 at hH hps z1 z2 ⊢
  generalize hg : w.heap.size = g at hH z1 z2 ⊢
  refine (divide_ok m A c l _ hH.ms hps hok hokl).mono ?_
  rintro e w2 ⟨q, rfl, hq, hb2⟩
  have hN : NwH w g m l q w2 := ⟨hH.below hb2, hq.mono hH.be.size, by omega⟩
  clear hH hps hb2 z1 z2 hq hA
  simp only [Dv.ar]
  obtain ⟨a0, n0, c0, e0⟩ : ∃ a n c, q.s m.cs m.os l 0 = .slice a n c := ⟨_, _, _, rfl⟩
  obtain ⟨a1, n1, c1, e1⟩ : ∃ a n c, q.s m.cs m.os l 1 = .slice a n c := ⟨_, _, _, rfl⟩
  obtain ⟨a2, n2, c2, e2⟩ : ∃ a n c, q.s m.cs m.os l 2 = .slice a n c := ⟨_, _, _, rfl⟩
  obtain ⟨a3, n3, c3, e3⟩ : ∃ a n c, q.s m.cs m.os l 3 = .slice a n c := ⟨_, _, _, rfl⟩
  rw [e0, e1, e2, e3]
  have HE := hideP (show q.s m.cs m.os l 0 = .slice a0 n0 c0 ∧ q.s m.cs m.os l 1 = .slice a1 n1 c1 ∧ q.s m.cs m.os l 2 = .slice a2 n2 c2 ∧ q.s m.cs m.os l 3 = .slice a3 n3 c3 from ⟨e0, e1, e2, e3⟩)
  clear e0 e1 e2 e3
  have hN3 := hN.below ((Below.refl _ _).alloc (Nat.le_refl _) (.cells #[.slice a0 n0 c0, .slice a1 n1 c1, .slice a2 n2 c2, .slice a3 n3 c3] 192))
  have y := Box.new w2 192 #[.slice a0 n0 c0, .slice a1 n1 c1, .slice a2 n2 c2, .slice a3 n3 c3]
  clear hN
  go_wp2_with fail
  generalize w2.alloc _ = w3 at hN3 y ⊢
  generalize w2.heap.size = gd at y ⊢
  have HS := hideP (fun (W : World) (h : NwH w g m l q W) (y : Box W gd 192 #[.slice a0 n0 c0, .slice a1 n1 c1, .slice a2 n2 c2, .slice a3 n3 c3]) =>
    show (W.cell? ⟨g, 0, none⟩ = some (.slice m.A m.cs.length m.ca) ∧ W.cell? ⟨g, 1, none⟩ = some (.slice m.O m.os.length m.co)) ∧ W.cell? ⟨gd, 0, none⟩ = some (.slice a0 n0 c0) ∧ W.cell? ⟨gd, 1, none⟩ = some (.slice a1 n1 c1) ∧ W.cell? ⟨gd, 2, none⟩ = some (.slice a2 n2 c2) ∧ W.cell? ⟨gd, 3, none⟩ = some (.slice a3 n3 c3) from
      ⟨h.mh.c, y.cell 0 rfl, y.cell 1 rfl, y.cell 2 rfl, y.cell 3 rfl⟩)
  have HCL := hideP (fun (W : World) (h : NwH w g m l q W) => clone_any m W h.mh.ms (by have := hok.few; omega) (by have := hok.few; have := hok.len; omega))
  have HFIN := hideP (fun (W : World) (h : NwH w g m l q W) (A' : Option Addr) (ca' : Nat) (O' : Option Addr) (co' : Nat) (hn : MO W w.heap.size ⟨A', ca', m.cs, O', co', m.os⟩) =>
    show RetNw w m.cs m.os l (.returned (.tuple #[.pointer (some ⟨W.heap.size, 0, none⟩), .int .i64 0])) (W.alloc (.cells #[.slice A' m.cs.length ca', .slice O' m.os.length co', .slice a0 n0 c0, .slice a1 n1 c1, .slice a2 n2 c2, .slice a3 n3 c3] 197)) from by
      have hb := (Below.refl W.heap.size W).alloc (Nat.le_refl _) (.cells #[.slice A' m.cs.length ca', .slice O' m.os.length co', .slice a0 n0 c0, .slice a1 n1 c1, .slice a2 n2 c2, .slice a3 n3 c3] 197)
      refine ⟨W.heap.size, A', ca', O', co', q, rfl, ⟨?_, hn.below hb, h.own.below hb, hok, hokl, h.mh.be.size⟩, h.mh.be.trans (hb.mono h.mh.be.size)⟩
      obtain ⟨e0, e1, e2, e3⟩ := HE.out
      simp only [e0, e1, e2, e3]
      exact Box.new _ _ _)
  replace hN3 := hN3.below (Below.refl _ _).drew
  replace y := y.drew
  have hlow := hN3.low
  clear HE hok hokl
  go_region_held3 (fun W => (W.cell? ⟨g, 0, none⟩ = some (.slice m.A m.cs.length m.ca) ∧ W.cell? ⟨g, 1, none⟩ = some (.slice m.O m.os.length m.co)) ∧ W.cell? ⟨gd, 0, none⟩ = some (.slice a0 n0 c0) ∧ W.cell? ⟨gd, 1, none⟩ = some (.slice a1 n1 c1) ∧ W.cell? ⟨gd, 2, none⟩ = some (.slice a2 n2 c2) ∧ W.cell? ⟨gd, 3, none⟩ = some (.slice a3 n3 c3)) (first | with_reducible exact HS.out _ hN4 y4 | with_reducible exact HS.out _ hN3 y | with_reducible exact hS5) (first
    | (go_at_call 136; refine (HCL.out _ hN3).mono ?_; rintro e w4 ⟨A', ca', O', co', rfl, hn, hb4⟩; have hN4 := hN3.below hb4; have y4 := y.below hb4; have HF := hideP (HFIN.out w4 hN4 A' ca' O' co' (hn.mono hN3.mh.be.size)); have hS5 := HS.out _ (hN4.below ((Below.refl _ _).alloc (Nat.le_refl _) (.cells #[.slice A' m.cs.length ca', .slice O' m.os.length co', .slice a0 n0 c0, .slice a1 n1 c1, .slice a2 n2 c2, .slice a3 n3 c3] 197))) (y4.alloc _)))
  all_goals
    go_wp2_with fail
    go_ret2
    exact HF.out
end Go.Proofs.YtefdipjhjgmokaaGreatDoor
