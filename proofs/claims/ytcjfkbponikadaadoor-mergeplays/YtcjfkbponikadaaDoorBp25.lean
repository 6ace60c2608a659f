/-
  The document's Close.
  merge.New.
-/
import Derived.Test.YtcjfkbponikadaaDoorBp12
import Derived.Test.YtcjfkbponikadaaDoorBp11
import Derived.Laws.MakeOwn
set_option linter.unusedVariables false
set_option linter.unusedSimpArgs false
namespace Go.Proofs.YtcjfkbponikadaaDoor
open Go.RowKit

set_option maxHeartbeats 2000000 in
set_option maxRecDepth 100000 in
theorem rclose_any (s : Rs) (w0 : World) (B : Nat) (i : Int) (w : World) (h : s.Ok w0 w B) :
    Calls Tryd.prog 13 #[.pointer (some ⟨s.g, 0, none⟩), .int .i64 i] w fun e w' => ∃ s', e = .returned (.tuple #[.int .i64 (closeN s.ct i), .int .i64 (closeQ s.ct i)]) ∧ s.To w0 w B s' w' (closeC s.ct i) := by
  have HH := hideP (ris_any s w0 B i w h)
  have hlen : s.ct.length = s.ins.length := by simp [Rs.ct, ctM]
  by_cases hin : 0 ≤ i ∧ i < (s.ct.length : Int)
  · rw [decide_eq_true hin] at HH
    obtain ⟨n, rfl⟩ : ∃ n : Nat, i = n := ⟨i.toNat, by omega⟩
    have hn : n < s.ins.length := by omega
    obtain ⟨x, hx⟩ : ∃ x, s.ins[n]? = some x := ⟨_, List.getElem?_eq_getElem hn⟩
    obtain ⟨k, hk⟩ := h.rg.pos hx
    have hxb := h.gm.bs n x hx
    have hcx : s.ct[n]? = some (ctI x) := by simp [Rs.ct, ctM, hx]
    have hcl : (ctI x).length = x.bs.length := by simp [ctI]
    have c0 := h.rg.box.cell 0 (v := .slice s.AI s.ins.length s.cI) rfl
    obtain ⟨gi, hAI, p0⟩ := h.rg.cell_ hx
    have g1 : (0 : Int) ≤ (n : Int) := by omega
    have g2 : (n : Int) < (s.ins.length : Int) := by omega
    by_cases hfull : 61 ≤ x.bs.length
    · obtain ⟨q1, q2, q3⟩ := closeQ_full (b := ctI x) hcx (by omega)
      rw [q1, q2, q3]
      have HT := hideP (Rs.To.same h (Below.refl _ _))
      have d1 : (60 : Int) < (x.bs.length : Int) := by omega
      rw [hAI] at c0
      clear h hin q1 q2 q3 hcx hlen hk hcl
      go_enter Tryd.func13, Tryd.ntmps13
      go_wp2_with fail
      refine HH.out.mono ?_
      rintro e w' ⟨rfl, rfl⟩
      go_wp2_with fail
      go_ret2
      exact ⟨s, rfl, HT.out⟩
    · obtain ⟨q1, q2, q3⟩ := closeQ_ok (b := ctI x) hcx (by omega)
      rw [q1, q2, q3, hcl]
      have d1 : ¬ (60 : Int) < (x.bs.length : Int) := by omega
      have bd := (Below.refl w.heap.size w).drew
      obtain ⟨A', c', w2, gi', hrun, hAI', c1, fz, hRG, hFr, hF⟩ := (h.rg.below bd).close hx (h.below bd).size (by omega) 59
      rw [hAI] at hAI'
      injection hAI' with e
      injection e with e
      subst e
      have hG2 := h.gm.close hx (by omega) A' c'
      have hct : ctM (s.ins.set n ⟨A', c', x.bs ++ [bt0]⟩) = closeM s.ct n := ct_close hx A' c'
      have hct2 : totM (ctM (s.ins.set n ⟨A', c', x.bs ++ [bt0]⟩)) = totM (ctM s.ins) := by rw [ct_close hx, tot_close (b := ctI x) (by simp [ctM, hx])]
      have hbe : Below w0.heap.size w0 (w2.setCell ⟨gi, n, none⟩ (.slice A' (x.bs ++ [bt0]).length c')) := hFr.below (fun q hq => Nat.le_trans h.lb (h.lo hq).1) (Nat.le_trans h.lb h.size) (h.be.trans (bd.mono h.be.size))
      have HT := hideP (show s.To w0 w B ⟨s.g, s.AI, s.cI, s.ins.set n ⟨A', c', x.bs ++ [bt0]⟩⟩ (w2.setCell ⟨gi, n, none⟩ (.slice A' (x.bs ++ [bt0]).length c')) (closeM s.ct n) from
        ⟨rfl, ⟨hRG, by simp only; rw [hct2]; exact hG2, hbe, h.lb⟩, hct, (Fr.of_below bd).comp hFr, hF⟩)
      have al := (Below.refl w.heap.size w).alloc (Nat.le_refl _) (.cells #[.slice none 0 0] 23)
      have c0a := (h.rg.below al).box.cell 0 (v := .slice s.AI s.ins.length s.cI) rfl
      obtain ⟨_, e, p0a⟩ := (h.rg.below al).cell_ hx
      rw [hAI] at e
      injection e with e
      injection e with e
      subst e
      have c03 := hRG.box.cell 0 (v := .slice s.AI (s.ins.set n ⟨A', c', x.bs ++ [bt0]⟩).length s.cI) rfl
      have c02 : w2.cell? ⟨s.g, 0, none⟩ = some (.slice s.AI s.ins.length s.cI) := by
        have hne : s.g ≠ gi := fun e => by
          have t1 := hRG.box.ty
          have t2 := own_ty hRG.row (b := gi) (by rw [hAI]; rfl)
          exact absurd (t1.inj (show Ty _ s.g 59 by rw [e]; exact t2)) (by decide)
        have := c03
        rw [List.length_set] at this
        rw [← this]
        exact (World.cell?_of_block (Below.heap_setCell w2 _ _ _ (fun e => hne e))).symm
      replace hrun : (Builtin.append_ #[59, 59] 59 #[.slice x.A x.bs.length x.c, .slice (some ⟨w.heap.size, 0, none⟩) 1 1]).run Tryd.prog (w.alloc (.cells #[.slice none 0 0] 23)).drew = .ok (.slice A' (x.bs ++ [bt0]).length c') w2 := hrun
      have HRN := hideP hrun
      unfold inV at c1
      rw [hAI] at c0 c0a c02
      clear h hin q1 q2 q3 hcx hlen hcl hRG hFr hF hG2 hct hct2 bd al hrun hk hAI hbe c03
      generalize (x.bs ++ [bt0]).length = m2 at HRN HT
      generalize x.bs.length = m1 at HRN c1 p0 p0a hxb d1 hfull ⊢
      generalize x.A = xA at HRN c1 p0 p0a
      generalize x.c = xc at HRN c1 p0 p0a
      go_enter Tryd.func13, Tryd.ntmps13
      go_wp2_with fail
      refine HH.out.mono ?_
      rintro e w' ⟨rfl, rfl⟩
      go_wp2_with fail
      go_region_law (refine step_append_runM _ rfl _ _ _ _ rfl _ _ rfl rfl _ _ HRN.out ?_)
      all_goals
        go_wp2_with fail
        go_ret2
        exact ⟨_, rfl, HT.out⟩
  · rw [decide_eq_false hin] at HH
    obtain ⟨q1, q2, q3⟩ := closeQ_none (ct := s.ct) (i := i) hin
    rw [q1, q2, q3]
    have HT := hideP (Rs.To.same h (Below.refl _ _))
    clear h hin q1 q2 q3 hlen
    go_enter Tryd.func13, Tryd.ntmps13
    go_wp2_with fail
    refine HH.out.mono ?_
    rintro e w' ⟨rfl, rfl⟩
    go_wp2_with fail
    go_ret2
    exact ⟨s, rfl, HT.out⟩
end Go.Proofs.YtcjfkbponikadaaDoor

set_option linter.unusedVariables false
set_option linter.unusedSimpArgs false
namespace Go.Proofs.YtcjfkbponikadaaDoor
open Go.RowKit

theorem inpInfo : (Tryd.prog.info? 55).map (fun i => (i.zero, i.size, i.bytes)) = some (some (.slice none 0 0), 1, 24) := by kernel_rfl
theorem made_nils (n : Nat) : (madeCells (Value.slice none 0 0).cells (n * 1)).toList = List.replicate n (.slice none 0 0) := by
  rw [Nat.mul_one, madeCells, Array.toList_map]
  apply List.ext_getElem?
  intro i
  simp [Value.cells, Nat.mod_one]
  by_cases h : i < n <;> simp [h, List.getElem?_replicate]
theorem run_make_one (w : World) : (Instr.makeSlice 55 (.int .i64 1) (.int .i64 1)).run Tryd.prog w = .ok (.slice (some ⟨w.heap.size, 0, none⟩) 1 1) (w.alloc (.cells #[.slice none 0 0] 64)) := by
  obtain ⟨i0, hi0, hz0, hz1, hz2⟩ := info_parts batInfo
  have h := run_make (P := Tryd.prog) w 55 64 i0 _ Tryd.underlying55 hi0 hz0 .i64 .i64 1 1 (by decide) (by decide) (by rw [hz2]; decide) (by decide)
  rw [hz1] at h
  have e : madeCells (Value.slice none 0 0).cells (1 * 1) = #[.slice none 0 0] := Array.toList_inj.1 (made_nils 1)
  have e2 : (Int.toNat 1 : Nat) = 1 := rfl
  rw [e2, e] at h
  exact h
theorem OR.of_box1 {w : World} {g B : Nat} {t : TypeId} {v : Value} (h : Box w g t #[v]) (hB : B ≤ g) : OR w B t (some ⟨g, 0, none⟩) 1 [v] :=
  ⟨rfl, .inr ⟨g, 1, #[v], rfl, hB, h, Nat.le_refl _, by unfold maxLen; decide, rfl, rfl⟩⟩
/-- while the inputs are made -/
structure NwM (w : World) (g gi n : Nat) (rows : List In) (wr : World) : Prop where
  box : Box wr g 53 #[.slice (some ⟨gi, 0, none⟩) n n, .int .i64 0]
  low : w.heap.size ≤ g
  row : OR wr w.heap.size 55 (some ⟨gi, 0, none⟩) n (rows.map inV ++ List.replicate (n - rows.length) (.slice none 0 0))
  inp : ∀ x ∈ rows, x.bs = [bt0] ∧ OR wr w.heap.size 64 x.A x.c [.slice none 0 0]
  ap : rows.Pairwise fun x y => blk x.A ≠ blk y.A
  len : rows.length ≤ n
  be : Below w.heap.size w wr
/-- one input more -/
theorem NwM.step {w wr : World} {g gi n : Nat} {rows : List In} (h : NwM w g gi n rows wr) (hl : rows.length < n) :
    (wr.alloc (.cells #[.slice none 0 0] 64)).cell? ⟨g, 0, none⟩ = some (.slice (some ⟨gi, 0, none⟩) n n) ∧
      (wr.alloc (.cells #[.slice none 0 0] 64)).frozen? ⟨gi, rows.length, none⟩ = false ∧ (wr.alloc (.cells #[.slice none 0 0] 64)).cell? ⟨gi, rows.length, none⟩ = some (.slice none 0 0) ∧
      NwM w g gi n (rows ++ [⟨some ⟨wr.heap.size, 0, none⟩, 1, [bt0]⟩]) ((wr.alloc (.cells #[.slice none 0 0] 64)).setCell ⟨gi, rows.length, none⟩ (.slice (some ⟨wr.heap.size, 0, none⟩) 1 1)) := by
  have al := (Below.refl wr.heap.size wr).alloc (Nat.le_refl _) (.cells #[.slice none 0 0] 64)
  have hbx := h.box.below al
  have hrow := h.row.below al
  have hnew := OR.of_box1 (Box.new wr 64 #[.slice none 0 0]) h.be.size
  have hll : (rows.map inV ++ List.replicate (n - rows.length) (Value.slice none 0 0)).length = n := by simp; omega
  have hs := hrow.set_ (k := rows.length) (by rw [hll]; exact hl) (.slice (some ⟨wr.heap.size, 0, none⟩) 1 1)
  have ti : Ty (wr.alloc (.cells #[.slice none 0 0] 64)) gi 55 := own_ty hrow rfl
  have gs := grown_set (wr.alloc (.cells #[.slice none 0 0] 64)) gi rows.length (.slice (some ⟨wr.heap.size, 0, none⟩) 1 1)
  have gne : g ≠ gi := fun e => absurd (hbx.ty.inj (show Ty _ g 55 by rw [e]; exact ti)) (by decide)
  have hlo : w.heap.size ≤ gi := (World.ownsRow.lt h.row gi rfl).1
  refine ⟨hbx.cell 0 rfl, hrow.frozen_ _, ?_, hbx.grown gs (fun e => gne (by injection e)), h.low, ?_, fun x hx => ?_, ?_, by simp; omega, (h.be.trans (al.mono h.be.size)).setCell (p := ⟨gi, rows.length, none⟩) hlo _⟩
  · obtain ⟨b', o', e, _, hc⟩ := hrow.vs rows.length (.slice none 0 0) (by rw [List.getElem?_append_right (by simp), List.length_map, Nat.sub_self, List.getElem?_replicate, if_pos (by omega)])
    injection e with e
    injection e with e1 e2 _
    subst e1; subst e2
    rw [Nat.zero_add] at hc
    exact hc
  · have e : (rows.map inV ++ List.replicate (n - rows.length) (Value.slice none 0 0)).set rows.length (.slice (some ⟨wr.heap.size, 0, none⟩) 1 1) = (rows ++ [(⟨some ⟨wr.heap.size, 0, none⟩, 1, [bt0]⟩ : In)]).map inV ++ List.replicate (n - (rows ++ [(⟨some ⟨wr.heap.size, 0, none⟩, 1, [bt0]⟩ : In)]).length) (.slice none 0 0) := by
      obtain ⟨m, hm⟩ : ∃ m, n - rows.length = m + 1 := ⟨n - rows.length - 1, by omega⟩
      rw [List.set_append_right _ _ (by simp), hm, List.length_append, List.length_singleton, show n - (rows.length + 1) = m by omega, List.map_append, List.append_assoc]
      simp [List.replicate_succ, inV]
    rw [← e]; exact hs
  · rcases List.mem_append.1 hx with hx | hx
    · exact ⟨(h.inp x hx).1, own_keep ((h.inp x hx).2.below al) gs fun q hq => by injection hq with hq; subst hq; exact ⟨_, ti, by decide⟩⟩
    · rw [List.mem_singleton] at hx
      subst hx
      exact ⟨rfl, own_keep hnew gs fun q hq => by injection hq with hq; subst hq; exact ⟨_, ti, by decide⟩⟩
  · rw [List.pairwise_append]
    refine ⟨h.ap, List.pairwise_singleton _ _, fun x hx y hy e => ?_⟩
    rw [List.mem_singleton] at hy
    subst hy
    have := (World.ownsRow.lt (h.inp x hx).2 wr.heap.size (by rw [ownBlock_slice, e]; rfl)).2
    omega
/-- all inputs are made -/
theorem NwM.done {w wr : World} {g gi n : Nat} {rows : List In} (h : NwM w g gi n rows wr) (hl : rows.length = n) (h1 : 1 ≤ n) (h4 : n ≤ 4) :
    (⟨g, some ⟨gi, 0, none⟩, n, rows, 0⟩ : Ms).Ok wr w.heap.size ∧ ctM rows = List.replicate n [[]] := by
  have hat : ∀ {i : Nat} {x : In}, rows[i]? = some x → x.bs = [bt0] ∧ OR wr w.heap.size 64 x.A x.c [.slice none 0 0] := fun hi => h.inp _ (List.mem_of_getElem? hi)
  have hb1 : ∀ {i k : Nat} {x : In} {b : Bt}, rows[i]? = some x → x.bs[k]? = some b → b = bt0 := fun hi hk => by
    rw [(hat hi).1] at hk
    have := List.mem_of_getElem? hk
    simpa using this
  have hct : ctM rows = List.replicate n [[]] := by
    rw [← hl]
    refine List.eq_replicate_iff.2 ⟨by simp [ctM], fun b hb => ?_⟩
    obtain ⟨x, hx, rfl⟩ := List.mem_map.1 hb
    unfold ctI
    rw [(h.inp x hx).1]; rfl
  refine ⟨⟨⟨?_, h.low, ?_, fun i x hi => ?_, fun i x hi e => ?_, fun i x k b hi hk => ?_, fun i j x y hi hj e => ?_, fun i j k l x y a b hi hj hk hl2 hnn => ?_, fun i x k b hi hk e he => ?_⟩, ⟨fun e => ?_, by simp only; omega, fun i x hi => ?_, ?_, by simp only; omega⟩⟩, hct⟩
  · have := h.box
    simp only [hl]
    exact this
  · have := h.row
    rw [hl, Nat.sub_self, List.replicate_zero, List.append_nil] at this
    exact this
  · rw [(hat hi).1]; exact (hat hi).2
  · rw [(hat hi).1] at e; cases e
  · rw [hb1 hi hk]; exact EW.nil _ _
  · rcases Nat.lt_trichotomy i j with hlt | rfl | hgt
    · obtain ⟨hi', rfl⟩ := List.getElem?_eq_some_iff.1 hi
      obtain ⟨hj', rfl⟩ := List.getElem?_eq_some_iff.1 hj
      exact absurd e (List.pairwise_iff_getElem.1 h.ap i j hi' hj' hlt)
    · rfl
    · obtain ⟨hi', rfl⟩ := List.getElem?_eq_some_iff.1 hi
      obtain ⟨hj', rfl⟩ := List.getElem?_eq_some_iff.1 hj
      exact absurd e.symm (List.pairwise_iff_getElem.1 h.ap j i hj' hi' hgt)
  · rw [hb1 hi hk] at hnn; exact absurd rfl hnn
  · rw [hb1 hi hk] at he; simp [bt0] at he
  · simp only at e; rw [e] at hl; simp at hl; omega
  · simp only at hi; rw [(hat hi).1]; simp
  · simp only
    rw [hct]
    clear hct hl h h1 h4 hat hb1
    induction n with
    | zero => rfl
    | succ n ih => simp only [totM, List.replicate_succ, List.map_cons, List.sum_cons] at ih ⊢; rw [← ih]; rfl
def NwI (w : World) (g gi n : Nat) (i : Value) (wr : World) : Prop := ∃ rows : List In, i = .int .i64 (rows.length : Nat) ∧ NwM w g gi n rows wr
theorem NwM.below {w wr w' : World} {g gi n : Nat} {rows : List In} (h : NwM w g gi n rows wr) (hb : Below wr.heap.size wr w') : NwM w g gi n rows w' :=
  ⟨h.box.below hb, h.low, h.row.below hb, fun x hx => ⟨(h.inp x hx).1, (h.inp x hx).2.below hb⟩, h.ap, h.len, h.be.trans (hb.mono h.be.size)⟩
theorem NwI.drew_ {w wr : World} {g gi n : Nat} {i i' : Value} (h : NwI w g gi n i wr) (hi : i' = i) : NwI w g gi n i' wr.drew := by
  obtain ⟨rows, e, h⟩ := h
  exact ⟨rows, hi.trans e, h.below (Below.refl _ _).drew⟩
/-- a Merge is handed back -/
def RetNm (w : World) (n : Nat) (e : Ending) (w' : World) : Prop := ∃ s : Ms, e = .returned (.tuple #[.pointer (some ⟨s.g, 0, none⟩), .int .i64 0]) ∧ s.Ok w' w.heap.size ∧ s.ct = List.replicate n [[]] ∧ Below w.heap.size w w'
set_option maxHeartbeats 1000000 in
set_option maxRecDepth 100000 in
theorem mnew_bad (n : Int) (w : World) (h : ¬ (1 ≤ n ∧ n ≤ 4)) :
    Calls Tryd.prog 4 #[.int .i64 n] w fun e w' => e = .returned (.tuple #[.pointer none, .int .i64 1]) ∧ w = w' := by
  by_cases h1 : n < 1
  · go_enter Tryd.func4, Tryd.ntmps4
    go_wp2_with fail
    go_ret2
    exact ⟨rfl, rfl⟩
  · have h2 : 4 < n := by omega
    have h3 : decide (n < 1) = false := decide_eq_false h1
    go_enter Tryd.func4, Tryd.ntmps4
    go_wp2_with fail
    go_ret2
    exact ⟨rfl, rfl⟩
set_option maxHeartbeats 1000000 in
set_option maxRecDepth 100000 in
theorem mnew_ok (n : Nat) (w : World) (h1 : 1 ≤ n) (h4 : n ≤ 4) :
    Calls Tryd.prog 4 #[.int .i64 (n : Int)] w (RetNm w n) := by
  obtain ⟨i0, hi0, hz0, hz1, hz2⟩ := info_parts inpInfo
  obtain ⟨w2, hmk, hown, hg2⟩ := run_make_full (P := Tryd.prog) w w.heap.size 51 55 i0 _ 1 Tryd.underlying51 hi0 hz0 hz1 .i64 .i64 n (by rw [hz2]; omega) (by unfold maxLen; omega) (Nat.le_refl _)
  rw [made_nils] at hown
  have hb2 : Below w.heap.size w w2 := ⟨hg2.os, hg2.tape, hg2.output, hg2.size, fun k hk => hg2.block k hk (by simp)⟩
  have al := hb2.alloc hb2.size (.cells #[.slice (some ⟨w.heap.size, 0, none⟩) n n, .int .i64 0] 53)
  have hN : NwM w w2.heap.size w.heap.size n [] (w2.alloc (.cells #[.slice (some ⟨w.heap.size, 0, none⟩) n n, .int .i64 0] 53)) :=
    ⟨Box.new _ _ _, hb2.size, by
      have : OR w2 w.heap.size 55 (some ⟨w.heap.size, 0, none⟩) n (List.replicate n (.slice none 0 0)) := by unfold OR; rw [List.length_replicate]; exact hown
      exact this.below ((Below.refl w2.heap.size w2).alloc (Nat.le_refl _) _), by simp, .nil, Nat.zero_le _, al⟩
  have HN := hideP (show NwI w w2.heap.size w.heap.size n (.int .i64 0) _ from ⟨[], rfl, hN⟩)
  have c0 := hN.box.cell 0 (v := .slice (some ⟨w.heap.size, 0, none⟩) n n) rfl
  have g1 : ¬ ((n : Int) < 1) := by omega
  have g2 : ¬ ((4 : Int) < (n : Int)) := by omega
  have d1 : decide ((n : Int) < 1) = false := decide_eq_false g1
  clear hown hg2 hb2 al hN hi0 hz0 hz1 hz2
  have hm1 := run_make_one
  have HB := hideP h1
  have HB4 := hideP h4
  generalize hgi : w.heap.size = gi at HN hmk c0
  have HGI := hideP hgi
  clear hgi
  go_enter Tryd.func4, Tryd.ntmps4
  go_wp2_with fail
  generalize w2.heap.size = g at HN c0 ⊢
  generalize w2.alloc _ = w3 at HN c0 ⊢
  go_wp2_with fail
  go_loopw [21] (NwI w g gi n) (fun i _ => n - (intOf i).toNat)
  case atStart => exact HN.out
  case round =>
    obtain ⟨rows, rfl, hN⟩ := hrel
    clear HN c0 hmk
    by_cases hlt : rows.length < n
    · have hl := hN.len
      obtain ⟨c0a, fz, c1a, hS⟩ := hN.step hlt
      have c0 := hN.box.cell 0 (v := .slice (some ⟨gi, 0, none⟩) n n) rfl
      have HS := hideP (show NwI w g gi n (.int .i64 ((rows.length + 1 : Nat) : Int)) _ from ⟨_, by simp, hS⟩)
      have g3 : (0 : Int) ≤ (rows.length : Int) := by omega
      have g4 : (rows.length : Int) < (n : Int) := by omega
      have HNN := hideP (show NwI w g gi n (.int .i64 ((rows.length : Nat) : Int)) wr from ⟨_, rfl, hN⟩)
      clear hN hS
      generalize rows.length = k at c0a fz c1a HS g3 g4 hlt hl HNN ⊢
      go_wp2_with fail
      go_region
      all_goals
        go_wp2_with fail
        go_roundw
        case rel => exact HS.out.drew_ (by go_num)
        case measure => simp [intOf]; omega
    · obtain ⟨hS, hct⟩ := hN.done (by have := hN.len; omega) HB.out HB4.out
      have HF := hideP (show RetNm w n (.returned (.tuple #[.pointer (some ⟨g, 0, none⟩), .int .i64 0])) wr from ⟨_, rfl, hS, hct, hN.be⟩)
      have hrl : rows.length = n := by have := hN.len; omega
      rw [hrl]
      clear hN hS hct hlt hrl
      go_wp2_with fail
      go_ret2
      exact HF.out
end Go.Proofs.YtcjfkbponikadaaDoor
